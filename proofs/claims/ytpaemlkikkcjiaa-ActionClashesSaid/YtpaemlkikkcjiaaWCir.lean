/- circle: the ties that contradict each other. -/
import Derived.Test.YtpaemlkikkcjiaaWRev
namespace Go.Proofs.Ytpaemlkikkcjiaa
open Go.RowKit

theorem below_ge {a b : Nat} {w w' : World} (e : b = a) (h : Below a w w') : Below b w w' := by rw [e]; exact h
/-- What stands while circle runs. -/
structure CirF (P : List Te) (ts : List T3) (by_ : Nat → Nat) (q n : Nat) : Prop where
  low : ∀ j, bck P by_ q j ≤ n
  tie : ∀ j, ∃ t, ts[by_ (bck P by_ q j)]? = some t ∧ t.a = (bck P by_ q (j + 1) : Int) - 1
theorem cirF_of {n q m : Nat} {M : Int} {ts : List T3} {by_ : Nat → Nat} (ho : OkL n M ts) (h : Way n (teL ts) by_ q m) : CirF (teL ts) ts by_ q n := by
  have key : ∀ j, ∃ t, ts[by_ (bck (teL ts) by_ q j)]? = some t ∧ t.a = (bck (teL ts) by_ q (j + 1) : Int) - 1 ∧ bck (teL ts) by_ q (j + 1) ≤ n := fun j => by
    obtain ⟨e, he, _, ha⟩ := h.tie j
    unfold teL at he
    rw [List.getElem?_map, Option.map_eq_some_iff] at he
    obtain ⟨t, ht, rfl⟩ := he
    obtain ⟨a1, a2, _⟩ := ho t (List.mem_of_getElem? ht)
    refine ⟨t, ht, ?_, ?_⟩
    · rw [← ha]; simp only [teOf, plc]; omega
    · rw [← ha]; simp only [teOf, plc]; omega
  refine ⟨fun j => ?_, fun j => by obtain ⟨t, h1, h2, _⟩ := key j; exact ⟨t, h1, h2⟩⟩
  cases j with
  | zero => exact h.low
  | succ j => obtain ⟨t, _, _, h3⟩ := key j; exact h3
set_option maxHeartbeats 4000000 in
set_option maxRecDepth 100000 in
theorem circle_any (B : Nat) (w : World) (p gt ct gh gb n q m : Nat) (ts : List T3) (h : Nat → Int) (by_ : Nat → Nat) (M : Int)
    (hm : RaM B w p gt ct gh gb n ts h by_) (ho : OkL n M ts) (hway : Way n (teL ts) by_ q m) (hn : n ≤ 64) (hLs : ts.length ≤ 1000) :
    Calls Try.prog 63 #[.pointer (some ⟨p, 0, none⟩), .int .i64 ((q : Int) - 1)] w fun e w' =>
      ∃ g cap, e = .returned (.slice (some ⟨g, 0, none⟩) m cap) ∧ Vals w' (some ⟨g, 0, none⟩) (fl (fun j => (by_ (bck (teL ts) by_ (bck (teL ts) by_ q (n + 1)) (m - 1 - j)) : Int)) m) ∧ Below w.heap.size w w' := by
  have hcf := cirF_of ho hway
  have hadd : ∀ j, bck (teL ts) by_ q (n + 1 + j) = bck (teL ts) by_ (bck (teL ts) by_ q (n + 1)) j := fun j => bck_add _ _ _ _ j
  have hcirc := hway.circ
  have hmn := hway.le
  obtain ⟨pl, hpl⟩ : ∃ pl : Nat → Nat, pl = bck (teL ts) by_ q := ⟨_, rfl⟩
  have h0 : pl 0 = q := by rw [hpl]; rfl
  have hlow : ∀ j, pl j ≤ n := by rw [hpl]; exact hcf.low
  have htie : ∀ j, ∃ t, ts[by_ (pl j)]? = some t ∧ t.a = (pl (j + 1) : Int) - 1 := by rw [hpl]; exact hcf.tie
  have hback : pl (n + 1 + m) = pl (n + 1) := by rw [hpl, hadd]; exact hcirc.back
  have hdist : ∀ i, 0 < i → i < m → pl (n + 1 + i) ≠ pl (n + 1) := by
    intro i h1 h2 e
    rw [hpl, hadd] at e
    have := hcirc.dist i 0 h2 (by omega) e
    omega
  have hpos := hcirc.pos
  have hres : ∀ j, pl (n + 1 + j) = bck (teL ts) by_ (bck (teL ts) by_ q (n + 1)) j := by rw [hpl]; exact hadd
  have HRES := Lib.hid hres
  have HLOW := Lib.hid hlow
  have HTIE := Lib.hid htie
  have HBK := Lib.hid hback
  have HD := Lib.hid hdist
  have HM := Lib.hid hm
  have HOO := Lib.hid ho
  obtain ⟨i0, hi, hz0, hz1, hz2⟩ := info_parts infoInt
  have hsz0 : w.heap.size ≤ w.heap.size := Nat.le_refl _
  have H0 := Lib.hid h0
  rw [← h0]
  have z0 := hm.cells.2.1
  clear hcf hadd hcirc hway hpl hlow htie hback hdist hm ho hres h0
  obtain ⟨L, hL⟩ : ∃ L, L = ts.length := ⟨_, rfl⟩
  rw [← hL] at hLs
  have HL := Lib.hid hL
  clear hL
  go_enter Try.func63, Try.ntmps63
  go_wp2_with (fail)
  clear z0
  go_loopw [1, 13] (fun s t wr => ∃ i z : Nat, i ≤ n + 1 ∧ t = .int .i64 (i : Int) ∧ s = .int .i64 ((pl i : Int) - 1) ∧ wr = w.drewN z) (fun _ t _ => n + 1 - (intOf t).toNat)
  case atStart => exact ⟨0, 0, Nat.zero_le _, rfl, rfl, rfl⟩
  case round =>
    obtain ⟨i, z, hi2, rfl, rfl, rfl⟩ := hrel
    by_cases hlt : i < n + 1
    · have m1 := HM.out
      obtain ⟨z0, z1, z2⟩ := m1.cells
      rw [← HL.out] at z0
      obtain ⟨t, ht, hta⟩ := HTIE.out i
      have hlo := HLOW.out i
      have hlo2 := HLOW.out (i + 1)
      obtain ⟨gt', off, e1, hg, c0, _, _⟩ := m1.ties.at_ ht
      injection e1 with e1
      injection e1 with e2 e3
      subst e2 e3
      have hin : by_ (pl i) < L := by rw [HL.out]; exact (List.getElem?_eq_some_iff.1 ht).1
      have cb := m1.bs.int (k := pl i) (by omega)
      have hlt2 : (i : Int) < ((n + 1 : Nat) : Int) := by omega
      have hin2 : (by_ (pl i) : Int) < (L : Int) := by omega
      have hpi : (pl i : Int) < ((n + 1 : Nat) : Int) := by omega
      have hw1 : IntKind.i64.wrap ((pl i : Int) - 1 + 1) = (pl i : Int) := by rw [wrapI (by omega) (by omega)]; omega
      have hw2 : IntKind.i64.wrap (pl i : Int) = (pl i : Int) := wrapI (by omega) (by omega)
      rw [hta, Nat.zero_add] at c0
      have HM1 := Lib.hid m1
      clear m1 ht hta hg
      generalize hp1 : pl (i + 1) = p1 at *
      have HP1 := Lib.hid hp1
      clear hp1
      generalize by_ (pl i) = b1 at *
      generalize pl i = p0 at *
      go_wp2_with (fail)
      go_quiet (fail)
      go_wp2_with (fail)
      go_roundw
      case rel => exact ⟨i + 1, _, by omega, by go_num, by rw [HP1.out], rfl⟩
      case measure => simp [intOf]; omega
    · obtain rfl : i = n + 1 := by omega
      have hM0 := HM.out.drewN z
      have hbw := below_drewN (Below.refl w.heap.size w) z
      have hsz : (w.drewN z).heap.size = w.heap.size := rfl
      generalize w.drewN z = w1 at *
      have HM1 := Lib.hid hM0
      have HBW := Lib.hid hbw
      clear hM0 hbw HM
      obtain ⟨F, hF⟩ : ∃ F : Nat → Int, F = fun j => (by_ (pl (n + 1 + j)) : Int) := ⟨_, rfl⟩
      have HF := Lib.hid hF
      clear hF
      go_wp2_with (fail)
      go_loopw [5, 6, 7] (fun v s _ wr => ∃ i : Nat, i ≤ m ∧ s = .int .i64 ((pl (n + 1 + i) : Int) - 1) ∧ wr.ownsRow w.heap.size 3 1 v i (fl F i) ∧ (i = 0 → v = .slice none 0 0) ∧ (0 < i → v ≠ .slice none 0 0) ∧ Below w.heap.size w1 wr ∧ m - i = m - i) (fun v _ _ _ => match v with | .slice _ l _ => m - l | _ => 0)
      case atStart => exact ⟨0, Nat.zero_le _, rfl, own_nil _ _ _ _, fun _ => rfl, fun h => absurd h (by omega), Below.refl _ _, rfl⟩
      case round =>
        obtain ⟨i, hi2, rfl, hO, hz, hnz, hb, _⟩ := hrel
        by_cases hlt : i < m
        · have m1 := HM1.out.keep (below_ge hsz hb)
          obtain ⟨z0, z1, z2⟩ := m1.cells
          rw [← HL.out] at z0
          obtain ⟨t, ht, hta⟩ := HTIE.out (n + 1 + i)
          have hlo := HLOW.out (n + 1 + i)
          have hlo2 := HLOW.out (n + 1 + i + 1)
          have hin : by_ (pl (n + 1 + i)) < L := by rw [HL.out]; exact (List.getElem?_eq_some_iff.1 ht).1
          have cb := m1.bs.int (k := pl (n + 1 + i)) (by omega)
          have hin2 : (by_ (pl (n + 1 + i)) : Int) < (L : Int) := by omega
          have hpi : (pl (n + 1 + i) : Int) < ((n + 1 : Nat) : Int) := by omega
          have hw1 : IntKind.i64.wrap ((pl (n + 1 + i) : Int) - 1 + 1) = (pl (n + 1 + i) : Int) := by rw [wrapI (by omega) (by omega)]; omega
          have hw2 : IntKind.i64.wrap (pl (n + 1 + i) : Int) = (pl (n + 1 + i) : Int) := wrapI (by omega) (by omega)
          have hFi : F i = (by_ (pl (n + 1 + i)) : Int) := by rw [HF.out]
          have hdd : 0 < i → pl (n + 1 + i) ≠ pl (n + 1) := fun h => HD.out i h hlt
          have HT := Lib.hid ht
          have HTA := Lib.hid hta
          have HMM := Lib.hid m1
          have HFI := Lib.hid hFi
          have hblp : B ≤ w.heap.size ∧ True := ⟨by have := HM1.out.far; omega, trivial⟩
          clear m1 ht hta hFi
          generalize hp1 : pl (n + 1 + i + 1) = p1 at *
          have HP1 := Lib.hid hp1
          clear hp1
          generalize by_ (pl (n + 1 + i)) = b1 at *
          generalize pl (n + 1 + i) = p0 at *
          generalize pl (n + 1) = pz at *
          by_cases hi0 : i = 0
          · subst hi0
            obtain rfl := hz rfl
            go_upto_region 9 with (fail)
            have hx : Blk 3 (wr.alloc (.cells #[.int .i64 (b1 : Int)] 3)) wr.heap.size [.int .i64 (b1 : Int)] := Blk.new wr 3 [_]
            have hbl := below_on hb (by have := hb.size; omega) (below_new wr (.cells #[.int .i64 (b1 : Int)] 3))
            have hsz2 := hbl.size
            have HO1 := Lib.hid (own_nil (wr.alloc (.cells #[.int .i64 (b1 : Int)] 3)) w.heap.size 3 1)
            have HX := Lib.hid hx.vals0
            have HMX := Lib.hid (HMM.out.keep (below_new wr (.cells #[.int .i64 (b1 : Int)] 3)))
            clear hO hx hb z0 z1 z2 cb HMM
            go_upto_region 10 with (at_builtin; refine wpList_append_own _ rfl _ _ 24 rfl w.heap.size 3 i0 zInt 1 8 Try.underlying24 hi hz0 hz1 hz2 rfl (by decide) _ _ _ rfl HO1.out ⟨wr.heap.size, 0, none⟩ 1 _ [.int .i64 (b1 : Int)] rfl ?c1 (vals_cells HX.out) ?c2 ?c4 ?c5 ?c6 ?_)
            case c2 => rfl
            case c4 => unfold maxLen; omega
            case c6 => have := hsz2; simp at this; omega
            intro v' w2 hown hgr hne
            have hres := own_hd hown (by first | exact hne | simpa using hne)
            have hb2 := hbl.grown hgr (by rw [← hsz]; exact hsz2) (by simp [Value.ownBlock])
            have hfl : fl F 1 = [.int .i64 (b1 : Int)] := by
              have := HFI.out
              simp [fl, this]
            obtain ⟨g9, c9, rfl, q1, q2, q3, _, q5⟩ := hres
            have hO2 : OwnR w.heap.size 3 1 w2 (.slice (some ⟨g9, 0, none⟩) 1 c9) 1 (fl F 1) := by rw [hfl]; exact ⟨g9, c9, rfl, q1, q2, q3, rfl, q5⟩
            have m2 := HM1.out.keep (below_ge hsz hb2)
            obtain ⟨z0, _, _⟩ := m2.cells
            rw [← HL.out] at z0
            obtain ⟨gt', off, e1, hg, c0, _, _⟩ := m2.ties.at_ HT.out
            injection e1 with e1
            injection e1 with e2 e3
            subst e2 e3
            rw [HTA.out, Nat.zero_add] at c0
            have HO2 := Lib.hid (own_lift hO2)
            have HB2 := Lib.hid hb2
            clear hO2 hb2 m2 hg hown hgr hne q5 hfl HO1 HX HMX hbl
            go_wp2_with (fail)
            go_roundw
            case rel => exact ⟨1, by omega, by rw [← HP1.out], HO2.out.1, by omega, HB2.out⟩
            case measure => first | omega | (simp [intOf]; omega)
          · have hne := hnz (by omega)
            have hpz : ((p0 : Int) - 1 != (pz : Int) - 1) = true := by have := hdd (by omega); simp; omega
            have hpz2 : ((p0 : Int) != (pz : Int)) = true := by have := hdd (by omega); simp; omega
            have hpz3 : ¬ p0 = pz := hdd (by omega)
            obtain ⟨gv, cv, rfl, q1, q2, q3, q4, q5⟩ := own_hd hO hne
            have h1 : ((i : Int) == 0) = false := by simp; omega
            go_upto_region 9 with (fail)
            have hx : Blk 3 (wr.alloc (.cells #[.int .i64 (b1 : Int)] 3)) wr.heap.size [.int .i64 (b1 : Int)] := Blk.new wr 3 [_]
            have hbl := below_on hb (by have := hb.size; omega) (below_new wr (.cells #[.int .i64 (b1 : Int)] 3))
            have hsz2 := hbl.size
            have hO2 : OwnR w.heap.size 3 1 (wr.alloc (.cells #[.int .i64 (b1 : Int)] 3)) (.slice (some ⟨gv, 0, none⟩) i cv) i (fl F i) := OwnR.alloc ⟨gv, cv, rfl, q1, q2, q3, q4, q5⟩ _
            have hO3 := own_lift hO2
            have hbk := own_block hO2
            have HO1 := Lib.hid hO3.1
            have HNE := hO3.2
            clear hO2 hO3
            have HX := Lib.hid hx.vals0
            have HMX := Lib.hid (HMM.out.keep (below_new wr (.cells #[.int .i64 (b1 : Int)] 3)))
            clear hO hx hb z0 z1 z2 cb HMM

            go_upto_region 10 with (at_builtin; refine wpList_append_own _ rfl _ _ 24 rfl w.heap.size 3 i0 zInt 1 8 Try.underlying24 hi hz0 hz1 hz2 rfl (by decide) _ _ _ rfl HO1.out ⟨wr.heap.size, 0, none⟩ 1 _ [.int .i64 (b1 : Int)] rfl ?d1 (vals_cells HX.out) ?d2 ?d4 ?d5 ?d6 ?_)
            case d2 => rfl
            case d4 => unfold maxLen; omega
            case d5 => omega
            case d6 => have := hsz2; simp at this; omega
            intro v' w2 hown hgr hne2
            have hres := own_hd hown (by first | (intro e; exact HNE (hne2.1 e).1) | simpa using hne2 | exact fun e => hne2 e)
            have hb2 := hbl.grown hgr (by rw [← hsz]; exact hsz2) hbk
            have hfl : fl F i ++ [.int .i64 (b1 : Int)] = fl F (i + 1) := by
              have := HFI.out
              simp [fl, List.range_succ, this]
            rw [hfl] at hres
            obtain ⟨g9, c9, rfl, q1, q2, q3, q4, q5⟩ := hres
            have hO2 : OwnR w.heap.size 3 1 w2 (.slice (some ⟨g9, 0, none⟩) (i + 1) c9) (i + 1) (fl F (i + 1)) := ⟨g9, c9, rfl, q1, q2, q3, q4, q5⟩
            have m2 := HM1.out.keep (below_ge hsz hb2)
            obtain ⟨z0, _, _⟩ := m2.cells
            rw [← HL.out] at z0
            obtain ⟨gt', off, e1, hg, c0, _, _⟩ := m2.ties.at_ HT.out
            injection e1 with e1
            injection e1 with e2 e3
            subst e2 e3
            rw [HTA.out, Nat.zero_add] at c0
            have HO2 := Lib.hid (own_lift hO2)
            have HB2 := Lib.hid hb2
            clear hO2 hb2 m2 hg hown hgr hne2 q5 hfl HO1 HX HMX hbl
            go_wp2_with (fail)
            go_roundw
            case rel => exact ⟨i + 1, by omega, by rw [← HP1.out]; rfl, HO2.out.1, by first | omega | simp, by first | exact HB2.out | exact ⟨by simp, HB2.out⟩⟩
            case measure => first | omega | (simp [intOf]; omega)
        · obtain rfl : i = m := by omega
          have hbk := HBK.out
          obtain ⟨g, cap, rfl, hgB, hcp, hcm, _, hhd⟩ := own_hd hO (hnz (by omega))
          rw [hbk]
          have h1 : ((i : Int) == 0) = false := by simp; omega
          have h2 : ((pl (n + 1) : Int) - 1 != (pl (n + 1) : Int) - 1) = false := by simp
          generalize pl (n + 1) = pz at *
          rw [Nat.mul_one] at hhd
          have HRV := Lib.hid (reverse_any g cap i F w.heap.size wr hhd hgB (by omega))
          clear hhd hO hz hnz
          go_wp2_with (go_at_call 79; refine (HRV.out).mono ?_; rintro e w9 ⟨⟨x, rfl⟩, hh9, hb9⟩)
          go_ret
          refine ⟨g, cap, rfl, ?_, (HBW.out.trans hb).trans hb9⟩
          have e : (fun j => F (i - 1 - j)) = fun j => (by_ (bck (teL ts) by_ (bck (teL ts) by_ q (n + 1)) (i - 1 - j)) : Int) := by
            funext j; rw [HF.out]; simp only; rw [HRES.out]
          rw [H0.out, ← e]; exact hh9.vals
end Go.Proofs.Ytpaemlkikkcjiaa
