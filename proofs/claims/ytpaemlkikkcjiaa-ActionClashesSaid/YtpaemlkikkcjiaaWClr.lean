/- The reference's Clash of a list that is one. -/
import Derived.Test.YtpaemlkikkcjiaaWFew
import Derived.Test.YtpaemlkikkcjiaaWHld
import Derived.Test.YtpaemlkikkcjiaaWFlo
import Derived.Test.YtpaemlkikkcjiaaClaL
import Derived.Deep.CutRange
namespace Go.Proofs.Ytpaemlkikkcjiaa
open Go.RowKit

theorem inB_of {x a b : Int} (h1 : a ≤ x) (h2 : x ≤ b) : inB x a b = true := by unfold inB; simp; omega
set_option maxHeartbeats 4000000 in
set_option maxRecDepth 100000 in
theorem refClash_true (k L c m cap gl gt : Nat) (ts : List T3) (ix V : Nat → Nat) (W : Nat → Int) (w : World) (hA : TiesAt w (some ⟨gt, 0, none⟩) ts) (hL : L = ts.length)
    (hlp : Loop (allT k ts) k m ix V W) (hl : Vals w (some ⟨gl, 0, none⟩) (fl (fun j => (ix j : Int)) m)) (hk : k ≤ 64) (hLs : L ≤ 512) :
    Calls Try.prog 32 #[.int .i64 (k : Int), .slice (some ⟨gt, 0, none⟩) L c, .slice (some ⟨gl, 0, none⟩) m cap] w fun e w' => e = .returned (.bool true) ∧ Below w.heap.size w w' := by
  have hA1 : Vals (w.alloc (.cells #[] 39)) (some ⟨gt, 0, none⟩) (tc ts) := Vals.alloc hA _
  have ho := own_new w 39 3
  have hbA := below_new w (.cells #[] 39)
  obtain ⟨i0, hi, hz0, hz1, hz2⟩ := info_parts infoTie
  have HA := Lib.hid hA1
  have HO := Lib.hid ho
  have HL := Lib.hid hL
  have HLP := Lib.hid hlp
  have HI := Lib.hid hl
  clear hA1 ho hA hL hlp hl
  go_enter Try.func32, Try.ntmps32
  go_wp2_with (at_builtin
               refine wpList_append_own _ rfl _ _ 22 rfl w.heap.size 39 i0 zTie 3 24 Try.underlying22 hi hz0 hz1 hz2 rfl (by decide) _ _ _ rfl HO.out ⟨gt, 0, none⟩ L _ (tc ts) rfl ?c1 (vals_cells HA.out) (tc_one ts) ?c4 ?c5 (by simp) ?_)
  case c1 => rw [tc_len, HL.out]
  case c4 => unfold maxLen; omega
  case c5 => omega
  intro v' w1 hown hgr hne
  have hb1 := hbA.grown hgr hbA.size (by simp [Value.ownBlock])
  have hres := own_hd hown (by simpa using hne)
  have HR : Hid (OwnR w.heap.size 39 3 w1 v' L (tc ts)) := Lib.hid (by simpa using hres)
  clear hown hgr hne hres HA HO hbA
  go_wp2_with (fail)
  go_loopw [7, 8] (fun v t wr => ∃ i : Nat, i ≤ k ∧ t = .int .i64 (i : Int) ∧ OwnR w.heap.size 39 3 wr v (L + i) (tc (ts ++ floorT i)) ∧ Below w.heap.size w wr) (fun _ t _ => k - (intOf t).toNat)
  case atStart => exact ⟨0, Nat.zero_le _, rfl, by have : ts ++ floorT 0 = ts := by simp [floorT]
                                                   rw [this]; exact HR.out, hb1⟩
  case round =>
    clear HR hb1
    obtain ⟨i, hi', rfl, hO, hb⟩ := hrel
    by_cases hlt : i < k
    · have hO1 : OwnR w.heap.size 39 3 (wr.alloc (.cells #[.int .i64 (-1), .int .i64 (i : Int), .int .i64 0] 39)) u7 (L + i) (tc (ts ++ floorT i)) := hO.alloc _
      have hx : Blk 39 (wr.alloc (.cells #[.int .i64 (-1), .int .i64 (i : Int), .int .i64 0] 39)) wr.heap.size [.int .i64 (-1), .int .i64 (i : Int), .int .i64 0] := Blk.new wr 39 _
      have hbl := below_on hb hb.size (below_new wr (.cells #[.int .i64 (-1), .int .i64 (i : Int), .int .i64 0] 39))
      have ho := own_lift hO1
      have hbk := own_block hO1
      have hxv := hx.vals0
      have HX := Lib.hid hxv
      have HO1 := Lib.hid ho.1
      have HNE := ho.2
      clear hO hb hO1 hx hxv ho
      have hsz := hbl.size
      go_wp2_with (at_builtin
                   refine wpList_append_own _ rfl _ _ 22 rfl w.heap.size 39 i0 zTie 3 24 Try.underlying22 hi hz0 hz1 hz2 rfl (by decide) _ _ _ rfl HO1.out ⟨wr.heap.size, 0, none⟩ 1 _ [.int .i64 (-1), .int .i64 (i : Int), .int .i64 0] rfl ?c1 (vals_cells HX.out) ?c2 ?c4 ?c5 ?c6 ?_)
      case c1 => rfl
      case c2 => intro v hv; simp at hv; rcases hv with rfl | rfl | rfl <;> rfl
      case c4 => unfold maxLen; omega
      case c5 => omega
      case c6 => exact hsz
      intro v' w2 hown hgr hne
      have hres := own_hd hown (by first | (intro e; exact HNE (hne.1 e).1) | simpa using hne | exact fun e => hne e)
      have hb2 := hbl.grown hgr hsz hbk
      have happ : tc (ts ++ floorT i) ++ [.int .i64 (-1), .int .i64 (i : Int), .int .i64 0] = tc (ts ++ floorT (i + 1)) := by rw [floorT_succ, ← List.append_assoc, tc_append (ts ++ floorT i)]; rfl
      rw [happ] at hres
      have HR := Lib.hid hres
      clear hres hown hgr happ hne
      go_wp2
      go_roundw
      case rel => exact ⟨i + 1, by omega, by go_num, HR.out, hb2⟩
      case measure => simp [intOf]; omega
    · obtain rfl : i = k := by omega
      obtain ⟨ga, ca, rfl, hgB, hgw, hcap, hvals⟩ := hO.vals
      have HT : Hid (TiesAt wr (some ⟨ga, 0, none⟩) (allT i ts)) := Lib.hid hvals
      have HI1 := Lib.hid (Vals.keep HI.out hb)
      have HB := Lib.hid hb
      have HLA : Hid ((allT i ts).length = L + i) := Lib.hid (by rw [allT_len, HL.out])
      have hpos := HLP.out.pos
      have hle := HLP.out.le
      clear hO hb hvals HI hi' hlt
      go_wp2_with (fail)
      go_loopw [9, 10] (fun s t w2 => ∃ j : Nat, j ≤ m ∧ t = .int .i64 (j : Int) ∧ s = .int .i64 (W m - W (m - j)) ∧ w2 = wr) (fun _ t _ => m - (intOf t).toNat)
      case atStart => exact ⟨0, Nat.zero_le _, rfl, by simp, rfl⟩
      case round =>
        obtain ⟨j, hj, rfl, rfl, rfl⟩ := hrel
        by_cases hlt : j < m
        · obtain ⟨t, ht, ha, hb, hW, hl1, hl2⟩ := HLP.out.at_ j hlt
          obtain ⟨g, off, e1, hg, c0, c1, c2⟩ := (HT.out).at_ ht
          injection e1 with e1
          injection e1 with e2 e3
          subst e2 e3
          obtain ⟨g', off', e1, hg', cl⟩ := fl_vals HI1.out hlt
          injection e1 with e1
          injection e1 with e2 e3
          subst e2 e3
          have hin : ix j < L + i := by have := (List.getElem?_eq_some_iff.1 ht).1; have := HLA.out; omega
          have hin2 : (ix j : Int) < (L : Int) + (i : Int) := by omega
          have hlt2 : (j : Int) < (m : Int) := by omega
          have hib : inB (ix j : Int) 0 ((L : Int) + (i : Int) - 1) = true := inB_of (by omega) (by omega)
          have hwl : IntKind.i64.wrap ((L : Int) + (i : Int) - 1) = (L : Int) + (i : Int) - 1 := wrapI (by omega) (by omega)
          have q1 := HLP.out.bnd m (Nat.le_refl _)
          have q2 := HLP.out.bnd (m - j) (by omega)
          have hws : IntKind.i64.wrap (W m - W (m - j) + t.l) = W m - W (m - 1 - j) := by rw [wrapI (by omega) (by omega)]; omega
          rw [Nat.zero_add] at cl c2
          obtain ⟨s0, hs0⟩ : ∃ s0, s0 = W m - W (m - j) := ⟨_, rfl⟩
          obtain ⟨s1, hs1⟩ : ∃ s1, s1 = W m - W (m - 1 - j) := ⟨_, rfl⟩
          rw [← hs0, ← hs1] at hws
          rw [← hs0]
          have HS1 := Lib.hid hs1
          obtain ⟨ta, tb, tl⟩ := t
          simp only at c2 hws
          generalize ix j = x at *
          clear ht ha hb hW hl1 hl2 c0 c1 q1 q2 hs0 hs1 hpos hin
          go_wp2_with (go_at_call 59; refine (in_any _ _ _ _).mono ?_; rintro e w3 ⟨rfl, rfl⟩)
          go_roundw
          case rel => exact ⟨j + 1, by omega, by go_num, by rw [HS1.out, Nat.sub_sub, Nat.add_comm 1 j], trivial⟩
          case measure => simp [intOf]; omega
        · obtain rfl : j = m := by omega
          have hsum : 0 < W j - W (j - j) := by rw [Nat.sub_self, HLP.out.zero]; have := HLP.out.sum; omega
          obtain ⟨s0, hs0⟩ : ∃ s0, s0 = W j - W (j - j) := ⟨_, rfl⟩
          rw [← hs0] at hsum ⊢
          clear hs0
          go_wp2_with (fail)
          go_loopw [11, 12, 13] (fun t _ _ w3 => ∃ p : Nat, p ≤ j ∧ t = .int .i64 (p : Int) ∧ Below wr.heap.size wr w3) (fun t _ _ _ => j - (intOf t).toNat)
          case atStart => exact ⟨0, Nat.zero_le _, rfl, Below.refl _ _⟩
          case round =>
            obtain ⟨p, hp, rfl, hb3⟩ := hrel
            by_cases hlt2 : p < j
            · obtain ⟨t, ht, ha, hb, _, _, _⟩ := HLP.out.at_ p hlt2
              have hmod : (p + 1) % j < j := Nat.mod_lt _ hpos
              obtain ⟨t2, ht2, ha2, _, _, _, _⟩ := HLP.out.at_ ((p + 1) % j) hmod
              rw [HLP.out.next hlt2] at ha2
              obtain ⟨g, off, e1, hg, c0, c1, c2⟩ := ((HT.out).keep hb3).at_ ht
              injection e1 with e1
              injection e1 with e2 e3
              subst e2 e3
              obtain ⟨g, off, e1, hg, k0, k1, k2⟩ := ((HT.out).keep hb3).at_ ht2
              injection e1 with e1
              injection e1 with e2 e3
              subst e2 e3
              obtain ⟨g', off', e1, hg', cl⟩ := fl_vals (Vals.keep HI1.out hb3) hlt2
              injection e1 with e1
              injection e1 with e2 e3
              subst e2 e3
              obtain ⟨g', off', e1, hg', cl2⟩ := fl_vals (Vals.keep HI1.out hb3) hmod
              injection e1 with e1
              injection e1 with e2 e3
              subst e2 e3
              have hin : ix p < L + i := by have := (List.getElem?_eq_some_iff.1 ht).1; have := HLA.out; omega
              have hin2 : (ix p : Int) < (L : Int) + (i : Int) := by omega
              have hi3 : ix ((p + 1) % j) < L + i := by have := (List.getElem?_eq_some_iff.1 ht2).1; have := HLA.out; omega
              have hi4 : (ix ((p + 1) % j) : Int) < (L : Int) + (i : Int) := by omega
              have hlt3 : (p : Int) < (j : Int) := by omega
              have hjp : ¬ (j : Int) = 0 := by omega
              have hjp2 : ¬ j = 0 := by omega
              have hw1 : IntKind.i64.wrap ((p : Int) + 1) = (p : Int) + 1 := wrapI (by omega) (by omega)
              have hrm : ((p : Int) + 1).tmod (j : Int) = (((p + 1) % j : Nat) : Int) := by
                have : ((p : Int) + 1) = ((p + 1 : Nat) : Int) := by omega
                rw [this]; rfl
              have hmod2 : (((p + 1) % j : Nat) : Int) < (j : Int) := by omega
              rw [hb] at c1
              rw [ha2] at k0
              rw [Nat.zero_add] at c0 c1 k0 k1 k2 cl cl2
              obtain ⟨ta, tb, tl⟩ := t
              obtain ⟨na, nb, nl⟩ := t2
              simp only at c0 c1 k0 k1 k2 ha hb
              obtain ⟨vb, hvb⟩ : ∃ vb : Int, vb = (V (j - 1 - p) : Int) - 1 := ⟨_, rfl⟩
              rw [← hvb] at c1 k0 hb
              have HPP := Lib.hid ha
              have HBB := Lib.hid hb
              have HTT := Lib.hid ht
              generalize hx2 : ix ((p + 1) % j) = x2 at *
              generalize hx1 : ix p = x1 at *
              have HX1 := Lib.hid hx1
              generalize (p + 1) % j = pn at *
              have HB3 := Lib.hid hb3
              clear ht ha hb ht2 ha2 hvb hx2 hx1 hb3 c0 c2
              go_upto_region 17 with (fail)
              have hbn := below_new wr (.cells #[.int .i64 vb, .int .i64 nb, .int .i64 nl] 39)
              have hq : Blk 39 (wr.alloc (.cells #[.int .i64 vb, .int .i64 nb, .int .i64 nl] 39)) wr.heap.size [.int .i64 vb, .int .i64 nb, .int .i64 nl] := Blk.new wr 39 _
              have hb4 := below_on HB3.out HB3.out.size hbn
              clear c1 k0 k1 k2 cl cl2 HB3 hbn
              generalize wr.alloc (.cells #[.int .i64 vb, .int .i64 nb, .int .i64 nl] 39) = W1 at *
              generalize wr.heap.size = q at *
              have n0 : W1.cell? ⟨q, 0, none⟩ = some (.int .i64 vb) := hq.cell 0
              obtain ⟨g, off, e1, hg, c0, c1, c2⟩ := ((HT.out).keep hb4).at_ HTT.out
              injection e1 with e1
              injection e1 with e2 e3
              subst e2 e3
              obtain ⟨g', off', e1, hg', cl⟩ := fl_vals (Vals.keep HI1.out hb4) hlt2
              injection e1 with e1
              injection e1 with e2 e3
              subst e2 e3
              rw [Nat.zero_add] at c0 c1 cl
              simp only [HX1.out] at cl
              simp only at c0 c1
              rw [HBB.out] at c1
              have hnb : (vb != vb) = false := by simp
              have HB4 := Lib.hid hb4
              clear hq hb4 c0 c2 hw1 hrm hmod2 hi3 hi4
              go_quiet (fail)
              go_wp2_with (fail)
              have hb5 := below_drewN HB4.out nq
              clear n0 c1 cl HB4 hnb
              generalize W1.drewN nq = W2 at *
              have HB5 := Lib.hid hb5
              clear hb5
              go_loopw [13] (fun t wr => ∃ r z : Nat, r ≤ p ∧ t = .int .i64 (r : Int) ∧ wr = W2.drewN z) (fun t _ => p - (intOf t).toNat)
              case atStart => exact ⟨0, 0, Nat.zero_le _, rfl, rfl⟩
              case round =>
                obtain ⟨r, z, hr, rfl, rfl⟩ := hrel
                have hb6 := below_drewN HB5.out z
                by_cases hlt4 : r < p
                · obtain ⟨t, ht, ha, _, _, _, _⟩ := HLP.out.at_ r (by omega)
                  have hap := HLP.out.apart hlt2 hlt4
                  obtain ⟨g, off, e1, hg, d0, _, _⟩ := ((HT.out).keep HB5.out).at_ ht
                  injection e1 with e1
                  injection e1 with e2 e3
                  subst e2 e3
                  obtain ⟨g, off, e1, hg, c0, _, _⟩ := ((HT.out).keep HB5.out).at_ HTT.out
                  injection e1 with e1
                  injection e1 with e2 e3
                  subst e2 e3
                  obtain ⟨g', off', e1, hg', cl⟩ := fl_vals (Vals.keep HI1.out HB5.out) hlt2
                  injection e1 with e1
                  injection e1 with e2 e3
                  subst e2 e3
                  obtain ⟨g', off', e1, hg', cm⟩ := fl_vals (Vals.keep HI1.out HB5.out) (i := r) (by omega)
                  injection e1 with e1
                  injection e1 with e2 e3
                  subst e2 e3
                  have hi5 : ix r < L + i := by have := (List.getElem?_eq_some_iff.1 ht).1; have := HLA.out; omega
                  have hi6 : (ix r : Int) < (L : Int) + (i : Int) := by omega
                  have hlt5 : (r : Int) < (p : Int) := by omega
                  have hlt6 : (r : Int) < (j : Int) := by omega
                  have hlt7 : r < j := by omega
                  rw [Nat.zero_add] at c0 cl d0 cm
                  simp only [HX1.out] at cl
                  simp only at c0
                  rw [HPP.out] at c0
                  rw [ha] at d0
                  have hne : (((V (j - r) : Int) - 1) == ((V (j - p) : Int) - 1)) = false := by simp; omega
                  generalize ((V (j - r) : Int) - 1) = va at *
                  generalize ((V (j - p) : Int) - 1) = vp at *
                  generalize ix r = xr at *
                  clear ht ha hap hb6
                  go_wp2_with (fail)
                  go_quiet (fail)
                  go_wp2_with (fail)
                  go_roundw
                  case rel => exact ⟨r + 1, _, by omega, by go_num, rfl⟩
                  case measure => simp [intOf]; omega
                · obtain rfl : r = p := by omega
                  go_wp2_with (fail)
                  go_roundw
                  case rel => exact ⟨r + 1, by omega, by go_num, hb6⟩
                  case measure => simp [intOf]; omega
            · obtain rfl : p = j := by omega
              have hd1 : decide (0 < p) = true := by simp; omega
              have hd2 : decide ((0 : Int) < (p : Int)) = true := by simp; omega
              have hd3 : decide ((0 : Int) < s0) = true := by simpa using hsum
              go_wp2
              go_ret
              exact ⟨rfl, below_on HB.out HB.out.size hb3⟩
end Go.Proofs.Ytpaemlkikkcjiaa
