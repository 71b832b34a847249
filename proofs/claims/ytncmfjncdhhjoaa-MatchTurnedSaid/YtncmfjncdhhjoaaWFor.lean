/- The walk of MatchForced. -/
import Derived.Test.YtncmfjncdhhjoaaTabW
import Derived.Test.YtncmfjncdhhjoaaMFor
import Derived.Test.YtncmfjncdhhjoaaWRTot
namespace Go.Proofs.Ytncmfjncdhhjoaa
open Go.RowKit

theorem good_eq3 {n m n' m' : Nat} {ls : List (List Int)} (h : Good n m ls) (g : Good n' m' ls) (h1 : 1 ≤ n) : n = n' ∧ m = m' := by
  refine ⟨h.rows.symm.trans g.rows, ?_⟩
  obtain ⟨l, hl, hm⟩ := h.row (i := 0) (by omega)
  exact hm.symm.trans (g.cols 0 l hl)
/-- A number brought into a range, as the laws do it. -/
theorem range_ex2 (v : Int) {n : Nat} (h0 : 1 ≤ n) (hm : n ≤ 1000000000) : ∃ r : Nat, r < n ∧ -(n : Int) < v.tmod (n : Int) ∧ v.tmod (n : Int) < (n : Int) ∧ (v.tmod (n : Int) + (n : Int)).tmod (n : Int) = (r : Int) := by
  have h2 := Int.emod_nonneg v (show (n : Int) ≠ 0 by omega)
  have h3 := Int.emod_lt_of_pos v (show (0 : Int) < n by omega)
  have h1 : v.tmod (n : Int) = if 0 ≤ v ∨ (n : Int) ∣ v then v % (n : Int) else v % (n : Int) - (n : Int) := by
    rw [Int.tmod_eq_emod]
    split
    · simp
    · rw [Int.natAbs_of_nonneg (by omega)]
  have hb : -(n : Int) < v.tmod (n : Int) ∧ v.tmod (n : Int) < (n : Int) := by
    rw [h1]
    split <;> omega
  refine ⟨(v % (n : Int)).toNat, by omega, hb.1, hb.2, ?_⟩
  rw [Int.toNat_of_nonneg h2, Int.tmod_eq_emod_of_nonneg (by omega), h1]
  split
  · rw [Int.add_emod_right, Int.emod_emod_of_dvd _ (Int.dvd_refl (n : Int))]
  · rw [Int.sub_add_cancel, Int.emod_emod_of_dvd _ (Int.dvd_refl (n : Int))]
/-- An assignment as a list of its columns. -/
theorem isAsg_of {n m : Nat} {c : Nat → Nat → Int} {to : Nat → Nat} (h : Asg n m c to) : IsAsg n m c ((List.range n).map fun i => (to i : Int)) ∧ ∀ i, i < n → colOf ((List.range n).map fun i => (to i : Int)) i = to i := by
  have hg : ∀ i, i < n → ((List.range n).map fun i => (to i : Int)).getD i 0 = (to i : Int) := fun i hi => by simp [List.getD_eq_getElem?_getD, hi]
  have hc : ∀ i, i < n → colOf ((List.range n).map fun i => (to i : Int)) i = to i := fun i hi => by unfold colOf; rw [hg i hi]; simp
  exact ⟨⟨by simp, fun i hi => by rw [hg i hi]; omega, ⟨fun i hi => by rw [hc i hi]; exact h.ok i hi, fun i j hi hj e => by rw [hc i hi, hc j hj] at e; exact h.inj i j hi hj e⟩⟩, hc⟩

set_option maxHeartbeats 8000000 in
set_option maxRecDepth 100000 in
theorem matchForced_any (A : Option Addr) (c L : Nat) (row : Int) (ls : List (List Int)) (w : World) (T : TabIn w A ls) (hL : L = ls.length) :
    Calls Try.prog 13 #[.slice A L c, .int .i64 row] w fun e w' => e = .returned (.bool true) ∧ Below w.heap.size w w' := by
  have htb := table_any A c L 20 22 ls w T hL (by omega) (by omega)
  have HTB := Lib.hid htb
  generalize tblL ls 20 22 = ts at *
  clear htb T hL
  go_enter Try.func13, Try.ntmps13
  go_wp2_with (first
    | (go_at_call 21; refine (HTB.out).mono ?_; rintro e w1 ⟨v, es, rfl, hH, hv, hN, hE, hl1⟩
       obtain ⟨g, cap, he, hT⟩ := hH.tab hv hN
       rw [hE] at hT
       rw [show es.length = ts.length by rw [← hE, List.length_map]] at he
       have HTT := Lib.hid hT
       have HHV := Lib.hid (And.intro hH (And.intro hv (And.intro hN hE)))
       clear hH hv hN hE hT
       subst he))
  have hck := refCheck_any w1.heap.size (some ⟨g, 0, none⟩) cap ts.length ts w1 HTT.out rfl
  cases hchk : chkT ts with
  | false =>
    have hce : ckE ts = 1 := by unfold ckE; rw [hchk]; rfl
    rw [hce] at hck
    have HCK := Lib.hid hck
    clear hck hce hchk
    refine (HCK.out).mono ?_
    rintro e w3 ⟨rfl, hl3⟩
    have hl13 := hl1.trans (hl3.mono hl1.size)
    go_wp2_with (go_at_call 26; refine (lives_any _).mono ?_; rintro e w4 ⟨rfl, hl4⟩)
    go_ret
    exact ⟨rfl, hl13.trans (hl4.mono hl13.size)⟩
  | true =>
    have hce : ckE ts = 0 := by unfold ckE; rw [hchk]; rfl
    rw [hce] at hck
    obtain ⟨n, m, hn, hm, h1, h2, h3, G⟩ := chkT_good hchk
    obtain ⟨g', cap', gs, cs, he', hTW⟩ := tw_of HHV.out.1 HHV.out.2.1 HHV.out.2.2.1 HHV.out.2.2.2 G
    rw [hn] at he'
    injection he' with e1 e2 e3
    injection e1 with e1
    injection e1 with e1
    generalize es.map (·.1) = rows at *
    have HCK := Lib.hid hck
    have HG := Lib.hid G
    have HCH := Lib.hid hchk
    have HNN := Lib.hid hn
    have HTW := Lib.hid hTW
    have HLT := Lib.hid (fun i hi => ((hTW.row i hi).lt : gs i < w1.heap.size))
    clear hck hce hchk hm G hn hTW HHV HTB e2
    subst e1 e3
    refine (HCK.out).mono ?_
    rintro e w3 ⟨rfl, hl3⟩
    have hl13 := hl1.trans (hl3.mono hl1.size)
    have HTT3 := Lib.hid ((HTT.out.keep hl3).mono hl3.size)
    have HTW3 := Lib.hid (HTW.out.keep hl3)
    rw [HNN.out]
    clear HCK HTT HTW
    have hbe := best_any (some ⟨g, 0, none⟩) cap n ts w3 HTT3.out HNN.out.symm
    have HBE := Lib.hid hbe
    clear hbe
    go_wp2_with (fail)
    refine (HBE.out).mono ?_
    intro e w5 hpost
    have hl5 := hpost.1
    have hl15 := hl13.trans (hl5.mono hl13.size)
    have HTT5 := Lib.hid ((HTT3.out.keep hl5).mono hl5.size)
    have HTW5 := Lib.hid (HTW3.out.keep hl5)
    clear HBE HTT3 HTW3
    rcases hpost.2 with ⟨hf, _⟩ | ⟨n', m', _, _, hG', _, hno, rfl⟩ | ⟨n', m', gt, gu, gv, to, u, v, _, hn', BO, rfl⟩
    · rw [HCH.out] at hf; cases hf
    · obtain ⟨rfl, rfl⟩ := good_eq3 HG.out hG' h1
      have q1 := hl15.trans ((below_new w5 (.cells #[.slice none 0 0, .slice none 0 0, .slice none 0 0, .int .i64 0] 35)).mono hl15.size)
      clear hno hG' hpost
      unfold zeroM
      go_wp2_with (go_at_call 26; refine (lives_any _).mono ?_; rintro e w8 ⟨rfl, hl8⟩)
      go_ret
      exact ⟨rfl, q1.trans (hl8.mono q1.size)⟩
    · obtain ⟨rfl, rfl⟩ := good_eq3 HG.out BO.good h1
      have HBO := Lib.hid BO
      clear BO hpost hn'
      obtain ⟨hia, hco⟩ := isAsg_of HBO.out.min.asg
      generalize hls : costN (cst ts) to n = cs0 at *
      have HCS := Lib.hid hls
      obtain ⟨O1, hO1⟩ : ∃ O, O = Obj.cells #[.slice (some ⟨gt, 0, none⟩) n n, .slice (some ⟨gu, 0, none⟩) n n, .slice (some ⟨gv, 0, none⟩) m m, .int .i64 cs0] 35 := ⟨_, rfl⟩
      have n1 := below_new w5 O1
      have q1 := hl15.trans (n1.mono hl15.size)
      have hbn : Blk 35 (w5.alloc O1) w5.heap.size [.slice (some ⟨gt, 0, none⟩) n n, .slice (some ⟨gu, 0, none⟩) n n, .slice (some ⟨gv, 0, none⟩) m m, .int .i64 cs0] := by rw [hO1]; exact Blk.new w5 35 _
      have htt := HBO.out.res.alloc O1
      have hto := refTotal_any w5.heap.size n m cap n n (some ⟨g, 0, none⟩) (some ⟨gt, 0, none⟩) ts ((List.range n).map fun i => (to i : Int)) (w5.alloc O1) (HTT5.out.keep n1) HG.out
        (by have := (Hd.of_blk htt).vals; rwa [fl_is] at this) (by simp) h1 h2 h3 (by omega)
      have HBN := Lib.hid hbn
      have HTO := Lib.hid hto
      have HIA := Lib.hid hia
      have HTG := Lib.hid htt
      have HTW6 := Lib.hid (HTW5.out.keep n1)
      clear hbn hto hia hco hls htt HTW5 HTT5
      subst hO1
      obtain ⟨r, hr, ht1, ht2, ht3⟩ := range_ex2 row h1 (by omega : n ≤ 1000000000)
      generalize htq : row.tmod (n : Int) = q at *
      have w1' : IntKind.i64.wrap (q + (n : Int)) = q + (n : Int) := wrapI (by omega) (by omega)
      have hz : ¬ (n : Int) = 0 := by omega
      have hz2 : ¬ n = 0 := by omega
      go_wp2_with (go_at_call 27; refine (HTO.out).mono ?_; rintro e w6 ⟨hl6, ⟨ha, rfl⟩ | ⟨hna, rfl⟩⟩)
      · have r1 := HBN.out.keep hl6
        have t1 := HTG.out.keep hl6
        have q2 := q1.trans (hl6.mono q1.size)
        have b3 : w3.heap.size ≤ w5.heap.size := hl5.size
        have b1 : w1.heap.size ≤ w3.heap.size := hl3.size
        have bt : w3.heap.size ≤ gt := HBO.out.far.1
        have HR1 := Lib.hid r1
        have HT1 := Lib.hid t1
        have HTW7 := Lib.hid (HTW6.out.keep hl6)
        clear r1 t1 hl6 HTW6 HTG HBN HTO HIA ha ht1 ht2 n1 htq
        go_loopw [10, 11] (fun t _ wr => ∃ i : Nat, i ≤ r + 1 ∧ t = .int .i64 (i : Int) ∧ Hid (∃ C, TW w.heap.size wr g cap n m rows gs cs C ∧ ∀ a k, a < n → k < m → C a k = forP r to (cst ts) i 0 a k) ∧
          Hid (Blk 35 wr w5.heap.size [.slice (some ⟨gt, 0, none⟩) n n, .slice (some ⟨gu, 0, none⟩) n n, .slice (some ⟨gv, 0, none⟩) m m, .int .i64 cs0]) ∧ Hid (Blk 3 wr gt (fl (fun i => (to i : Int)) n)) ∧ Below w.heap.size w wr) (fun t _ _ => r + 1 - (intOf t).toNat)
        case atStart => exact ⟨0, Nat.zero_le _, rfl, Lib.hid ⟨_, HTW7.out, fun a k _ _ => by unfold forP; rw [if_neg (by omega)]⟩, HR1, HT1, q2⟩
        case round =>
          clear HTW7 HR1 HT1 q2
          obtain ⟨i, hi, rfl, HC, HR, HT, hl⟩ := hrel
          by_cases hir : i ≤ r
          · have hd : decide ((i : Int) ≤ (r : Int)) = true := by simp; omega
            have hin : i < n := by omega
            go_wp2_with (fail)
            go_loopw [11] (fun t wr => ∃ k : Nat, k ≤ m ∧ t = .int .i64 (k : Int) ∧ Hid (∃ C, TW w.heap.size wr g cap n m rows gs cs C ∧ ∀ a b, a < n → b < m → C a b = forP r to (cst ts) i k a b) ∧
              Hid (Blk 35 wr w5.heap.size [.slice (some ⟨gt, 0, none⟩) n n, .slice (some ⟨gu, 0, none⟩) n n, .slice (some ⟨gv, 0, none⟩) m m, .int .i64 cs0]) ∧ Hid (Blk 3 wr gt (fl (fun i => (to i : Int)) n)) ∧ Below w.heap.size w wr) (fun t _ => m - (intOf t).toNat)
            case atStart => exact ⟨0, Nat.zero_le _, rfl, HC, HR, HT, hl⟩
            case round =>
              clear HC HR HT hl
              obtain ⟨k, hk, rfl, ⟨C, hTW, hC⟩, HR, HT, hl⟩ := hrel
              have rc := hTW.rowCell hin
              have hin2 : (i : Int) < (n : Int) := by omega
              have HTW8 := Lib.hid hTW
              have HC := Lib.hid hC
              clear hTW hC
              by_cases hkm : k < m
              · have hkm2 : (k : Int) < (m : Int) := by omega
                have hdk : decide ((k : Int) < (m : Int)) = true := by simp; omega
                have c0 := HR.out.cell 0
                have ct : wr.cell? ⟨gt, i, none⟩ = some (.int .i64 (to i : Int)) := HT.out.int (f := fun i => (to i : Int)) hin
                have fz := HTW8.out.frozen hin k
                have cx := HTW8.out.cell hin hkm
                have hg1 : w5.heap.size ≠ gs i := by have := HLT.out i hin; omega
                have hg2 : gt ≠ gs i := by have := HLT.out i hin; omega
                have hBg : w.heap.size ≤ gs i := (HTW8.out.far.2 i hin).1
                have hCs : ∀ x, (forM r to (cst ts) i k = x) → ∀ a b, a < n → b < m → upd C i (upd (C i) k x) a b = forP r to (cst ts) i (k + 1) a b := by
                  intro x hx a b ha hb
                  by_cases e : a = i
                  · subst e
                    rw [upd_at]
                    by_cases e2 : b = k
                    · subst e2
                      rw [upd_at, ← hx]; unfold forP; rw [if_pos (by omega)]
                    · rw [upd_ne e2, HC.out a b ha hb]
                      unfold forP
                      by_cases h : b < k
                      · rw [if_pos (by omega), if_pos (by omega)]
                      · rw [if_neg (by omega), if_neg (by omega)]
                  · rw [upd_ne e, HC.out a b ha hb]
                    unfold forP
                    by_cases h : a < i
                    · rw [if_pos (by omega), if_pos (by omega)]
                    · rw [if_neg (by omega), if_neg (by omega)]
                have hCn : ∀ a b, a < n → b < m → ¬ ((i < r ∧ k ≠ to i) ∨ (i = r ∧ to i ≤ k)) → C a b = forP r to (cst ts) i (k + 1) a b := by
                  intro a b ha hb hno
                  rw [HC.out a b ha hb]
                  unfold forP
                  by_cases e : a = i ∧ b = k
                  · obtain ⟨rfl, rfl⟩ := e
                    rw [if_neg (by omega), if_pos (by omega)]
                    unfold forM
                    rw [if_neg hno]
                  · by_cases h : a < i ∨ a = i ∧ b < k
                    · rw [if_pos h, if_pos (by omega)]
                    · rw [if_neg h, if_neg (by omega)]
                have hfm : ((i < r ∧ k ≠ to i) ∨ (i = r ∧ to i ≤ k)) → forM r to (cst ts) i k = -1 := fun h => by unfold forM; rw [if_pos h]
                have HW : ∀ h : ((i < r ∧ k ≠ to i) ∨ (i = r ∧ to i ≤ k)), Hid (∃ C, TW w.heap.size (wr.setCell ⟨gs i, k, none⟩ (.int .i64 (-1))) g cap n m rows gs cs C ∧ ∀ a b, a < n → b < m → C a b = forP r to (cst ts) i (k + 1) a b) :=
                  fun h => Lib.hid ⟨_, HTW8.out.set hin hkm (-1), hCs (-1) (hfm h)⟩
                have HRW := Lib.hid (HR.out.setOther (a := ⟨gs i, k, none⟩) hg1 (.int .i64 (-1)))
                have HTWr := Lib.hid (HT.out.setOther (a := ⟨gs i, k, none⟩) hg2 (.int .i64 (-1)))
                have hlW : Below w.heap.size w (wr.setCell ⟨gs i, k, none⟩ (.int .i64 (-1))) := below_set hl hBg _
                have HN : ∀ h : ¬ ((i < r ∧ k ≠ to i) ∨ (i = r ∧ to i ≤ k)), Hid (∃ C, TW w.heap.size wr g cap n m rows gs cs C ∧ ∀ a b, a < n → b < m → C a b = forP r to (cst ts) i (k + 1) a b) :=
                  fun h => Lib.hid ⟨_, HTW8.out, fun a b ha hb => hCn a b ha hb h⟩
                clear hCs hCn hfm hg1 hg2 hBg
                generalize C i k = x at cx
                generalize to i = ti at *
                by_cases hlt : i < r
                · have d1 : decide ((i : Int) < (r : Int)) = true := by simp; omega
                  have d3 : ((i : Int) == (r : Int)) = false := by simp; omega
                  by_cases hne : k = ti
                  · have d2 : ((k : Int) != (ti : Int)) = false := by simp; omega
                    have HN2 := HN (by omega)
                    clear HN HW hne
                    go_wp2_with (fail)
                    go_roundw
                    case rel => exact ⟨k + 1, by omega, by go_num, HN2, HR, HT, hl⟩
                    case measure => simp [intOf]; omega
                  · have d2 : ((k : Int) != (ti : Int)) = true := by simp; omega
                    have HW2 := HW (by omega)
                    clear HN HW hne
                    go_wp2_with (fail)
                    go_roundw
                    case rel => exact ⟨k + 1, by omega, by go_num, HW2, HRW, HTWr, hlW⟩
                    case measure => simp [intOf]; omega
                · have d1 : decide ((i : Int) < (r : Int)) = false := by simp; omega
                  have d3 : ((i : Int) == (r : Int)) = true := by simp; omega
                  by_cases hge : ti ≤ k
                  · have d2 : decide ((k : Int) ≥ (ti : Int)) = true := by simp; omega
                    have d4 : decide ((ti : Int) ≤ (k : Int)) = true := by simp; omega
                    have d5 : decide (ti ≤ k) = true := by simpa using hge
                    have HW2 := HW (by omega)
                    clear HN HW hge
                    go_wp2_with (fail)
                    go_roundw
                    case rel => exact ⟨k + 1, by omega, by go_num, HW2, HRW, HTWr, hlW⟩
                    case measure => simp [intOf]; omega
                  · have d2 : decide ((k : Int) ≥ (ti : Int)) = false := by simp; omega
                    have d4 : decide ((ti : Int) ≤ (k : Int)) = false := by simp; omega
                    have d5 : decide (ti ≤ k) = false := by simpa using hge
                    have HN2 := HN (by omega)
                    clear HN HW hge
                    go_wp2_with (fail)
                    go_roundw
                    case rel => exact ⟨k + 1, by omega, by go_num, HN2, HR, HT, hl⟩
                    case measure => simp [intOf]; omega
              · obtain rfl : k = m := by omega
                have hdk : decide ((k : Int) < (k : Int)) = false := by simp
                go_wp2_with (fail)
                go_roundw
                case rel => exact ⟨i + 1, by omega, by go_num, Lib.hid ⟨_, HTW8.out, fun a b ha hb => by
                  rw [HC.out a b ha hb]
                  unfold forP
                  by_cases h : a < i + 1
                  · rw [if_pos (by omega), if_pos (by omega)]
                  · rw [if_neg (by omega), if_neg (by omega)]⟩, HR, HT, hl⟩
                case measure => simp [intOf]; omega
          · have hd : decide ((i : Int) ≤ (r : Int)) = false := by simp; omega
            have hir2 : i = r + 1 := by omega
            obtain ⟨C, hTW, hC⟩ := HC.out
            have hCM : ∀ a b, a < n → b < m → C a b = forM r to (cst ts) a b := by
              intro a b ha hb
              rw [hC a b ha hb]
              unfold forP
              by_cases h : a < i
              · rw [if_pos (by omega)]
              · rw [if_neg (by omega)]
                unfold forM
                rw [if_neg (by omega)]
            have G2 : Good n m (tbF n m C) := tbF_good fun a b ha hb => by
              rw [hCM a b ha hb]
              have := HG.out.rng a b ha hb
              unfold forM
              split <;> omega
            have hck2 := chkT_of h1 h2 h3 G2
            have hbe2 := best_any (some ⟨g, 0, none⟩) cap n (tbF n m C) wr hTW.tab (by simp [tbF])
            have HBE2 := Lib.hid hbe2
            have HG2 := Lib.hid G2
            have HCK2 := Lib.hid hck2
            have HCM := Lib.hid (fun a b (ha : a < n) (hb : b < m) => (tbF_cst ha hb).trans (hCM a b ha hb))
            have HFOR := Lib.hid (fun τ => forced (τ := τ) hr HBO.out.min)
            clear hCM G2 hck2 hbe2 hTW hC HC HT
            generalize tbF n m C = us at *
            go_wp2_with (fail)
            refine (HBE2.out).mono ?_
            intro e w7 hp7
            have hl7 := hp7.1
            have q3 := hl.trans (hl7.mono hl.size)
            clear HBE2
            rcases hp7.2 with ⟨hf, _⟩ | ⟨n', m', _, _, hG2, _, hno2, rfl⟩ | ⟨n', m', gt', gu', gv', to', u', v', _, hn', BO, rfl⟩
            · rw [HCK2.out] at hf; cases hf
            · have q4 := q3.trans ((below_new w7 (.cells #[.slice none 0 0, .slice none 0 0, .slice none 0 0, .int .i64 0] 35)).mono q3.size)
              clear hno2 hG2 hp7
              unfold zeroM
              go_wp2_with (go_at_call 26; refine (lives_any _).mono ?_; rintro e w8 ⟨rfl, hl8⟩)
              go_ret
              exact ⟨rfl, q4.trans (hl8.mono q4.size)⟩
            · obtain ⟨rfl, rfl⟩ := good_eq3 HG2.out BO.good h1
              have hlt2 : cs0 < costN (cst us) to' n := by
                have h := HFOR.out to' ⟨fun a ha => ⟨(BO.min.asg.ok a ha).1, by rw [← HCM.out a _ ha (BO.min.asg.ok a ha).1]; exact (BO.min.asg.ok a ha).2⟩, BO.min.asg.inj⟩
                have e1 : costN (forM r to (cst ts)) to' n = costN (cst us) to' n := sumN_congr fun a ha => (HCM.out a _ ha (BO.min.asg.ok a ha).1).symm
                rw [e1, HCS.out] at h
                exact h
              clear BO hp7 hn'
              generalize costN (cst us) to' n = cs1 at *
              have d1 : decide (cs1 > cs0) = true := by simpa using hlt2
              have d2 : decide (cs0 < cs1) = true := by simpa using hlt2
              obtain ⟨O2, hO2⟩ : ∃ O, O = Obj.cells #[.slice (some ⟨gt', 0, none⟩) n n, .slice (some ⟨gu', 0, none⟩) n n, .slice (some ⟨gv', 0, none⟩) m m, .int .i64 cs1] 35 := ⟨_, rfl⟩
              have n2 := below_new w7 O2
              have q4 := q3.trans (n2.mono q3.size)
              have c13 : (w7.alloc O2).cell? ⟨w5.heap.size, 3, none⟩ = some (.int .i64 cs0) := ((HR.out.keep hl7).alloc O2).cell 3
              have bn : Blk 35 (w7.alloc O2) w7.heap.size [.slice (some ⟨gt', 0, none⟩) n n, .slice (some ⟨gu', 0, none⟩) n n, .slice (some ⟨gv', 0, none⟩) m m, .int .i64 cs1] := by rw [hO2]; exact Blk.new w7 35 _
              have c23 : (w7.alloc O2).cell? ⟨w7.heap.size, 3, none⟩ = some (.int .i64 cs1) := bn.cell 3
              clear bn hlt2
              subst hO2
              go_wp2_with (go_at_call 26; refine (lives_any _).mono ?_; rintro e w9 ⟨rfl, hl9⟩)
              go_ret
              exact ⟨rfl, q4.trans (hl9.mono q4.size)⟩
      · exact absurd HIA.out hna

end Go.Proofs.Ytncmfjncdhhjoaa
