/- PanelOptimal. -/
import Derived.Test.YtkfjlgjncaddpaaPn
import Derived.Test.YtkfjlgjncaddpaaWBrf
import Derived.Test.YtkfjlgjncaddpaaWWor
import Derived.Test.YtkfjlgjncaddpaaWRck
import Derived.Test.YtkfjlgjncaddpaaWBst
import Derived.Test.YtkfjlgjncaddpaaWLiv
import Derived.Deep.Cut
import Derived.Deep.CutRange
import Derived.Deep.RegionHeld3
namespace Go.Proofs.Ytkfjlgjncaddpaa
open Go.RowKit

theorem lay_best {k : Nat} {ss : List Sh} {i j : Nat} (hi : 1 ≤ i) (hj : 1 ≤ j) : ∃ ps, lay k ss i j (planF k ss i j) = some ps ∧ sumP (vOf ss) ps = (best k ss i j).v := by
  obtain ⟨ps, h1, h2⟩ := rd_best k ss (i + j) 0 0 i j [] (by simp)
  rw [List.append_nil] at h1
  refine ⟨ps, ?_, ?_⟩
  · unfold lay planF
    rw [h1]
    rfl
  · have : pv (best k ss) i j = (best k ss i j).v := by unfold pv; rw [if_neg (by omega)]; simp
    rw [← this, ← h2]
    rfl
theorem lay_le {k : Nat} {ss : List Sh} {i j : Nat} {l : List Cu} {ps : List Pc} (hi : 1 ≤ i) (hj : 1 ≤ j) (h : lay k ss i j l = some ps) : sumP (vOf ss) ps ≤ (best k ss i j).v := by
  obtain ⟨⟨u, hu, e⟩, _⟩ := lay_known h
  have := rd_upper (best_upper k ss i j) _ _ _ _ _ _ _ hu (Int.le_refl _) (Int.le_refl _)
  subst e
  have e2 : pu (fun i j => (best k ss i j).v) i j = (best k ss i j).v := by unfold pu; rw [if_neg (by omega)]; simp
  rw [e2] at this
  exact this
set_option maxHeartbeats 4000000 in
set_option maxRecDepth 100000 in
theorem optimal_law (W H K : Int) (A : Option Addr) (c L : Nat) (ss : List Sh) (A' : Option Addr) (c' M : Nat) (y : List Cu) (w : World) (hA : ShAt w A ss) (hL : L = ss.length) (hc : L ≤ c) (hnil : A = none → c = 0) (hW : -9223372036854775808 ≤ W ∧ W ≤ 9223372036854775807) (hH : -9223372036854775808 ≤ H ∧ H ≤ 9223372036854775807) (hA' : CuAt w A' y) (hM : M = y.length) (hc' : M ≤ c') (hnil' : A' = none → c' = 0) :
    Calls Try.prog 7 #[.agg #[.int .i64 W, .int .i64 H, .int .i64 K, .slice A L c], .slice A' M c'] w fun e w' => e = .returned (.bool true) ∧ Below w.heap.size w w' := by
  have hb0 : Below w.heap.size w (w.alloc (.cells #[.int .i64 W, .int .i64 H, .int .i64 K, .slice A L c] 24)) := below_new w (.cells #[.int .i64 W, .int .i64 H, .int .i64 K, .slice A L c] 24)
  have hfw := few_any W H K A c L ss (w.alloc (.cells #[.int .i64 W, .int .i64 H, .int .i64 K, .slice A L c] 24)) (hA.keep hb0) hL hc hnil hW hH
  have HBF : Hid (∀ V, Below (w.alloc (.cells #[.int .i64 W, .int .i64 H, .int .i64 K, .slice A L c] 24)).heap.size (w.alloc (.cells #[.int .i64 W, .int .i64 H, .int .i64 K, .slice A L c] 24)) V → Calls Try.prog 26 #[.slice A' M c'] V (BrfPost y V)) := Lib.hid fun V hV => brief_any A' c' M y V ((hA'.keep hb0).keep hV) hM hc' hnil'
  have HFW := Lib.hid hfw
  have HB0 := Lib.hid hb0
  clear hfw hb0 hA hL hW hH hc hnil hA' hM hc' hnil'
  go_enter Try.func7, Try.ntmps7
  go_upto_region 2 with (first | (go_at_call 16; (with_reducible refine (HFW.out).mono ?_); rintro e w1 ⟨g, cap, rfl, hwg, hnc, hcm, hH, hb1⟩) | (go_at_call 26; (with_reducible refine (HBF.out _ hb1).mono ?_); rintro e w2 ⟨g2, cap2, rfl, hwg2, hnc2, hcm2, hpl, hgl2, hb2⟩))
  have hpn := @pn_new w _ w2 g cap (cut20 W) (cut20 H) K ss HB0.out hwg hnc hcm (hH.keep hb2) (below_on hb1 hb1.size hb2)
  have hpl1 := hpl.keep (below_new w2 (.cells #[.int .i64 (cut20 W), .int .i64 (cut20 H), .int .i64 K, .slice (some ⟨g, 0, none⟩) (fewL ss).length cap] 24))
  have hbr : (briefL y).length ≤ 300 := by unfold briefL; rw [List.length_take]; omega
  obtain ⟨q, hq⟩ : ∃ q, q = w2.heap.size := ⟨_, rfl⟩
  rw [← hq] at hpn ⊢
  generalize (w2.alloc (.cells #[.int .i64 (cut20 W), .int .i64 (cut20 H), .int .i64 K, .slice (some ⟨g, 0, none⟩) (fewL ss).length cap] 24)) = W1 at *
  generalize cut20 W = X at *
  generalize cut20 H = Y at *
  generalize fewL ss = zs at *
  generalize briefL y = l at *
  obtain ⟨n, hn⟩ : ∃ n, n = zs.length := ⟨_, rfl⟩
  rw [← hn] at hpn ⊢
  obtain ⟨m2, hm2⟩ : ∃ m, m = l.length := ⟨_, rfl⟩
  rw [← hm2] at hnc2 hbr ⊢
  have HP := Lib.hid hpn
  have HPL := Lib.hid hpl1
  have HM2 := Lib.hid hm2
  clear HFW HB0 HBF hq hpn hH hwg hnc hcm hb1 hn hpl hpl1 hgl2 hb2 hwg2 hm2
  have hn17 : n ≤ 17 := HP.out.len.2.1
  have hbe := fun V (h : PnM w V q g n cap X Y K zs) => pbest_any X Y K (some ⟨g, 0, none⟩) cap n zs V h.sh.vals h.len.1 (by omega)
  have hck := fun V (h : PnM w V q g n cap X Y K zs) => refCheck_any X Y K (some ⟨g, 0, none⟩) cap n zs V h.sh.vals h.len.1 (by omega)
  have hwo := fun V (h : PnM w V q g n cap X Y K zs) (g' M' c' : Nat) (l' : List Cu) (h1 : CuAt V (some ⟨g', 0, none⟩) l') (h2 : M' = l'.length) (h3 : M' ≤ c') (h4 : c' ≤ maxLen) (h5 : M' ≤ 100000) => worth_any X Y K (some ⟨g, 0, none⟩) (some ⟨g', 0, none⟩) cap n c' M' zs l' V h.sh.vals h.len.1 (by omega) h1 h2 h3 (fun e => by cases e) h4 h5
  unfold BstPost at hbe
  unfold RedPost at hwo
  obtain ⟨p0, p1, p2, p3⟩ := HP.out.cells
  cases hok : okP X Y K zs with
  | false =>
    have e1 : ckE X Y K zs = 1 := by unfold ckE; rw [hok]; rfl
    have HBE : Hid (∀ V, PnM w V q g n cap X Y K zs → Calls Try.prog 23 #[.int .i64 X, .int .i64 Y, .int .i64 K, .slice (some ⟨g, 0, none⟩) n cap] V fun e w' => e = .returned (.tuple #[.slice none 0 0, .int .i64 0, .int .i64 1]) ∧ Below V.heap.size V w') := Lib.hid fun V h => (hbe V h).mono fun e w' ⟨hb, h1⟩ => by
      rcases h1 with ⟨_, h2⟩ | ⟨_, _, _, _, _, _, h2, _⟩
      · exact ⟨h2, hb⟩
      · rw [hok] at h2; cases h2
    rw [e1] at hck
    have HCK := Lib.hid hck
    clear hbe hck hok e1 hwo
    go_upto_region 3 with (go_at_call 23; (with_reducible refine (HBE.out _ HP.out).mono ?_); rintro e w3 ⟨rfl, hb3⟩)
    have HP3 := Lib.hid (HP.out.keep hb3)
    clear p0 p1 p2 p3 hb3 HP
    obtain ⟨p0, p1, p2, p3⟩ := HP3.out.cells
    go_wp2_with (first | (go_at_call 17; (with_reducible refine (HCK.out _ HP3.out).mono ?_); rintro e w4 ⟨rfl, hb4⟩) | (go_at_call 20; (with_reducible refine (lives_any _).mono ?_); rintro e w5 ⟨rfl, hb5⟩))
    go_ret
    exact ⟨rfl, below2 (below2 HP3.out.bel hb4) hb5⟩
  | true =>
    have e1 : ckE X Y K zs = 0 := by unfold ckE; rw [hok]; rfl
    obtain ⟨i, j, k, rfl, rfl, rfl, hi1, hi, hj1, hj, hk, hlen, hoks⟩ := okP_ok hok
    obtain ⟨bs, hb1, hb2⟩ := @lay_best k zs i j hi1 hj1
    have hpf := @planF_len k i j zs hi1 hj1 hi hj
    have HBE : Hid (∀ V, PnM w V q g n cap i j k zs → Calls Try.prog 23 #[.int .i64 (i : Int), .int .i64 (j : Int), .int .i64 (k : Int), .slice (some ⟨g, 0, none⟩) n cap] V fun e w' => ∃ g3 c3, e = .returned (.tuple #[.slice (some ⟨g3, 0, none⟩) (planF k zs i j).length c3, .int .i64 (best k zs i j).v, .int .i64 0]) ∧ CuAt w' (some ⟨g3, 0, none⟩) (planF k zs i j) ∧ (planF k zs i j).length ≤ c3 ∧ c3 ≤ maxLen ∧ Below V.heap.size V w') := Lib.hid fun V h => (hbe V h).mono fun e w' ⟨hb, h1⟩ => by
      rcases h1 with ⟨h2, _⟩ | ⟨i', j', k', q1, q2, q3, _, g', cap', h2, _, h3, h4, _, h5⟩
      · rw [hok] at h2; cases h2
      · obtain rfl : i = i' := by omega
        obtain rfl : j = j' := by omega
        obtain rfl : k = k' := by omega
        exact ⟨_, _, h2, h5, h3, h4, hb⟩
    have HWO : Hid (∀ V, PnM w V q g n cap i j k zs → ∀ (g' M' c' : Nat) (l' : List Cu), CuAt V (some ⟨g', 0, none⟩) l' → M' = l'.length → M' ≤ c' → c' ≤ maxLen → M' ≤ 100000 → Calls Try.prog 27 #[.int .i64 (i : Int), .int .i64 (j : Int), .int .i64 (k : Int), .slice (some ⟨g, 0, none⟩) n cap, .slice (some ⟨g', 0, none⟩) M' c'] V fun e w' => ((lay k zs i j l' = none ∧ e = .returned (.tuple #[.int .i64 0, .int .i64 2])) ∨ ∃ ps, lay k zs i j l' = some ps ∧ e = .returned (.tuple #[.int .i64 (sumP (vOf zs) ps), .int .i64 0])) ∧ Below V.heap.size V w') := Lib.hid fun V h g' M' c' l' a1 a2 a3 a4 a5 => (hwo V h g' M' c' l' a1 a2 a3 a4 a5).mono fun e w' ⟨hb, h1⟩ => by
      rcases h1 with ⟨h2, _⟩ | ⟨i', j', k', q1, q2, q3, _, h2⟩
      · rw [hok] at h2; cases h2
      · obtain rfl : i = i' := by omega
        obtain rfl : j = j' := by omega
        obtain rfl : k = k' := by omega
        exact ⟨h2, hb⟩
    rw [e1] at hck
    have HCK := Lib.hid hck
    have HLB := Lib.hid (show lay k zs i j (planF k zs i j) = some bs from hb1)
    have HSB := Lib.hid hb2
    have HLE := Lib.hid (fun (ps : List Pc) (h : lay k zs i j l = some ps) => lay_le hi1 hj1 h)
    obtain ⟨pf, hpe⟩ : ∃ pf, pf = planF k zs i j := ⟨_, rfl⟩
    rw [← hpe] at HBE HLB hpf
    obtain ⟨N, hN⟩ : ∃ N, N = pf.length := ⟨_, rfl⟩
    rw [← hN] at HBE hpf
    have HNN := Lib.hid hN
    generalize (best k zs i j).v = bv at *
    clear hbe hck hok e1 hwo hoks hb1 hb2 hpe hN
    go_upto_region 3 with (go_at_call 23; (with_reducible refine (HBE.out _ HP.out).mono ?_); rintro e w3 ⟨g3, c3, rfl, hpl3, hc3, hc3m, hb3⟩)
    have HP3 := Lib.hid (HP.out.keep hb3)
    have HPL3 := Lib.hid (HPL.out.keep hb3)
    have HPB3 := Lib.hid hpl3
    clear p0 p1 p2 p3 hb3 HP HPL hpl3
    obtain ⟨p0, p1, p2, p3⟩ := HP3.out.cells
    go_upto_region 5 with (go_at_call 17; (with_reducible refine (HCK.out _ HP3.out).mono ?_); rintro e w4 ⟨rfl, hb4⟩)
    have HP4 := Lib.hid (HP3.out.keep hb4)
    have HPL4 := Lib.hid (HPL3.out.keep hb4)
    have hw1 := HWO.out w4 HP4.out g3 N c3 pf (HPB3.out.keep hb4) HNN.out hc3 hc3m (by omega)
    have HW1 : Hid (Calls Try.prog 27 #[.int .i64 (i : Int), .int .i64 (j : Int), .int .i64 (k : Int), .slice (some ⟨g, 0, none⟩) n cap, .slice (some ⟨g3, 0, none⟩) N c3] w4 fun e w' => e = .returned (.tuple #[.int .i64 bv, .int .i64 0]) ∧ Below w4.heap.size w4 w') := Lib.hid (hw1.mono fun e w' ⟨h, hb⟩ => by
      rcases h with ⟨h2, _⟩ | ⟨ps, h2, h3⟩
      · rw [HLB.out] at h2; cases h2
      · rw [HLB.out] at h2
        injection h2 with h2
        subst h2
        rw [HSB.out] at h3
        exact ⟨h3, hb⟩)
    clear p0 p1 p2 p3 hb4 HP3 HPL3 HPB3 hw1
    obtain ⟨p0, p1, p2, p3⟩ := HP4.out.cells
    go_upto_region 6 with (go_at_call 27; (with_reducible refine (HW1.out).mono ?_); rintro e w5 ⟨rfl, hb5⟩)
    have HP5 := Lib.hid (HP4.out.keep hb5)
    have HW2 := Lib.hid (HWO.out w5 (HP4.out.keep hb5) g2 m2 cap2 l (HPL4.out.keep hb5) HM2.out hnc2 hcm2 (by omega))
    clear p0 p1 p2 p3 hb5 HP4 HPL4 HW1 HWO
    obtain ⟨p0, p1, p2, p3⟩ := HP5.out.cells
    cases hl : lay k zs i j l with
    | none =>
      rw [hl] at HW2
      have HW3 : Hid (Calls Try.prog 27 #[.int .i64 (i : Int), .int .i64 (j : Int), .int .i64 (k : Int), .slice (some ⟨g, 0, none⟩) n cap, .slice (some ⟨g2, 0, none⟩) m2 cap2] w5 fun e w' => e = .returned (.tuple #[.int .i64 0, .int .i64 2]) ∧ Below w5.heap.size w5 w') := Lib.hid (HW2.out.mono fun e w' ⟨h, hb⟩ => by
        rcases h with ⟨_, h3⟩ | ⟨ps, h2, h3⟩
        · exact ⟨h3, hb⟩
        · cases h2)
      clear HW2 hl HLE
      go_wp2_with (first | (go_at_call 27; (with_reducible refine (HW3.out).mono ?_); rintro e w6 ⟨rfl, hb6⟩) | (go_at_call 20; (with_reducible refine (lives_any _).mono ?_); rintro e w7 ⟨rfl, hb7⟩))
      go_ret
      exact ⟨rfl, below2 (below2 HP5.out.bel hb6) hb7⟩
    | some ps =>
      have hle := HLE.out ps hl
      rw [hl] at HW2
      have HW3 : Hid (Calls Try.prog 27 #[.int .i64 (i : Int), .int .i64 (j : Int), .int .i64 (k : Int), .slice (some ⟨g, 0, none⟩) n cap, .slice (some ⟨g2, 0, none⟩) m2 cap2] w5 fun e w' => e = .returned (.tuple #[.int .i64 (sumP (vOf zs) ps), .int .i64 0]) ∧ Below w5.heap.size w5 w') := Lib.hid (HW2.out.mono fun e w' ⟨h, hb⟩ => by
        rcases h with ⟨h2, h3⟩ | ⟨ps', h2, h3⟩
        · cases h2
        · injection h2 with h2
          subst h2
          exact ⟨h3, hb⟩)
      generalize sumP (vOf zs) ps = sv at *
      have hd : decide (sv ≤ bv) = true := by simpa using hle
      clear HW2 hl HLE hle
      go_wp2_with (first | (go_at_call 27; (with_reducible refine (HW3.out).mono ?_); rintro e w6 ⟨rfl, hb6⟩) | (go_at_call 20; (with_reducible refine (lives_any _).mono ?_); rintro e w7 ⟨rfl, hb7⟩))
      go_ret
      exact ⟨rfl, below2 (below2 HP5.out.bel hb6) hb7⟩
end Go.Proofs.Ytkfjlgjncaddpaa
