/- PanelCeiling. -/
import Derived.Test.YtkfjlgjncaddpaaPn
import Derived.Test.YtkfjlgjncaddpaaWCei
import Derived.Test.YtkfjlgjncaddpaaWRck
import Derived.Deep.Cut
import Derived.Deep.CutRange
import Derived.Deep.RegionHeld3
namespace Go.Proofs.Ytkfjlgjncaddpaa
open Go.RowKit

set_option maxHeartbeats 4000000 in
set_option maxRecDepth 100000 in
theorem ceiling_law (W H K : Int) (A : Option Addr) (c L : Nat) (ss : List Sh) (w : World) (hA : ShAt w A ss) (hL : L = ss.length) (hc : L ≤ c) (hnil : A = none → c = 0) (hW : -9223372036854775808 ≤ W ∧ W ≤ 9223372036854775807) (hH : -9223372036854775808 ≤ H ∧ H ≤ 9223372036854775807) :
    Calls Try.prog 11 #[.agg #[.int .i64 W, .int .i64 H, .int .i64 K, .slice A L c]] w fun e w' => e = .returned (.bool true) ∧ Below w.heap.size w w' := by
  have hb0 : Below w.heap.size w (w.alloc (.cells #[.int .i64 W, .int .i64 H, .int .i64 K, .slice A L c] 24)) := below_new w (.cells #[.int .i64 W, .int .i64 H, .int .i64 K, .slice A L c] 24)
  have hfw := few_any W H K A c L ss (w.alloc (.cells #[.int .i64 W, .int .i64 H, .int .i64 K, .slice A L c] 24)) (hA.keep hb0) hL hc hnil hW hH
  have HFW := Lib.hid hfw
  have HB0 := Lib.hid hb0
  clear hfw hb0 hA hL hW hH hc hnil
  go_enter Try.func11, Try.ntmps11
  go_upto_region 2 with (go_at_call 16; refine (HFW.out).mono ?_; rintro e w1 ⟨g, cap, rfl, hwg, hnc, hcm, hH, hb1⟩)
  have hpn := @pn_new w _ w1 g cap (cut20 W) (cut20 H) K ss HB0.out hwg hnc hcm hH hb1
  obtain ⟨q, hq⟩ : ∃ q, q = w1.heap.size := ⟨_, rfl⟩
  rw [← hq] at hpn ⊢
  generalize (w1.alloc (.cells #[.int .i64 (cut20 W), .int .i64 (cut20 H), .int .i64 K, .slice (some ⟨g, 0, none⟩) (fewL ss).length cap] 24)) = W1 at *
  generalize cut20 W = X at *
  generalize cut20 H = Y at *
  generalize fewL ss = zs at *
  obtain ⟨n, hn⟩ : ∃ n, n = zs.length := ⟨_, rfl⟩
  rw [← hn] at hpn ⊢
  have HP := Lib.hid hpn
  clear HFW HB0 hq hpn hH hwg hnc hcm hb1 hn
  have hn17 : n ≤ 17 := HP.out.len.2.1
  have hbe := fun V (h : PnM w V q g n cap X Y K zs) => pbest_any X Y K (some ⟨g, 0, none⟩) cap n zs V h.sh.vals h.len.1 (by omega)
  have hce := fun V (h : PnM w V q g n cap X Y K zs) => ceil_any X Y K (some ⟨g, 0, none⟩) cap n zs V h.sh.vals h.len.1 (by omega)
  have hck := fun V (h : PnM w V q g n cap X Y K zs) => refCheck_any X Y K (some ⟨g, 0, none⟩) cap n zs V h.sh.vals h.len.1 (by omega)
  unfold BstPost at hbe
  unfold CeiPost at hce
  obtain ⟨p0, p1, p2, p3⟩ := HP.out.cells
  cases hok : okP X Y K zs with
  | false =>
    have e1 : ckE X Y K zs = 1 := by unfold ckE; rw [hok]; rfl
    have HBE : Hid (∀ V, PnM w V q g n cap X Y K zs → Calls Try.prog 23 #[.int .i64 X, .int .i64 Y, .int .i64 K, .slice (some ⟨g, 0, none⟩) n cap] V fun e w' => e = .returned (.tuple #[.slice none 0 0, .int .i64 0, .int .i64 1]) ∧ Below V.heap.size V w') := Lib.hid fun V h => (hbe V h).mono fun e w' ⟨hb, h1⟩ => by
      rcases h1 with ⟨_, h2⟩ | ⟨_, _, _, _, _, _, h2, _⟩
      · exact ⟨h2, hb⟩
      · rw [hok] at h2; cases h2
    have HCE : Hid (∀ V, PnM w V q g n cap X Y K zs → Calls Try.prog 35 #[.int .i64 X, .int .i64 Y, .int .i64 K, .slice (some ⟨g, 0, none⟩) n cap] V fun e w' => e = .returned (.tuple #[.int .i64 0, .int .i64 1]) ∧ Below V.heap.size V w') := Lib.hid fun V h => (hce V h).mono fun e w' ⟨hb, h1⟩ => by
      rcases h1 with ⟨_, h2⟩ | ⟨h2, _⟩
      · exact ⟨h2, hb⟩
      · rw [hok] at h2; cases h2
    rw [e1] at hck
    have HCK := Lib.hid hck
    clear hbe hce hck hok e1
    go_upto_region 3 with (go_at_call 23; refine (HBE.out _ HP.out).mono ?_; rintro e w2 ⟨rfl, hb2⟩)
    have HP2 := Lib.hid (HP.out.keep hb2)
    clear p0 p1 p2 p3 hb2 HP
    obtain ⟨p0, p1, p2, p3⟩ := HP2.out.cells
    go_upto_region 4 with (go_at_call 35; refine (HCE.out _ HP2.out).mono ?_; rintro e w3 ⟨rfl, hb3⟩)
    have HP3 := Lib.hid (HP2.out.keep hb3)
    clear p0 p1 p2 p3 hb3 HP2
    obtain ⟨p0, p1, p2, p3⟩ := HP3.out.cells
    go_wp2_with (first | (go_at_call 17; refine (HCK.out _ HP3.out).mono ?_; rintro e w4 ⟨rfl, hb4⟩) | (go_at_call 20; refine (lives_any _).mono ?_; rintro e w5 ⟨rfl, hb5⟩))
    go_ret
    exact ⟨rfl, below2 (below2 HP3.out.bel hb4) hb5⟩
  | true =>
    have e1 : ckE X Y K zs = 0 := by unfold ckE; rw [hok]; rfl
    obtain ⟨i, j, k, rfl, rfl, rfl, hi1, hi, hj1, hj, hk, hlen, hoks⟩ := okP_ok hok
    have hle := ceil_le (kerf := k) hoks i j hi1 hj1
    have hnn := best_nn k zs i j
    have hfit := fun (s : Sh) (hs : s ∈ zs) (h1 : s.w ≤ i) (h2 : s.h ≤ j) => fits_le (kerf := k) hoks hs h1 h2
    have HBE : Hid (∀ V, PnM w V q g n cap i j k zs → Calls Try.prog 23 #[.int .i64 (i : Int), .int .i64 (j : Int), .int .i64 (k : Int), .slice (some ⟨g, 0, none⟩) n cap] V fun e w' => ∃ v, e = .returned (.tuple #[v, .int .i64 (best k zs i j).v, .int .i64 0]) ∧ Below V.heap.size V w') := Lib.hid fun V h => (hbe V h).mono fun e w' ⟨hb, h1⟩ => by
      rcases h1 with ⟨h2, _⟩ | ⟨i', j', k', q1, q2, q3, _, g', cap', h2, _⟩
      · rw [hok] at h2; cases h2
      · obtain rfl : i = i' := by omega
        obtain rfl : j = j' := by omega
        obtain rfl : k = k' := by omega
        exact ⟨_, h2, hb⟩
    have HCE : Hid (∀ V, PnM w V q g n cap i j k zs → Calls Try.prog 35 #[.int .i64 (i : Int), .int .i64 (j : Int), .int .i64 (k : Int), .slice (some ⟨g, 0, none⟩) n cap] V fun e w' => e = .returned (.tuple #[.int .i64 (ceilF i j zs), .int .i64 0]) ∧ Below V.heap.size V w') := Lib.hid fun V h => (hce V h).mono fun e w' ⟨hb, h1⟩ => by
      rcases h1 with ⟨h2, _⟩ | ⟨_, h2⟩
      · rw [hok] at h2; cases h2
      · exact ⟨h2, hb⟩
    rw [e1] at hck
    have HCK := Lib.hid hck
    have HFT := Lib.hid hfit
    generalize (best k zs i j).v = bv at *
    generalize ceilF i j zs = cv at *
    clear hbe hce hck hok e1 hfit
    go_upto_region 3 with (go_at_call 23; refine (HBE.out _ HP.out).mono ?_; rintro e w2 ⟨v2, rfl, hb2⟩)
    have HP2 := Lib.hid (HP.out.keep hb2)
    clear p0 p1 p2 p3 hb2 HP
    obtain ⟨p0, p1, p2, p3⟩ := HP2.out.cells
    go_upto_region 4 with (go_at_call 35; refine (HCE.out _ HP2.out).mono ?_; rintro e w3 ⟨rfl, hb3⟩)
    have HP3 := Lib.hid (HP2.out.keep hb3)
    clear p0 p1 p2 p3 hb3 HP2
    obtain ⟨p0, p1, p2, p3⟩ := HP3.out.cells
    go_upto_region 7 with (go_at_call 17; refine (HCK.out _ HP3.out).mono ?_; rintro e w4 ⟨rfl, hb4⟩)
    have HP4 := Lib.hid (HP3.out.keep hb4)
    clear p0 p1 p2 p3 hb4 HP3 HBE HCE HCK
    go_loopw [9, 10] (fun t _ wr => ∃ m : Nat, m ≤ n ∧ t = .int .i64 (m : Int) ∧ Hid (PnM w wr q g n cap i j k zs)) (fun t _ _ => n - (intOf t).toNat)
    case atStart => exact ⟨0, Nat.zero_le _, rfl, HP4⟩
    case round =>
      clear HP4
      obtain ⟨m, hm, rfl, HP⟩ := hrel
      obtain ⟨p0, p1, p2, p3⟩ := HP.out.cells
      by_cases hlt : m < n
      · have hlt2 : (m : Int) < (n : Int) := by omega
        obtain ⟨g', off, e, hg, c0, c1, c2, c3⟩ := ShAt.at_ HP.out.sh.vals (i := m) (by have := HP.out.len.1; omega)
        obtain ⟨rfl, rfl⟩ : g = g' ∧ 0 = off := by injection e with e; injection e with e1 e2; exact ⟨e1, e2⟩
        have hmem : zs.getD m sh0 ∈ zs := getD_mem (by have := HP.out.len.1; omega)
        have hft := HFT.out _ hmem
        generalize zs.getD m sh0 = s at *
        obtain ⟨sw, sh, sv, st⟩ := s
        simp only [Nat.zero_add] at c0 c1 c2 c3 hft
        have HFS := Lib.hid hft
        have hbn := below_new wr (.cells #[.int .i64 sw, .int .i64 sh, .int .i64 sv, .bool st] 65)
        have HPN := Lib.hid (HP.out.keep hbn)
        have HQ : Hid (Blk 65 (wr.alloc (.cells #[.int .i64 sw, .int .i64 sh, .int .i64 sv, .bool st] 65)) wr.heap.size (shC ⟨sw, sh, sv, st⟩)) := Lib.hid (Blk.new wr 65 (shC ⟨sw, sh, sv, st⟩))
        clear hft hmem e hbn
        go_upto_region 10 with (fail)
        clear p0 p1 p2 p3 c0 c1 c2 c3 hg
        obtain ⟨q9, hq9⟩ : ∃ q9, q9 = wr.heap.size := ⟨_, rfl⟩
        rw [← hq9] at HQ ⊢
        clear hq9 HP
        generalize wr.alloc (.cells #[.int .i64 sw, .int .i64 sh, .int .i64 sv, .bool st] 65) = V at *
        obtain ⟨p0, p1, p2, p3⟩ := HPN.out.cells
        have s0 := HQ.out.cell 0
        have s1 := HQ.out.cell 1
        have s2 := HQ.out.cell 2
        simp only [shC, List.getElem?_cons_zero, List.getElem?_cons_succ] at s0 s1 s2
        by_cases h1 : sw ≤ (i : Int)
        · have d1 : decide (sw ≤ (i : Int)) = true := by simpa using h1
          by_cases h2 : sh ≤ (j : Int)
          · have d2 : decide (sh ≤ (j : Int)) = true := by simpa using h2
            have h3 := HFS.out h1 h2
            have d3 : decide (bv < sv) = false := by simp; omega
            go_wp2_with (fail)
            go_roundw
            case rel => exact ⟨m + 1, by omega, by go_num, HPN⟩
            case measure => simp [intOf]; omega
          · have d2 : decide (sh ≤ (j : Int)) = false := by simpa using h2
            go_wp2_with (fail)
            go_roundw
            case rel => exact ⟨m + 1, by omega, by go_num, HPN⟩
            case measure => simp [intOf]; omega
        · have d1 : decide (sw ≤ (i : Int)) = false := by simpa using h1
          go_wp2_with (fail)
          go_roundw
          case rel => exact ⟨m + 1, by omega, by go_num, HPN⟩
          case measure => simp [intOf]; omega
      · have hlt2 : ¬ (m : Int) < (n : Int) := by omega
        have d1 : decide (0 ≤ bv) = true := by simpa using hnn
        have d2 : decide (bv ≤ cv) = true := by simpa using hle
        have HBE2 := Lib.hid HP.out.bel
        go_wp2_with (go_at_call 20; refine (lives_any _).mono ?_; rintro e w5 ⟨rfl, hb5⟩)
        go_ret
        exact ⟨rfl, below2 HBE2.out hb5⟩
end Go.Proofs.Ytkfjlgjncaddpaa
