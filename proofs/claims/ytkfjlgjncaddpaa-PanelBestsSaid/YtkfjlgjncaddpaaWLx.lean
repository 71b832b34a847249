/- PanelBests. -/
import Derived.Test.YtkfjlgjncaddpaaPn
import Derived.Test.YtkfjlgjncaddpaaWRpl
import Derived.Test.YtkfjlgjncaddpaaWRtb
import Derived.Test.YtkfjlgjncaddpaaWRck
import Derived.Test.YtkfjlgjncaddpaaWEq
import Derived.Test.YtkfjlgjncaddpaaWBst
import Derived.Test.YtkfjlgjncaddpaaWLiv
import Derived.Deep.Cut
import Derived.Deep.CutRange
import Derived.Deep.RegionHeld3
namespace Go.Proofs.Ytkfjlgjncaddpaa
open Go.RowKit

theorem tb_best {k : Nat} {ss : List Sh} {i j : Nat} : ∀ a b, a < i → b < j → tbC (filT k ss j (i + 1) 1) a b = (best k ss (a + 1) (b + 1)).v := by
  intro a b ha hb
  unfold tbC
  rw [filT_at _ _ _ _ _ _ _ (by omega)]
set_option maxHeartbeats 4000000 in
set_option maxRecDepth 100000 in
theorem refBest_any (i j kerf : Nat) (A : Option Addr) (L cp : Nat) (ss : List Sh) (w : World) (hA : ShAt w A ss) (hL : L = ss.length) (hL16 : L ≤ 16) (hok : OkS ss) (hi1 : 1 ≤ i) (hi : i ≤ 64) (hj1 : 1 ≤ j) (hj : j ≤ 64) (hk : kerf ≤ 8) :
    Calls Try.prog 24 #[.int .i64 (i : Int), .int .i64 (j : Int), .int .i64 (kerf : Int), .slice A L cp] w fun e w' =>
      ∃ g cap, e = .returned (.tuple #[.slice (some ⟨g, 0, none⟩) (planF kerf ss i j).length cap, .int .i64 (best kerf ss i j).v]) ∧ CuAt w' (some ⟨g, 0, none⟩) (planF kerf ss i j) ∧ Below w.heap.size w w' := by
  have HTB := Lib.hid (refTable_any i j kerf A L cp ss w hA hL hL16 hok hi hj hk)
  have HPL : Hid (∀ (g ct : Nat) (gs : Nat → Nat) (V : World), TbR V g i j gs (tbC (filT kerf ss j (i + 1) 1)) → ShAt V A ss → Calls Try.prog 45 #[.slice (some ⟨g, 0, none⟩) i ct, .int .i64 (i : Int), .int .i64 (j : Int), .int .i64 (kerf : Int), .slice A L cp] V fun e w' => ∃ g cap, e = .returned (.slice (some ⟨g, 0, none⟩) (planF kerf ss i j).length cap) ∧ CuAt w' (some ⟨g, 0, none⟩) (planF kerf ss i j) ∧ Below V.heap.size V w') := Lib.hid fun g ct gs V h1 h2 => (refPlan_any g i ct j gs _ kerf A L cp ss hL hL16 hok hi hj hk tb_best (i + j) i j V (by simp) (Int.le_refl _) (Int.le_refl _) (by omega) (by omega) h1 h2).mono fun e w' ⟨hb, h3⟩ => by
    have hp := planN_pos (kerf := kerf) (ss := ss) (n := i + j) hi1 hj1 (by omega)
    rcases h3 with ⟨h4, _⟩ | ⟨g3, c3, h4, _, h5, _⟩
    · rw [h4] at hp; simp at hp
    · exact ⟨g3, c3, h4, h5, hb⟩
  have HA := Lib.hid hA
  have HL := Lib.hid hL
  clear hA hL hok
  go_enter Try.func24, Try.ntmps24
  go_upto_region 2 with (go_at_call 21; (with_reducible refine (HTB.out).mono ?_); rintro e w1 ⟨g, c, gs, rfl, hr⟩)
  have hbw := hr.bel
  have hrd := hr.read
  have HP := Lib.hid (HPL.out g c gs w1.drew (hrd.keep (Below.refl _ _).drew) (HA.out.keep hbw.drew))
  have hwi : ((i : Nat) : Int) - 1 = ((i - 1 : Nat) : Int) := by omega
  have hwj : ((j : Nat) : Int) - 1 = ((j - 1 : Nat) : Int) := by omega
  have sp : w1.drew.cell? ⟨g, i - 1, none⟩ = some (.slice (some ⟨gs (i - 1), 0, none⟩) j j) := hrd.sp (i - 1) (by omega)
  have sr : w1.drew.cell? ⟨gs (i - 1), j - 1, none⟩ = some (.int .i64 (best kerf ss i j).v) := by
    have := hrd.row (i - 1) (j - 1) (by omega) (by omega)
    rw [tb_best _ _ (by omega) (by omega), show i - 1 + 1 = i by omega, show j - 1 + 1 = j by omega] at this
    exact this
  have hl1 : g < w1.drew.heap.size := hrd.lt.1 (by omega)
  have hl2 : gs (i - 1) < w1.drew.heap.size := hrd.lt.2 _ (by omega)
  have HBW := Lib.hid hbw
  have hxi : i - 1 < i := by omega
  have hyj : j - 1 < j := by omega
  generalize i - 1 = x at *
  generalize j - 1 = y at *
  have hxi2 : (x : Int) < (i : Int) := by omega
  have hx0 : (0 : Int) ≤ (x : Int) := by omega
  have hy0 : (0 : Int) ≤ (y : Int) := by omega
  have hx1 : IntKind.i64.wrap (x : Int) = (x : Int) := wrapI (by omega) (by omega)
  have hx2 : IntKind.i64.wrap ((i : Int) - 1) = (x : Int) := by rw [hwi]; exact hx1
  have hy1 : IntKind.i64.wrap (y : Int) = (y : Int) := wrapI (by omega) (by omega)
  have hy2 : IntKind.i64.wrap ((j : Int) - 1) = (y : Int) := by rw [hwj]; exact hy1
  have hyj2 : (y : Int) < (j : Int) := by omega
  clear hr hrd hbw HPL HTB
  go_region_held3 (fun w' => w'.cell? ⟨g, x, none⟩ = some (.slice (some ⟨gs (x), 0, none⟩) j j) ∧ w'.cell? ⟨gs (x), y, none⟩ = some (.int .i64 (best kerf ss i j).v))
    (first | with_reducible exact ⟨sp, sr⟩ | with_reducible exact k7 | go_keep)
    ((go_at_call 45; (with_reducible refine (HP.out).mono ?_); rintro e w7 ⟨g3, c3, rfl, hp3, hb7⟩; have k7 := And.intro ((hb7.cell (p := ⟨g, x, none⟩) hl1).trans sp) ((hb7.cell (p := ⟨gs (x), y, none⟩) hl2).trans sr)))
  go_wp2_with (fail)
  go_ret2
  exact ⟨g3, c3, rfl, hp3, below_on HBW.out.drew HBW.out.size hb7⟩
set_option maxHeartbeats 4000000 in
set_option maxRecDepth 100000 in
theorem bests_law (W H K : Int) (A : Option Addr) (c L : Nat) (ss : List Sh) (w : World) (hA : ShAt w A ss) (hL : L = ss.length) (hc : L ≤ c) (hnil : A = none → c = 0) (hW : -9223372036854775808 ≤ W ∧ W ≤ 9223372036854775807) (hH : -9223372036854775808 ≤ H ∧ H ≤ 9223372036854775807) :
    Calls Try.prog 4 #[.agg #[.int .i64 W, .int .i64 H, .int .i64 K, .slice A L c]] w fun e w' => e = .returned (.bool true) ∧ Below w.heap.size w w' := by
  have hb0 : Below w.heap.size w (w.alloc (.cells #[.int .i64 W, .int .i64 H, .int .i64 K, .slice A L c] 24)) := below_new w (.cells #[.int .i64 W, .int .i64 H, .int .i64 K, .slice A L c] 24)
  have hfw := few_any W H K A c L ss (w.alloc (.cells #[.int .i64 W, .int .i64 H, .int .i64 K, .slice A L c] 24)) (hA.keep hb0) hL hc hnil hW hH
  have HFW := Lib.hid hfw
  have HB0 := Lib.hid hb0
  clear hfw hb0 hA hL hW hH hc hnil
  go_enter Try.func4, Try.ntmps4
  go_upto_region 2 with (go_at_call 16; refine (HFW.out).mono ?_; rintro e w1 ⟨g, cap, rfl, hwg, hnc, hcm, hH, hb1⟩)
  have hpn := @pn_new w _ w1 g cap (cut20 W) (cut20 H) K ss HB0.out hwg hnc hcm hH hb1
  obtain ⟨q, hq⟩ : ∃ q, q = w1.heap.size := ⟨_, rfl⟩
  rw [← hq] at hpn ⊢
  generalize (w1.alloc (.cells #[.int .i64 (cut20 W), .int .i64 (cut20 H), .int .i64 K, .slice (some ⟨g, 0, none⟩) (fewL ss).length cap] 24)) = W1 at *
  generalize cut20 W = X at *
  generalize cut20 H = Y at *
  generalize fewL ss = zs at *
  obtain ⟨n, hn⟩ : ∃ n, n = zs.length := ⟨_, rfl⟩
  rw [← hn] at hpn ⊢
  have HP := Lib.hid hpn
  clear HFW HB0 hq hpn hH hwg hnc hcm hb1 hn
  have hn17 : n ≤ 17 := HP.out.len.2.1
  have hbe := fun V (h : PnM w V q g n cap X Y K zs) => pbest_any X Y K (some ⟨g, 0, none⟩) cap n zs V h.sh.vals h.len.1 (by omega)
  have hck := fun V (h : PnM w V q g n cap X Y K zs) => refCheck_any X Y K (some ⟨g, 0, none⟩) cap n zs V h.sh.vals h.len.1 (by omega)
  unfold BstPost at hbe
  obtain ⟨p0, p1, p2, p3⟩ := HP.out.cells
  cases hok : okP X Y K zs with
  | false =>
    have e1 : ckE X Y K zs = 1 := by unfold ckE; rw [hok]; rfl
    have HBE : Hid (∀ V, PnM w V q g n cap X Y K zs → Calls Try.prog 23 #[.int .i64 X, .int .i64 Y, .int .i64 K, .slice (some ⟨g, 0, none⟩) n cap] V fun e w' => e = .returned (.tuple #[.slice none 0 0, .int .i64 0, .int .i64 1]) ∧ Below V.heap.size V w') := Lib.hid fun V h => (hbe V h).mono fun e w' ⟨hb, h1⟩ => by
      rcases h1 with ⟨_, h2⟩ | ⟨_, _, _, _, _, _, h2, _⟩
      · exact ⟨h2, hb⟩
      · rw [hok] at h2; cases h2
    rw [e1] at hck
    have HCK := Lib.hid hck
    clear hbe hck hok e1
    go_upto_region 3 with (go_at_call 23; (with_reducible refine (HBE.out _ HP.out).mono ?_); rintro e w2 ⟨rfl, hb2⟩)
    have HP2 := Lib.hid (HP.out.keep hb2)
    clear p0 p1 p2 p3 hb2 HP
    obtain ⟨p0, p1, p2, p3⟩ := HP2.out.cells
    go_wp2_with (first | (go_at_call 17; (with_reducible refine (HCK.out _ HP2.out).mono ?_); rintro e w4 ⟨rfl, hb4⟩) | (go_at_call 20; (with_reducible refine (lives_any _).mono ?_); rintro e w5 ⟨rfl, hb5⟩))
    go_ret
    exact ⟨rfl, below2 (below2 HP2.out.bel hb4) hb5⟩
  | true =>
    have e1 : ckE X Y K zs = 0 := by unfold ckE; rw [hok]; rfl
    obtain ⟨i, j, k, rfl, rfl, rfl, hi1, hi, hj1, hj, hk, hlen, hoks⟩ := okP_ok hok
    have hpf := @planF_len k i j zs hi1 hj1 hi hj
    have HBE : Hid (∀ V, PnM w V q g n cap i j k zs → Calls Try.prog 23 #[.int .i64 (i : Int), .int .i64 (j : Int), .int .i64 (k : Int), .slice (some ⟨g, 0, none⟩) n cap] V fun e w' => ∃ g3 c3, e = .returned (.tuple #[.slice (some ⟨g3, 0, none⟩) (planF k zs i j).length c3, .int .i64 (best k zs i j).v, .int .i64 0]) ∧ CuAt w' (some ⟨g3, 0, none⟩) (planF k zs i j) ∧ Below V.heap.size V w') := Lib.hid fun V h => (hbe V h).mono fun e w' ⟨hb, h1⟩ => by
      rcases h1 with ⟨h2, _⟩ | ⟨i', j', k', q1, q2, q3, _, g', cap', h2, _, _, _, _, h5⟩
      · rw [hok] at h2; cases h2
      · obtain rfl : i = i' := by omega
        obtain rfl : j = j' := by omega
        obtain rfl : k = k' := by omega
        exact ⟨_, _, h2, h5, hb⟩
    have HRB : Hid (∀ V, PnM w V q g n cap i j k zs → Calls Try.prog 24 #[.int .i64 (i : Int), .int .i64 (j : Int), .int .i64 (k : Int), .slice (some ⟨g, 0, none⟩) n cap] V fun e w' => ∃ g cap, e = .returned (.tuple #[.slice (some ⟨g, 0, none⟩) (planF k zs i j).length cap, .int .i64 (best k zs i j).v]) ∧ CuAt w' (some ⟨g, 0, none⟩) (planF k zs i j) ∧ Below V.heap.size V w') := Lib.hid fun V h => refBest_any i j k (some ⟨g, 0, none⟩) n cap zs V h.sh.vals h.len.1 (by have := h.len.1; omega) hoks hi1 hi hj1 hj hk
    rw [e1] at hck
    have HCK := Lib.hid hck
    generalize (best k zs i j).v = bv at *
    generalize planF k zs i j = pf at *
    obtain ⟨N, hN⟩ : ∃ N, N = pf.length := ⟨_, rfl⟩
    rw [← hN] at HBE HRB hpf
    have HN := Lib.hid hN
    clear hbe hck hok e1 hoks hN
    go_upto_region 3 with (go_at_call 23; (with_reducible refine (HBE.out _ HP.out).mono ?_); rintro e w2 ⟨g3, c3, rfl, hp3, hb2⟩)
    have HP2 := Lib.hid (HP.out.keep hb2)
    have HQ2 := Lib.hid hp3
    clear p0 p1 p2 p3 hb2 HP hp3
    obtain ⟨p0, p1, p2, p3⟩ := HP2.out.cells
    go_upto_region 6 with (go_at_call 17; (with_reducible refine (HCK.out _ HP2.out).mono ?_); rintro e w4 ⟨rfl, hb4⟩)
    have HP4 := Lib.hid (HP2.out.keep hb4)
    have HQ4 := Lib.hid (HQ2.out.keep hb4)
    clear p0 p1 p2 p3 hb4 HP2 HQ2
    obtain ⟨p0, p1, p2, p3⟩ := HP4.out.cells
    go_upto_region 7 with (go_at_call 24; (with_reducible refine (HRB.out _ HP4.out).mono ?_); rintro e w5 ⟨g6, c6, rfl, hp6, hb5⟩)
    have HP5 := Lib.hid (HP4.out.keep hb5)
    have hq5 := HQ4.out.keep hb5
    have HSM : Hid (Calls Try.prog 25 #[.slice (some ⟨g3, 0, none⟩) N c3, .slice (some ⟨g6, 0, none⟩) N c6] w5 fun e w' => e = .returned (.bool true) ∧ Below w5.heap.size w5 w') := Lib.hid ((cuts_any (some ⟨g3, 0, none⟩) (some ⟨g6, 0, none⟩) c3 c6 N N pf pf w5 hq5 hp6 HN.out HN.out (by omega) (by omega)).mono fun e w' ⟨h1, h2⟩ => ⟨by rw [h1]; simp, h2⟩)
    clear p0 p1 p2 p3 hb5 HP4 HQ4 hq5 hp6
    go_wp2_with (first | (go_at_call 25; (with_reducible refine (HSM.out).mono ?_); rintro e w6 ⟨rfl, hb6⟩) | (go_at_call 20; (with_reducible refine (lives_any _).mono ?_); rintro e w7 ⟨rfl, hb7⟩))
    go_ret
    exact ⟨rfl, below2 (below2 HP5.out.bel hb6) hb7⟩
end Go.Proofs.Ytkfjlgjncaddpaa
