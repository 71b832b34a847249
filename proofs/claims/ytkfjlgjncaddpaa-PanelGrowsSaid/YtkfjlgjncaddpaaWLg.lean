/- PanelGrows. -/
import Derived.Test.YtkfjlgjncaddpaaPn
import Derived.Test.YtkfjlgjncaddpaaWTbl
import Derived.Test.YtkfjlgjncaddpaaWRck
import Derived.Test.YtkfjlgjncaddpaaWLiv
import Derived.Test.YtkfjlgjncaddpaaPan2
import Derived.Test.YtkfjlgjncaddpaaWCho
import Derived.Deep.Cut
import Derived.Deep.CutRange
import Derived.Deep.RegionHeld3
namespace Go.Proofs.Ytkfjlgjncaddpaa
open Go.RowKit

theorem tmod_rng (e : Int) {n : Nat} (h : 1 ≤ n) : -(n : Int) < e.tmod n ∧ e.tmod n < n ∧ ∃ x : Nat, x < n ∧ (e.tmod n + n).tmod n = x := by
  have h1 : (0 : Int) < n := by omega
  have a1 : e.tmod n < n := Int.tmod_lt_of_pos e h1
  have a2 : -(n : Int) < e.tmod n := by
    have := Int.neg_tmod e n
    have h2 : (-e).tmod n < n := Int.tmod_lt_of_pos (-e) h1
    omega
  refine ⟨a2, a1, ((e.tmod n + n).tmod n).toNat, ?_, ?_⟩
  · have h3 : (e.tmod n + n).tmod n < n := Int.tmod_lt_of_pos _ h1
    have h4 : 0 ≤ (e.tmod n + n).tmod n := Int.tmod_nonneg _ (by omega)
    omega
  · have h4 : 0 ≤ (e.tmod n + n).tmod n := Int.tmod_nonneg _ (by omega)
    omega
set_option maxHeartbeats 100000000 in
set_option maxRecDepth 100000 in
theorem grows_law (W H K : Int) (A : Option Addr) (c L : Nat) (ss : List Sh) (e0 e1 e2 : Int) (w : World) (hA : ShAt w A ss) (hL : L = ss.length) (hc : L ≤ c) (hnil : A = none → c = 0) (hW : -9223372036854775808 ≤ W ∧ W ≤ 9223372036854775807) (hH : -9223372036854775808 ≤ H ∧ H ≤ 9223372036854775807) :
    Calls Try.prog 8 #[.agg #[.int .i64 W, .int .i64 H, .int .i64 K, .slice A L c], .agg #[.int .i64 e0, .int .i64 e1, .int .i64 e2]] w fun e w' => e = .returned (.bool true) ∧ Below w.heap.size w w' := by
  have hb0 : Below w.heap.size w ((w.alloc (.cells #[.int .i64 W, .int .i64 H, .int .i64 K, .slice A L c] 24)).alloc (.cells #[.int .i64 e0, .int .i64 e1, .int .i64 e2] 63)) := ((Below.refl _ _).alloc (Nat.le_refl _) _).alloc (by simp) _
  have hfw := few_any W H K A c L ss ((w.alloc (.cells #[.int .i64 W, .int .i64 H, .int .i64 K, .slice A L c] 24)).alloc (.cells #[.int .i64 e0, .int .i64 e1, .int .i64 e2] 63)) (hA.keep hb0) hL hc hnil hW hH
  have HFW := Lib.hid hfw
  have HAR : Hid (Blk 63 ((w.alloc (.cells #[.int .i64 W, .int .i64 H, .int .i64 K, .slice A L c] 24)).alloc (.cells #[.int .i64 e0, .int .i64 e1, .int .i64 e2] 63)) (w.heap.size + 1) [.int .i64 e0, .int .i64 e1, .int .i64 e2]) := Lib.hid (blk_new2 [.int .i64 e0, .int .i64 e1, .int .i64 e2])
  have HB0 := Lib.hid hb0
  clear hfw hb0 hA hL hW hH hc hnil
  go_enter Try.func8, Try.ntmps8
  go_upto_region 2 with (go_at_call 16; refine (HFW.out).mono ?_; rintro e w1 ⟨g, cap, rfl, hwg, hnc, hcm, hH, hb1⟩)
  have har := (HAR.out.keep hb1).keep (below_new w1 (.cells #[.int .i64 (cut20 W), .int .i64 (cut20 H), .int .i64 K, .slice (some ⟨g, 0, none⟩) (fewL ss).length cap] 24))
  have hpn := @pn_new w _ w1 g cap (cut20 W) (cut20 H) K ss HB0.out hwg hnc hcm hH hb1
  obtain ⟨q, hq⟩ : ∃ q, q = w1.heap.size := ⟨_, rfl⟩
  rw [← hq] at hpn ⊢
  generalize (w1.alloc (.cells #[.int .i64 (cut20 W), .int .i64 (cut20 H), .int .i64 K, .slice (some ⟨g, 0, none⟩) (fewL ss).length cap] 24)) = W1 at *
  generalize cut20 W = X at *
  generalize cut20 H = Y at *
  generalize fewL ss = zs at *
  obtain ⟨n, hn⟩ : ∃ n, n = zs.length := ⟨_, rfl⟩
  rw [← hn] at hpn ⊢
  have HP := Lib.hid hpn
  obtain ⟨qe, hqe⟩ : ∃ qe, qe = w.heap.size + 1 := ⟨_, rfl⟩
  rw [← hqe] at har ⊢
  have HE := Lib.hid har
  clear har hqe HAR
  clear HFW HB0 hq hpn hH hwg hnc hcm hb1 hn
  have hn17 : n ≤ 17 := HP.out.len.2.1
  have htb := fun V (h : PnM w V q g n cap X Y K zs) => table_any X Y K (some ⟨g, 0, none⟩) cap n zs V h.sh.vals h.len.1 (by omega)
  have hck := fun V (h : PnM w V q g n cap X Y K zs) => refCheck_any X Y K (some ⟨g, 0, none⟩) cap n zs V h.sh.vals h.len.1 (by omega)
  unfold TblPost at htb
  obtain ⟨p0, p1, p2, p3⟩ := HP.out.cells
  cases hok : okP X Y K zs with
  | false =>
    have e1 : ckE X Y K zs = 1 := by unfold ckE; rw [hok]; rfl
    have HTB : Hid (∀ V, PnM w V q g n cap X Y K zs → Calls Try.prog 18 #[.int .i64 X, .int .i64 Y, .int .i64 K, .slice (some ⟨g, 0, none⟩) n cap] V fun e w' => e = .returned (.tuple #[.slice none 0 0, .int .i64 1]) ∧ Below V.heap.size V w') := Lib.hid fun V h => (htb V h).mono fun e w' ⟨hb, h1⟩ => by
      rcases h1 with ⟨_, h2⟩ | ⟨_, _, _, _, _, _, h2, _⟩
      · exact ⟨h2, hb⟩
      · rw [hok] at h2; cases h2
    rw [e1] at hck
    have HCK := Lib.hid hck
    clear htb hck hok e1
    go_upto_region 3 with (go_at_call 18; (with_reducible refine (HTB.out _ HP.out).mono ?_); rintro e w2 ⟨rfl, hb2⟩)
    have HP2 := Lib.hid (HP.out.keep hb2)
    clear p0 p1 p2 p3 hb2 HP
    obtain ⟨p0, p1, p2, p3⟩ := HP2.out.cells
    go_wp2_with (first | (go_at_call 17; (with_reducible refine (HCK.out _ HP2.out).mono ?_); rintro e w4 ⟨rfl, hb4⟩) | (go_at_call 20; (with_reducible refine (lives_any _).mono ?_); rintro e w5 ⟨rfl, hb5⟩))
    go_ret
    exact ⟨rfl, below2 (below2 HP2.out.bel hb4) hb5⟩
  | true =>
    have e1' : ckE X Y K zs = 0 := by unfold ckE; rw [hok]; rfl
    obtain ⟨i, j, k, rfl, rfl, rfl, hi1, hi, hj1, hj, hk, hlen, hoks⟩ := okP_ok hok
    have HTB : Hid (∀ V, PnM w V q g n cap i j k zs → Calls Try.prog 18 #[.int .i64 (i : Int), .int .i64 (j : Int), .int .i64 (k : Int), .slice (some ⟨g, 0, none⟩) n cap] V fun e w' => ∃ gt gs, e = .returned (.tuple #[.slice (some ⟨gt, 0, none⟩) i i, .int .i64 0]) ∧ TbM V.heap.size w' gt i j i gs (fun a b => (best k zs (a + 1) (b + 1)).v) ∧ Below V.heap.size V w') := Lib.hid fun V h => (htb V h).mono fun e w' ⟨hb, h1⟩ => by
      rcases h1 with ⟨h2, _⟩ | ⟨i', j', k', q1, q2, q3, _, g', gs', h2, h3⟩
      · rw [hok] at h2; cases h2
      · obtain rfl : i = i' := by omega
        obtain rfl : j = j' := by omega
        obtain rfl : k = k' := by omega
        exact ⟨_, _, h2, h3, hb⟩
    rw [e1'] at hck
    have HCK := Lib.hid hck
    have hup := best_upper k zs i j
    have HNN : Hid (∀ a b, 0 ≤ (best k zs a b).v) := Lib.hid fun a b => best_nn k zs a b
    have HBG : Hid (∀ a b, a < i → b < j → (best k zs (a + 1) (b + 1)).v ≤ 4225000000) := Lib.hid fun a b ha hb => (best_big hoks k (a + 1) (b + 1) (by omega) (by omega) (by omega) (by omega)).2
    have HGR : Hid (∀ a b a' b', a ≤ a' → b ≤ b' → (best k zs (a + 1) (b + 1)).v ≤ (best k zs (a' + 1) (b' + 1)).v) := Lib.hid fun a b a' b' h1 h2 => grows k zs _ _ _ _ (by omega) (by omega) (by omega) (by omega)
    have HSH : Hid (∀ s ∈ zs, 1 ≤ s.w ∧ 1 ≤ s.h ∧ s.w ≤ 64 ∧ s.h ≤ 64 ∧ (∀ a b : Nat, s.w = ((a + 1 : Nat) : Int) → s.h = ((b + 1 : Nat) : Int) → a + 1 ≤ i → b + 1 ≤ j → s.v ≤ (best k zs (a + 1) (b + 1)).v) ∧ (∀ a b : Nat, s.t = true → s.h = ((a + 1 : Nat) : Int) → s.w = ((b + 1 : Nat) : Int) → a + 1 ≤ i → b + 1 ≤ j → s.v ≤ (best k zs (a + 1) (b + 1)).v)) := Lib.hid fun s hs => by
      obtain ⟨h1, h2, h3, h4, _⟩ := hoks s hs
      refine ⟨h1, h3, h2, h4, fun a b ha hb h5 h6 => hup.shape _ _ s h5 h6 hs (.inl ?_), fun a b ht ha hb h5 h6 => hup.shape _ _ s h5 h6 hs (.inr ?_)⟩
      · unfold isS; rw [ha, hb]; simp
      · unfold isT; rw [ha, hb, ht]; simp
    have HAC : Hid (∀ a b c r : Nat, a < i → b < j → c < a → (r : Int) = (a : Int) - c - 1 - k → (best k zs (c + 1) (b + 1)).v + (best k zs (r + 1) (b + 1)).v ≤ (best k zs (a + 1) (b + 1)).v) := Lib.hid fun a b c r h1 h2 h3 h4 => by
      have := hup.across (a + 1) (b + 1) (c + 1) (by omega) (by omega) (by omega) (by omega) (by omega)
      unfold pu at this
      rw [if_neg (by omega), if_neg (by omega)] at this
      rw [show (((c + 1 : Nat) : Int)).toNat = c + 1 by omega, show (((b + 1 : Nat) : Int)).toNat = b + 1 by omega, show (((a + 1 : Nat) : Int) - ((c + 1 : Nat) : Int) - (k : Int)).toNat = r + 1 by omega] at this
      exact this
    have HDN : Hid (∀ a b c r : Nat, a < i → b < j → c < b → (r : Int) = (b : Int) - c - 1 - k → (best k zs (a + 1) (c + 1)).v + (best k zs (a + 1) (r + 1)).v ≤ (best k zs (a + 1) (b + 1)).v) := Lib.hid fun a b c r h1 h2 h3 h4 => by
      have := hup.down (a + 1) (b + 1) (c + 1) (by omega) (by omega) (by omega) (by omega) (by omega)
      unfold pu at this
      rw [if_neg (by omega), if_neg (by omega)] at this
      rw [show (((c + 1 : Nat) : Int)).toNat = c + 1 by omega, show (((a + 1 : Nat) : Int)).toNat = a + 1 by omega, show (((b + 1 : Nat) : Int) - ((c + 1 : Nat) : Int) - (k : Int)).toNat = r + 1 by omega] at this
      exact this
    clear htb hck hok e1' hoks hup
    go_upto_region 3 with (go_at_call 18; (with_reducible refine (HTB.out _ HP.out).mono ?_); rintro e w2 ⟨gt, gs, rfl, ht2, hb2⟩)
    have HP2 := Lib.hid (HP.out.keep hb2)
    have HE2 := Lib.hid (HE.out.keep hb2)
    have HT2 := Lib.hid ht2
    obtain ⟨B2, hB2⟩ : ∃ B2, B2 = W1.heap.size := ⟨_, rfl⟩
    rw [← hB2] at HT2
    clear p0 p1 p2 p3 hb2 HP HE ht2 hB2 HTB
    obtain ⟨p0, p1, p2, p3⟩ := HP2.out.cells
    go_upto_region 5 with (go_at_call 17; (with_reducible refine (HCK.out _ HP2.out).mono ?_); rintro e w3 ⟨rfl, hb3⟩)
    have HP3 := Lib.hid (HP2.out.keep hb3)
    have HE3 := Lib.hid (HE2.out.keep hb3)
    have HT3 := Lib.hid (HT2.out.keep hb3)
    clear p0 p1 p2 p3 hb3 HP2 HE2 HT2 HCK
    obtain ⟨p0, p1, p2, p3⟩ := HP3.out.cells
    go_upto_region 8 with (go_at_call 20; (with_reducible refine (lives_any _).mono ?_); rintro e w4 ⟨rfl, hb4⟩)
    have HP4 := Lib.hid (HP3.out.keep hb4)
    have HE4 := Lib.hid (HE3.out.keep hb4)
    have HT4 := Lib.hid (HT3.out.keep hb4)
    clear p0 p1 p2 p3 hb4 HP3 HE3 HT3
    go_loopw [8, 9] (fun t _ wr => ∃ m : Nat, m ≤ i ∧ t = .int .i64 (m : Int) ∧ Hid (PnM w wr q g n cap i j k zs) ∧ Hid (TbM B2 wr gt i j i gs (fun a b => (best k zs (a + 1) (b + 1)).v)) ∧ Hid (Blk 63 wr qe [.int .i64 e0, .int .i64 e1, .int .i64 e2])) (fun t _ _ => i - (intOf t).toNat)
    case atStart => exact ⟨0, Nat.zero_le _, rfl, HP4, HT4, HE4⟩
    case round =>
      clear HP4 HT4 HE4
      obtain ⟨m, hm, rfl, HP, HT, HE⟩ := hrel
      obtain ⟨p0, p1, p2, p3⟩ := HP.out.cells
      by_cases hlt : m < i
      · have hlt2 : (m : Int) < (i : Int) := by omega
        have rc : (wr).cell? ⟨gt, m, none⟩ = some (.slice (some ⟨gs m, 0, none⟩) j j) := HT.out.rowCell hlt (Nat.le_refl _)
        go_upto_region 10 with (fail)
        go_quiet (fail)
        go_upto_region 13 with (fail)
        have HPq := Lib.hid (HP.out.drewN nq)
        have HTq := Lib.hid (HT.out.drewN nq)
        have HEq := Lib.hid (HE.out.drewN nq)
        clear p0 p1 p2 p3 rc HP HT HE
        generalize wr.drewN nq = V at *
        go_loopw [9] (fun t wr => ∃ b : Nat, b ≤ j ∧ t = .int .i64 (b : Int) ∧ Hid (PnM w wr q g n cap i j k zs) ∧ Hid (TbM B2 wr gt i j i gs (fun a b => (best k zs (a + 1) (b + 1)).v)) ∧ Hid (Blk 63 wr qe [.int .i64 e0, .int .i64 e1, .int .i64 e2])) (fun t _ => j - (intOf t).toNat)
        case atStart => exact ⟨0, Nat.zero_le _, rfl, HPq, HTq, HEq⟩
        case round =>
          clear HPq HTq HEq
          obtain ⟨b, hb, rfl, HP, HT, HE⟩ := hrel
          obtain ⟨p0, p1, p2, p3⟩ := HP.out.cells
          by_cases hbt : b < j
          · have hbt2 : (b : Int) < (j : Int) := by omega
            have rc : (wr).cell? ⟨gt, m, none⟩ = some (.slice (some ⟨gs m, 0, none⟩) j j) := HT.out.rowCell hlt (Nat.le_refl _)
            have cc : (wr).cell? ⟨gs m, b, none⟩ = some (.int .i64 (best k zs (m + 1) (b + 1)).v) := HT.out.cell hlt hbt
            have d0 : decide ((best k zs (m + 1) (b + 1)).v < 0) = false := by have := HNN.out (m + 1) (b + 1); simp; omega
            rcases Nat.eq_zero_or_pos m with hm0 | hm0 <;> rcases Nat.eq_zero_or_pos b with hb0 | hb0
            · have f1 : decide ((0 : Int) < (m : Int)) = false := by simp; omega
              have f1n : decide (0 < m) = false := by simp; omega
              have f2 : decide ((0 : Int) < (b : Int)) = false := by simp; omega
              have f2n : decide (0 < b) = false := by simp; omega
              clear hm0 hb0
              go_upto_region 15 with (fail)
              go_quiet (fail)
              go_wp2_with (fail)
              go_roundw
              case rel => exact ⟨b + 1, by omega, by go_num, Lib.hid (HP.out.drewN _), Lib.hid (HT.out.drewN _), Lib.hid (HE.out.drewN _)⟩
              case measure => simp [intOf]; omega
            · have f1 : decide ((0 : Int) < (m : Int)) = false := by simp; omega
              have f1n : decide (0 < m) = false := by simp; omega
              have f2 : decide ((0 : Int) < (b : Int)) = true := by simp; omega
              have f2n : decide (0 < b) = true := by simp; omega
              obtain ⟨b1, hb1⟩ : ∃ b1, b1 = b - 1 := ⟨_, rfl⟩
              have hb1j : b1 < j := by omega
              have hb1w : (b : Int) - 1 = (b1 : Int) := by omega
              have hb1x : IntKind.i64.wrap ((b : Int) - 1) = (b1 : Int) := by rw [hb1w]; exact wrapI (by omega) (by omega)
              have hb1y : IntKind.i64.wrap (b1 : Int) = (b1 : Int) := wrapI (by omega) (by omega)
              have hb1l : (b1 : Int) < (j : Int) := by omega
              have cl : (wr).cell? ⟨gs m, b1, none⟩ = some (.int .i64 (best k zs (m + 1) (b1 + 1)).v) := HT.out.cell hlt hb1j
              have d2 : decide ((best k zs (m + 1) (b + 1)).v < (best k zs (m + 1) (b1 + 1)).v) = false := by have := HGR.out m b1 m b (Nat.le_refl _) (by omega); simp; omega
              clear hb1
              clear hm0 hb0
              go_upto_region 15 with (fail)
              go_quiet (fail)
              go_wp2_with (fail)
              go_roundw
              case rel => exact ⟨b + 1, by omega, by go_num, Lib.hid (HP.out.drewN _), Lib.hid (HT.out.drewN _), Lib.hid (HE.out.drewN _)⟩
              case measure => simp [intOf]; omega
            · have f1 : decide ((0 : Int) < (m : Int)) = true := by simp; omega
              have f1n : decide (0 < m) = true := by simp; omega
              have f2 : decide ((0 : Int) < (b : Int)) = false := by simp; omega
              have f2n : decide (0 < b) = false := by simp; omega
              obtain ⟨m1, hm1⟩ : ∃ m1, m1 = m - 1 := ⟨_, rfl⟩
              have hm1i : m1 < i := by omega
              have hm1w : (m : Int) - 1 = (m1 : Int) := by omega
              have hm1x : IntKind.i64.wrap ((m : Int) - 1) = (m1 : Int) := by rw [hm1w]; exact wrapI (by omega) (by omega)
              have hm1y : IntKind.i64.wrap (m1 : Int) = (m1 : Int) := wrapI (by omega) (by omega)
              have hm1l : (m1 : Int) < (i : Int) := by omega
              have ru : (wr).cell? ⟨gt, m1, none⟩ = some (.slice (some ⟨gs m1, 0, none⟩) j j) := HT.out.rowCell hm1i (Nat.le_refl _)
              have cu : (wr).cell? ⟨gs m1, b, none⟩ = some (.int .i64 (best k zs (m1 + 1) (b + 1)).v) := HT.out.cell hm1i hbt
              have d1 : decide ((best k zs (m + 1) (b + 1)).v < (best k zs (m1 + 1) (b + 1)).v) = false := by have := HGR.out m1 b m b (by omega) (Nat.le_refl _); simp; omega
              clear hm1
              clear hm0 hb0
              go_upto_region 15 with (fail)
              go_quiet (fail)
              go_wp2_with (fail)
              go_roundw
              case rel => exact ⟨b + 1, by omega, by go_num, Lib.hid (HP.out.drewN _), Lib.hid (HT.out.drewN _), Lib.hid (HE.out.drewN _)⟩
              case measure => simp [intOf]; omega
            · have f1 : decide ((0 : Int) < (m : Int)) = true := by simp; omega
              have f1n : decide (0 < m) = true := by simp; omega
              have f2 : decide ((0 : Int) < (b : Int)) = true := by simp; omega
              have f2n : decide (0 < b) = true := by simp; omega
              obtain ⟨m1, hm1⟩ : ∃ m1, m1 = m - 1 := ⟨_, rfl⟩
              have hm1i : m1 < i := by omega
              have hm1w : (m : Int) - 1 = (m1 : Int) := by omega
              have hm1x : IntKind.i64.wrap ((m : Int) - 1) = (m1 : Int) := by rw [hm1w]; exact wrapI (by omega) (by omega)
              have hm1y : IntKind.i64.wrap (m1 : Int) = (m1 : Int) := wrapI (by omega) (by omega)
              have hm1l : (m1 : Int) < (i : Int) := by omega
              have ru : (wr).cell? ⟨gt, m1, none⟩ = some (.slice (some ⟨gs m1, 0, none⟩) j j) := HT.out.rowCell hm1i (Nat.le_refl _)
              have cu : (wr).cell? ⟨gs m1, b, none⟩ = some (.int .i64 (best k zs (m1 + 1) (b + 1)).v) := HT.out.cell hm1i hbt
              have d1 : decide ((best k zs (m + 1) (b + 1)).v < (best k zs (m1 + 1) (b + 1)).v) = false := by have := HGR.out m1 b m b (by omega) (Nat.le_refl _); simp; omega
              clear hm1
              obtain ⟨b1, hb1⟩ : ∃ b1, b1 = b - 1 := ⟨_, rfl⟩
              have hb1j : b1 < j := by omega
              have hb1w : (b : Int) - 1 = (b1 : Int) := by omega
              have hb1x : IntKind.i64.wrap ((b : Int) - 1) = (b1 : Int) := by rw [hb1w]; exact wrapI (by omega) (by omega)
              have hb1y : IntKind.i64.wrap (b1 : Int) = (b1 : Int) := wrapI (by omega) (by omega)
              have hb1l : (b1 : Int) < (j : Int) := by omega
              have cl : (wr).cell? ⟨gs m, b1, none⟩ = some (.int .i64 (best k zs (m + 1) (b1 + 1)).v) := HT.out.cell hlt hb1j
              have d2 : decide ((best k zs (m + 1) (b + 1)).v < (best k zs (m + 1) (b1 + 1)).v) = false := by have := HGR.out m b1 m b (Nat.le_refl _) (by omega); simp; omega
              clear hb1
              clear hm0 hb0
              go_upto_region 15 with (fail)
              go_quiet (fail)
              go_wp2_with (fail)
              go_roundw
              case rel => exact ⟨b + 1, by omega, by go_num, Lib.hid (HP.out.drewN _), Lib.hid (HT.out.drewN _), Lib.hid (HE.out.drewN _)⟩
              case measure => simp [intOf]; omega
          · obtain rfl : b = j := by omega
            have hbt2 : ¬ (b : Int) < (b : Int) := by omega
            go_wp2_with (fail)
            go_roundw
            case rel => exact ⟨m + 1, by omega, by go_num, HP, HT, HE⟩
            case measure => simp [intOf]; omega
      · have hlt2 : ¬ (m : Int) < (i : Int) := by omega
        clear hlt
        go_upto_region 18 with (fail)
        clear p0 p1 p2 p3
        go_loopw [10, 11] (fun t _ wr => ∃ z : Nat, z ≤ n ∧ t = .int .i64 (z : Int) ∧ Hid (PnM w wr q g n cap i j k zs) ∧ Hid (TbM B2 wr gt i j i gs (fun a b => (best k zs (a + 1) (b + 1)).v)) ∧ Hid (Blk 63 wr qe [.int .i64 e0, .int .i64 e1, .int .i64 e2])) (fun t _ _ => n - (intOf t).toNat)
        case atStart => exact ⟨0, Nat.zero_le _, rfl, HP, HT, HE⟩
        case round =>
          clear HP HT HE
          obtain ⟨z, hz, rfl, HP, HT, HE⟩ := hrel
          obtain ⟨p0, p1, p2, p3⟩ := HP.out.cells
          by_cases hzt : z < n
          · have hzt2 : (z : Int) < (n : Int) := by omega
            obtain ⟨g', off, e, hg, c0, c1, c2', c3⟩ := ShAt.at_ HP.out.sh.vals (i := z) (by have := HP.out.len.1; omega)
            obtain ⟨rfl, rfl⟩ : g = g' ∧ 0 = off := by injection e with e; injection e with e1 e2; exact ⟨e1, e2⟩
            obtain ⟨hw1, hh1, hw64, hh64, hs1, hs2⟩ := HSH.out _ (getD_mem (by have := HP.out.len.1; omega : z < zs.length))
            generalize zs.getD z sh0 = s at *
            obtain ⟨sw, sh, sv, st⟩ := s
            simp only [Nat.zero_add] at c0 c1 c2' c3 hw1 hh1 hw64 hh64 hs1 hs2
            have hbn := below_new wr (.cells #[.int .i64 sw, .int .i64 sh, .int .i64 sv, .bool st] 65)
            have HPn := Lib.hid (HP.out.keep hbn)
            have HTn := Lib.hid (HT.out.keep hbn)
            have HEn := Lib.hid (HE.out.keep hbn)
            have HQ : Hid (Blk 65 (wr.alloc (.cells #[.int .i64 sw, .int .i64 sh, .int .i64 sv, .bool st] 65)) wr.heap.size [.int .i64 sw, .int .i64 sh, .int .i64 sv, .bool st]) := Lib.hid (Blk.new wr 65 [.int .i64 sw, .int .i64 sh, .int .i64 sv, .bool st])
            clear hbn e
            go_upto_region 21 with (fail)
            obtain ⟨q9, hq9⟩ : ∃ q9, q9 = wr.heap.size := ⟨_, rfl⟩
            rw [← hq9] at HQ ⊢
            clear hq9 HP HT HE p0 p1 p2 p3 c0 c1 c2' c3 hg
            generalize wr.alloc (.cells #[.int .i64 sw, .int .i64 sh, .int .i64 sv, .bool st] 65) = V at *
            have HP := HPn
            have HT := HTn
            have HE := HEn
            clear HPn HTn HEn
            obtain ⟨p0, p1, p2, p3⟩ := HP.out.cells
            have s0 : V.cell? ⟨q9, 0, none⟩ = some (.int .i64 sw) := HQ.out.cell 0
            have s1 : V.cell? ⟨q9, 1, none⟩ = some (.int .i64 sh) := HQ.out.cell 1
            have s2 : V.cell? ⟨q9, 2, none⟩ = some (.int .i64 sv) := HQ.out.cell 2
            have s3 : V.cell? ⟨q9, 3, none⟩ = some (.bool st) := HQ.out.cell 3
            obtain ⟨a, hsa⟩ : ∃ a : Nat, sw = ((a + 1 : Nat) : Int) := ⟨(sw - 1).toNat, by omega⟩
            obtain ⟨b, hsb⟩ : ∃ b : Nat, sh = ((b + 1 : Nat) : Int) := ⟨(sh - 1).toNat, by omega⟩
            have hwa : sw - 1 = (a : Int) := by omega
            have hwb : sh - 1 = (b : Int) := by omega
            have hwa2 : IntKind.i64.wrap (sw - 1) = (a : Int) := by rw [hwa]; exact wrapI (by omega) (by omega)
            have hwb2 : IntKind.i64.wrap (sh - 1) = (b : Int) := by rw [hwb]; exact wrapI (by omega) (by omega)
            have hwa3 : IntKind.i64.wrap (a : Int) = (a : Int) := wrapI (by omega) (by omega)
            have hwb3 : IntKind.i64.wrap (b : Int) = (b : Int) := wrapI (by omega) (by omega)
            have HSA := Lib.hid hsa
            have HSB := Lib.hid hsb
            rcases (show ((i : Int) < sw) ∨ (sw ≤ (i : Int) ∧ (j : Int) < sh) ∨ (sw ≤ (i : Int) ∧ sh ≤ (j : Int)) by omega) with h1 | h1 | h1
            · have d1 : decide (sw ≤ (i : Int)) = false := by simp; omega
              rcases (show (st = false) ∨ (st = true ∧ (i : Int) < sh) ∨ (st = true ∧ sh ≤ (i : Int) ∧ (j : Int) < sw) ∨ (st = true ∧ sh ≤ (i : Int) ∧ sw ≤ (j : Int)) by cases st <;> simp <;> omega) with h2 | h2 | h2 | h2
              · as_aux_lemma =>
                  have e3 : st = false := h2
                  subst e3
                  clear h1 h2 hsa hsb hs1 hs2
                  go_quiet (fail)
                  go_wp2_with (fail)
                  go_roundw
                  case rel => exact ⟨z + 1, by omega, by go_num, Lib.hid (HP.out.drewN _), Lib.hid (HT.out.drewN _), Lib.hid (HE.out.drewN _)⟩
                  case measure => simp [intOf]; omega
              · as_aux_lemma =>
                  have e3 : st = true := h2.1
                  subst e3
                  have d4 : decide (sh ≤ (i : Int)) = false := by simp; omega
                  clear h1 h2 hsa hsb hs1 hs2
                  go_quiet (fail)
                  go_wp2_with (fail)
                  go_roundw
                  case rel => exact ⟨z + 1, by omega, by go_num, Lib.hid (HP.out.drewN _), Lib.hid (HT.out.drewN _), Lib.hid (HE.out.drewN _)⟩
                  case measure => simp [intOf]; omega
              · as_aux_lemma =>
                  have e3 : st = true := h2.1
                  subst e3
                  have d4 : decide (sh ≤ (i : Int)) = true := by simp; omega
                  have d5 : decide (sw ≤ (j : Int)) = false := by simp; omega
                  clear h1 h2 hsa hsb hs1 hs2
                  go_quiet (fail)
                  go_wp2_with (fail)
                  go_roundw
                  case rel => exact ⟨z + 1, by omega, by go_num, Lib.hid (HP.out.drewN _), Lib.hid (HT.out.drewN _), Lib.hid (HE.out.drewN _)⟩
                  case measure => simp [intOf]; omega
              · as_aux_lemma =>
                  have e3 : st = true := h2.1
                  subst e3
                  have d4 : decide (sh ≤ (i : Int)) = true := by simp; omega
                  have d5 : decide (sw ≤ (j : Int)) = true := by simp; omega
                  have hbi : b < i := by omega
                  have haj : a < j := by omega
                  have hbi2 : (b : Int) < (i : Int) := by omega
                  have haj2 : (a : Int) < (j : Int) := by omega
                  have rb : (V).cell? ⟨gt, b, none⟩ = some (.slice (some ⟨gs b, 0, none⟩) j j) := HT.out.rowCell hbi (Nat.le_refl _)
                  have cba : (V).cell? ⟨gs b, a, none⟩ = some (.int .i64 (best k zs (b + 1) (a + 1)).v) := HT.out.cell hbi haj
                  have dv2 : decide ((best k zs (b + 1) (a + 1)).v < sv) = false := by have := hs2 b a rfl HSB.out HSA.out (by omega) (by omega); simp; omega
                  clear h1 h2 hsa hsb hs1 hs2
                  go_quiet (fail)
                  go_wp2_with (fail)
                  go_roundw
                  case rel => exact ⟨z + 1, by omega, by go_num, Lib.hid (HP.out.drewN _), Lib.hid (HT.out.drewN _), Lib.hid (HE.out.drewN _)⟩
                  case measure => simp [intOf]; omega
            · have d1 : decide (sw ≤ (i : Int)) = true := by simp; omega
              have d2 : decide (sh ≤ (j : Int)) = false := by simp; omega
              rcases (show (st = false) ∨ (st = true ∧ (i : Int) < sh) ∨ (st = true ∧ sh ≤ (i : Int) ∧ (j : Int) < sw) ∨ (st = true ∧ sh ≤ (i : Int) ∧ sw ≤ (j : Int)) by cases st <;> simp <;> omega) with h2 | h2 | h2 | h2
              · as_aux_lemma =>
                  have e3 : st = false := h2
                  subst e3
                  clear h1 h2 hsa hsb hs1 hs2
                  go_quiet (fail)
                  go_wp2_with (fail)
                  go_roundw
                  case rel => exact ⟨z + 1, by omega, by go_num, Lib.hid (HP.out.drewN _), Lib.hid (HT.out.drewN _), Lib.hid (HE.out.drewN _)⟩
                  case measure => simp [intOf]; omega
              · as_aux_lemma =>
                  have e3 : st = true := h2.1
                  subst e3
                  have d4 : decide (sh ≤ (i : Int)) = false := by simp; omega
                  clear h1 h2 hsa hsb hs1 hs2
                  go_quiet (fail)
                  go_wp2_with (fail)
                  go_roundw
                  case rel => exact ⟨z + 1, by omega, by go_num, Lib.hid (HP.out.drewN _), Lib.hid (HT.out.drewN _), Lib.hid (HE.out.drewN _)⟩
                  case measure => simp [intOf]; omega
              · as_aux_lemma =>
                  have e3 : st = true := h2.1
                  subst e3
                  have d4 : decide (sh ≤ (i : Int)) = true := by simp; omega
                  have d5 : decide (sw ≤ (j : Int)) = false := by simp; omega
                  clear h1 h2 hsa hsb hs1 hs2
                  go_quiet (fail)
                  go_wp2_with (fail)
                  go_roundw
                  case rel => exact ⟨z + 1, by omega, by go_num, Lib.hid (HP.out.drewN _), Lib.hid (HT.out.drewN _), Lib.hid (HE.out.drewN _)⟩
                  case measure => simp [intOf]; omega
              · as_aux_lemma =>
                  have e3 : st = true := h2.1
                  subst e3
                  have d4 : decide (sh ≤ (i : Int)) = true := by simp; omega
                  have d5 : decide (sw ≤ (j : Int)) = true := by simp; omega
                  have hbi : b < i := by omega
                  have haj : a < j := by omega
                  have hbi2 : (b : Int) < (i : Int) := by omega
                  have haj2 : (a : Int) < (j : Int) := by omega
                  have rb : (V).cell? ⟨gt, b, none⟩ = some (.slice (some ⟨gs b, 0, none⟩) j j) := HT.out.rowCell hbi (Nat.le_refl _)
                  have cba : (V).cell? ⟨gs b, a, none⟩ = some (.int .i64 (best k zs (b + 1) (a + 1)).v) := HT.out.cell hbi haj
                  have dv2 : decide ((best k zs (b + 1) (a + 1)).v < sv) = false := by have := hs2 b a rfl HSB.out HSA.out (by omega) (by omega); simp; omega
                  clear h1 h2 hsa hsb hs1 hs2
                  go_quiet (fail)
                  go_wp2_with (fail)
                  go_roundw
                  case rel => exact ⟨z + 1, by omega, by go_num, Lib.hid (HP.out.drewN _), Lib.hid (HT.out.drewN _), Lib.hid (HE.out.drewN _)⟩
                  case measure => simp [intOf]; omega
            · have d1 : decide (sw ≤ (i : Int)) = true := by simp; omega
              have d2 : decide (sh ≤ (j : Int)) = true := by simp; omega
              have hai : a < i := by omega
              have hbj : b < j := by omega
              have hai2 : (a : Int) < (i : Int) := by omega
              have hbj2 : (b : Int) < (j : Int) := by omega
              have ra : (V).cell? ⟨gt, a, none⟩ = some (.slice (some ⟨gs a, 0, none⟩) j j) := HT.out.rowCell hai (Nat.le_refl _)
              have cab : (V).cell? ⟨gs a, b, none⟩ = some (.int .i64 (best k zs (a + 1) (b + 1)).v) := HT.out.cell hai hbj
              have dv : decide ((best k zs (a + 1) (b + 1)).v < sv) = false := by have := hs1 a b HSA.out HSB.out (by omega) (by omega); simp; omega
              rcases (show (st = false) ∨ (st = true ∧ (i : Int) < sh) ∨ (st = true ∧ sh ≤ (i : Int) ∧ (j : Int) < sw) ∨ (st = true ∧ sh ≤ (i : Int) ∧ sw ≤ (j : Int)) by cases st <;> simp <;> omega) with h2 | h2 | h2 | h2
              · as_aux_lemma =>
                  have e3 : st = false := h2
                  subst e3
                  clear h1 h2 hsa hsb hs1 hs2
                  go_quiet (fail)
                  go_wp2_with (fail)
                  go_roundw
                  case rel => exact ⟨z + 1, by omega, by go_num, Lib.hid (HP.out.drewN _), Lib.hid (HT.out.drewN _), Lib.hid (HE.out.drewN _)⟩
                  case measure => simp [intOf]; omega
              · as_aux_lemma =>
                  have e3 : st = true := h2.1
                  subst e3
                  have d4 : decide (sh ≤ (i : Int)) = false := by simp; omega
                  clear h1 h2 hsa hsb hs1 hs2
                  go_quiet (fail)
                  go_wp2_with (fail)
                  go_roundw
                  case rel => exact ⟨z + 1, by omega, by go_num, Lib.hid (HP.out.drewN _), Lib.hid (HT.out.drewN _), Lib.hid (HE.out.drewN _)⟩
                  case measure => simp [intOf]; omega
              · as_aux_lemma =>
                  have e3 : st = true := h2.1
                  subst e3
                  have d4 : decide (sh ≤ (i : Int)) = true := by simp; omega
                  have d5 : decide (sw ≤ (j : Int)) = false := by simp; omega
                  clear h1 h2 hsa hsb hs1 hs2
                  go_quiet (fail)
                  go_wp2_with (fail)
                  go_roundw
                  case rel => exact ⟨z + 1, by omega, by go_num, Lib.hid (HP.out.drewN _), Lib.hid (HT.out.drewN _), Lib.hid (HE.out.drewN _)⟩
                  case measure => simp [intOf]; omega
              · as_aux_lemma =>
                  have e3 : st = true := h2.1
                  subst e3
                  have d4 : decide (sh ≤ (i : Int)) = true := by simp; omega
                  have d5 : decide (sw ≤ (j : Int)) = true := by simp; omega
                  have hbi : b < i := by omega
                  have haj : a < j := by omega
                  have hbi2 : (b : Int) < (i : Int) := by omega
                  have haj2 : (a : Int) < (j : Int) := by omega
                  have rb : (V).cell? ⟨gt, b, none⟩ = some (.slice (some ⟨gs b, 0, none⟩) j j) := HT.out.rowCell hbi (Nat.le_refl _)
                  have cba : (V).cell? ⟨gs b, a, none⟩ = some (.int .i64 (best k zs (b + 1) (a + 1)).v) := HT.out.cell hbi haj
                  have dv2 : decide ((best k zs (b + 1) (a + 1)).v < sv) = false := by have := hs2 b a rfl HSB.out HSA.out (by omega) (by omega); simp; omega
                  clear h1 h2 hsa hsb hs1 hs2
                  go_quiet (fail)
                  go_wp2_with (fail)
                  go_roundw
                  case rel => exact ⟨z + 1, by omega, by go_num, Lib.hid (HP.out.drewN _), Lib.hid (HT.out.drewN _), Lib.hid (HE.out.drewN _)⟩
                  case measure => simp [intOf]; omega
          · have hzt2 : ¬ (z : Int) < (n : Int) := by omega
            clear hzt
            go_upto_region 23 with (fail)
            obtain ⟨t1, t2, x0, hx0, hxv⟩ := tmod_rng e0 hi1
            obtain ⟨t3, t4, y0, hy0, hyv⟩ := tmod_rng e1 hj1
            have ee0 : wr.cell? ⟨qe, 0, none⟩ = some (.int .i64 e0) := HE.out.cell 0
            have ee1 : wr.cell? ⟨qe, 1, none⟩ = some (.int .i64 e1) := HE.out.cell 1
            have hi0 : ¬ (i : Int) = 0 := by omega
            have hj0 : ¬ (j : Int) = 0 := by omega
            have hi0n : ¬ i = 0 := by omega
            have hj0n : ¬ j = 0 := by omega
            have w1' : IntKind.i64.wrap (e0.tmod i) = e0.tmod i := wrapI (by omega) (by omega)
            have w2' : IntKind.i64.wrap (e0.tmod i + i) = e0.tmod i + i := wrapI (by omega) (by omega)
            have w3' : IntKind.i64.wrap (x0 : Int) = (x0 : Int) := wrapI (by omega) (by omega)
            have w4' : IntKind.i64.wrap (e1.tmod j) = e1.tmod j := wrapI (by omega) (by omega)
            have w5' : IntKind.i64.wrap (e1.tmod j + j) = e1.tmod j + j := wrapI (by omega) (by omega)
            have w6' : IntKind.i64.wrap (y0 : Int) = (y0 : Int) := wrapI (by omega) (by omega)
            clear t1 t2 t3 t4
            go_quiet (fail)
            have HPr := Lib.hid (HP.out.drewN nq)
            have HTr := Lib.hid (HT.out.drewN nq)
            have HEr := Lib.hid (HE.out.drewN nq)
            clear p0 p1 p2 p3 ee0 ee1 HP HT HE hxv hyv w1' w2' w3' w4' w5' w6' hi0 hj0 hi0n hj0n
            generalize wr.drewN nq = V5 at *
            have HP := HPr
            have HT := HTr
            have HE := HEr
            clear HPr HTr HEr
            have hx0l : (x0 : Int) < (i : Int) := by omega
            have hy0l : (y0 : Int) < (j : Int) := by omega
            go_upto_region 25 with (fail)
            go_loopw [14, 15] (fun t _ wr => ∃ c : Nat, c ≤ x0 ∧ t = .int .i64 (c : Int) ∧ Hid (PnM w wr q g n cap i j k zs) ∧ Hid (TbM B2 wr gt i j i gs (fun a b => (best k zs (a + 1) (b + 1)).v)) ∧ Hid (Blk 63 wr qe [.int .i64 e0, .int .i64 e1, .int .i64 e2])) (fun t _ _ => x0 - (intOf t).toNat)
            case atStart => exact ⟨0, Nat.zero_le _, rfl, HP, HT, HE⟩
            case round =>
              clear HP HT HE
              obtain ⟨c, hc, rfl, HP, HT, HE⟩ := hrel
              obtain ⟨p0, p1, p2, p3⟩ := HP.out.cells
              by_cases hct : c < x0
              · have hct2 : (c : Int) < (x0 : Int) := by omega
                have rw1 : (wr).cell? ⟨gt, x0, none⟩ = some (.slice (some ⟨gs x0, 0, none⟩) j j) := HT.out.rowCell hx0 (Nat.le_refl _)
                have cw1 : (wr).cell? ⟨gs x0, y0, none⟩ = some (.int .i64 (best k zs (x0 + 1) (y0 + 1)).v) := HT.out.cell hx0 hy0
                by_cases hr0 : 0 ≤ (x0 : Int) - c - 1 - k
                · obtain ⟨r, hr⟩ : ∃ r : Nat, (r : Int) = (x0 : Int) - c - 1 - k := ⟨((x0 : Int) - c - 1 - k).toNat, by omega⟩
                  have hle := HAC.out x0 y0 c r hx0 hy0 hct hr
                  have hg1 := HBG.out c y0 (by omega) (by omega)
                  have hg2 := HBG.out r y0 (by omega) (by omega)
                  have hn1 := HNN.out (c + 1) (y0 + 1)
                  have hn2 := HNN.out (r + 1) (y0 + 1)
                  have rw2 : (wr).cell? ⟨gt, c, none⟩ = some (.slice (some ⟨gs c, 0, none⟩) j j) := HT.out.rowCell (by omega) (Nat.le_refl _)
                  have cw2 : (wr).cell? ⟨gs c, y0, none⟩ = some (.int .i64 (best k zs (c + 1) (y0 + 1)).v) := HT.out.cell (by omega) hy0
                  have rw3 : (wr).cell? ⟨gt, r, none⟩ = some (.slice (some ⟨gs r, 0, none⟩) j j) := HT.out.rowCell (by omega) (Nat.le_refl _)
                  have cw3 : (wr).cell? ⟨gs r, y0, none⟩ = some (.int .i64 (best k zs (r + 1) (y0 + 1)).v) := HT.out.cell (by omega) hy0
                  have hcl : (c : Int) < (i : Int) := by omega
                  have hrl : (r : Int) < (i : Int) := by omega
                  have hcn : c < i := by omega
                  have hrn : r < i := by omega
                  have wr1 : IntKind.i64.wrap ((best k zs (c + 1) (y0 + 1)).v + (best k zs (r + 1) (y0 + 1)).v) = (best k zs (c + 1) (y0 + 1)).v + (best k zs (r + 1) (y0 + 1)).v := wrapI (by omega) (by omega)
                  have dd : decide ((best k zs (x0 + 1) (y0 + 1)).v < (best k zs (c + 1) (y0 + 1)).v + (best k zs (r + 1) (y0 + 1)).v) = false := by simp; omega
                  have hrw : (x0 : Int) - c - 1 - k = (r : Int) := hr.symm
                  clear hr hr0 hle hg1 hg2 hn1 hn2
                  go_upto_region 28 with (fail)
                  go_quiet (fail)
                  go_wp2_with (fail)
                  go_roundw
                  case rel => exact ⟨c + 1, by omega, by go_num, Lib.hid (HP.out.drewN _), Lib.hid (HT.out.drewN _), Lib.hid (HE.out.drewN _)⟩
                  case measure => simp [intOf]; omega
                · obtain ⟨rv, hrv⟩ : ∃ rv : Int, (x0 : Int) - c - 1 - k = rv := ⟨_, rfl⟩
                  have dd : decide (0 ≤ rv) = false := by simp; omega
                  go_upto_region 28 with (fail)
                  clear hr0
                  go_quiet (fail)
                  go_wp2_with (fail)
                  go_roundw
                  case rel => exact ⟨c + 1, by omega, by go_num, Lib.hid (HP.out.drewN _), Lib.hid (HT.out.drewN _), Lib.hid (HE.out.drewN _)⟩
                  case measure => simp [intOf]; omega
              · have hct2 : ¬ (c : Int) < (x0 : Int) := by omega
                clear hct
                go_upto_region 31 with (fail)
                clear p0 p1 p2 p3
                go_loopw [16, 17] (fun t _ wr => ∃ c : Nat, c ≤ y0 ∧ t = .int .i64 (c : Int) ∧ Hid (PnM w wr q g n cap i j k zs) ∧ Hid (TbM B2 wr gt i j i gs (fun a b => (best k zs (a + 1) (b + 1)).v)) ∧ Hid (Blk 63 wr qe [.int .i64 e0, .int .i64 e1, .int .i64 e2])) (fun t _ _ => y0 - (intOf t).toNat)
                case atStart => exact ⟨0, Nat.zero_le _, rfl, HP, HT, HE⟩
                case round =>
                  clear HP HT HE
                  obtain ⟨c, hc, rfl, HP, HT, HE⟩ := hrel
                  obtain ⟨p0, p1, p2, p3⟩ := HP.out.cells
                  by_cases hct : c < y0
                  · have hct2 : (c : Int) < (y0 : Int) := by omega
                    have rw1 : (wr).cell? ⟨gt, x0, none⟩ = some (.slice (some ⟨gs x0, 0, none⟩) j j) := HT.out.rowCell hx0 (Nat.le_refl _)
                    have cw1 : (wr).cell? ⟨gs x0, y0, none⟩ = some (.int .i64 (best k zs (x0 + 1) (y0 + 1)).v) := HT.out.cell hx0 hy0
                    by_cases hr0 : 0 ≤ (y0 : Int) - c - 1 - k
                    · obtain ⟨r, hr⟩ : ∃ r : Nat, (r : Int) = (y0 : Int) - c - 1 - k := ⟨((y0 : Int) - c - 1 - k).toNat, by omega⟩
                      have hle := HDN.out x0 y0 c r hx0 hy0 hct hr
                      have hg1 := HBG.out x0 c (by omega) (by omega)
                      have hg2 := HBG.out x0 r (by omega) (by omega)
                      have hn1 := HNN.out (x0 + 1) (c + 1)
                      have hn2 := HNN.out (x0 + 1) (r + 1)
                      have cw2 : (wr).cell? ⟨gs x0, c, none⟩ = some (.int .i64 (best k zs (x0 + 1) (c + 1)).v) := HT.out.cell hx0 (by omega)
                      have cw3 : (wr).cell? ⟨gs x0, r, none⟩ = some (.int .i64 (best k zs (x0 + 1) (r + 1)).v) := HT.out.cell hx0 (by omega)
                      have hcl : (c : Int) < (j : Int) := by omega
                      have hrl : (r : Int) < (j : Int) := by omega
                      have hcn : c < j := by omega
                      have hrn : r < j := by omega
                      have wr1 : IntKind.i64.wrap ((best k zs (x0 + 1) (c + 1)).v + (best k zs (x0 + 1) (r + 1)).v) = (best k zs (x0 + 1) (c + 1)).v + (best k zs (x0 + 1) (r + 1)).v := wrapI (by omega) (by omega)
                      have dd : decide ((best k zs (x0 + 1) (y0 + 1)).v < (best k zs (x0 + 1) (c + 1)).v + (best k zs (x0 + 1) (r + 1)).v) = false := by simp; omega
                      have hrw : (y0 : Int) - c - 1 - k = (r : Int) := hr.symm
                      clear hr hr0 hle hg1 hg2 hn1 hn2
                      go_upto_region 34 with (fail)
                      go_quiet (fail)
                      go_wp2_with (fail)
                      go_roundw
                      case rel => exact ⟨c + 1, by omega, by go_num, Lib.hid (HP.out.drewN _), Lib.hid (HT.out.drewN _), Lib.hid (HE.out.drewN _)⟩
                      case measure => simp [intOf]; omega
                    · obtain ⟨rv, hrv⟩ : ∃ rv : Int, (y0 : Int) - c - 1 - k = rv := ⟨_, rfl⟩
                      have dd : decide (0 ≤ rv) = false := by simp; omega
                      go_upto_region 34 with (fail)
                      clear hr0
                      go_quiet (fail)
                      go_wp2_with (fail)
                      go_roundw
                      case rel => exact ⟨c + 1, by omega, by go_num, Lib.hid (HP.out.drewN _), Lib.hid (HT.out.drewN _), Lib.hid (HE.out.drewN _)⟩
                      case measure => simp [intOf]; omega
                  · have hct2 : ¬ (c : Int) < (y0 : Int) := by omega
                    clear hct
                    go_wp2_with (fail)
                    go_ret
                    exact ⟨rfl, HP.out.bel⟩
end Go.Proofs.Ytkfjlgjncaddpaa
