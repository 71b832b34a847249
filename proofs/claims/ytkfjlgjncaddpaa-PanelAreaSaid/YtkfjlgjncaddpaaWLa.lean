/- PanelArea. -/
import Derived.Test.YtkfjlgjncaddpaaPn
import Derived.Test.YtkfjlgjncaddpaaWBrf
import Derived.Test.YtkfjlgjncaddpaaWThr
import Derived.Test.YtkfjlgjncaddpaaWBst
import Derived.Test.YtkfjlgjncaddpaaWLiv
import Derived.Deep.Cut
import Derived.Deep.CutRange
import Derived.Deep.RegionHeld3
namespace Go.Proofs.Ytkfjlgjncaddpaa
open Go.RowKit

set_option maxHeartbeats 4000000 in
set_option maxRecDepth 100000 in
theorem area_law (W H K : Int) (A : Option Addr) (c L : Nat) (ss : List Sh) (A' : Option Addr) (c' M : Nat) (y : List Cu) (bb : Bool) (w : World) (hA : ShAt w A ss) (hL : L = ss.length) (hc : L ≤ c) (hnil : A = none → c = 0) (hW : -9223372036854775808 ≤ W ∧ W ≤ 9223372036854775807) (hH : -9223372036854775808 ≤ H ∧ H ≤ 9223372036854775807) (hA' : CuAt w A' y) (hM : M = y.length) (hc' : M ≤ c') (hnil' : A' = none → c' = 0) :
    Calls Try.prog 10 #[.agg #[.int .i64 W, .int .i64 H, .int .i64 K, .slice A L c], .slice A' M c', .bool bb] w fun e w' => e = .returned (.bool true) ∧ Below w.heap.size w w' := by
  have hb0 : Below w.heap.size w (w.alloc (.cells #[.int .i64 W, .int .i64 H, .int .i64 K, .slice A L c] 24)) := below_new w (.cells #[.int .i64 W, .int .i64 H, .int .i64 K, .slice A L c] 24)
  have hfw := few_any W H K A c L ss (w.alloc (.cells #[.int .i64 W, .int .i64 H, .int .i64 K, .slice A L c] 24)) (hA.keep hb0) hL hc hnil hW hH
  have HBF : Hid (∀ V, Below (w.alloc (.cells #[.int .i64 W, .int .i64 H, .int .i64 K, .slice A L c] 24)).heap.size (w.alloc (.cells #[.int .i64 W, .int .i64 H, .int .i64 K, .slice A L c] 24)) V → Calls Try.prog 26 #[.slice A' M c'] V (BrfPost y V)) := Lib.hid fun V hV => brief_any A' c' M y V ((hA'.keep hb0).keep hV) hM hc' hnil'
  have HFW := Lib.hid hfw
  have HB0 := Lib.hid hb0
  clear hfw hb0 hA hL hW hH hc hnil hA' hM hc' hnil'
  go_enter Try.func10, Try.ntmps10
  go_upto_region 2 with (first | (go_at_call 16; (with_reducible refine (HFW.out).mono ?_); rintro e w1 ⟨g, cap, rfl, hwg, hnc, hcm, hH, hb1⟩) | (go_at_call 26; (with_reducible refine (HBF.out _ hb1).mono ?_); rintro e w2 ⟨g2, cap2, rfl, hwg2, hnc2, hcm2, hpl, hgl2, hb2⟩))
  have hpn := @pn_new w _ w2 g cap (cut20 W) (cut20 H) K ss HB0.out hwg hnc hcm (hH.keep hb2) (below_on hb1 hb1.size hb2)
  have hpl1 := hpl.keep (below_new w2 (.cells #[.int .i64 (cut20 W), .int .i64 (cut20 H), .int .i64 K, .slice (some ⟨g, 0, none⟩) (fewL ss).length cap] 24))
  have hbr : (briefL y).length ≤ 300 := by unfold briefL; rw [List.length_take]; omega
  obtain ⟨q, hq⟩ : ∃ q, q = w2.heap.size := ⟨_, rfl⟩
  rw [← hq] at hpn ⊢
  generalize (w2.alloc (.cells #[.int .i64 (cut20 W), .int .i64 (cut20 H), .int .i64 K, .slice (some ⟨g, 0, none⟩) (fewL ss).length cap] 24)) = W1 at *
  generalize cut20 W = X at *
  generalize cut20 H = Y at *
  generalize fewL ss = zs at *
  generalize briefL y = l at *
  obtain ⟨n, hn⟩ : ∃ n, n = zs.length := ⟨_, rfl⟩
  rw [← hn] at hpn ⊢
  obtain ⟨m2, hm2⟩ : ∃ m, m = l.length := ⟨_, rfl⟩
  rw [← hm2] at hnc2 hbr ⊢
  have HP := Lib.hid hpn
  have HPL := Lib.hid hpl1
  have HM2 := Lib.hid hm2
  clear HFW HB0 HBF hq hpn hH hwg hnc hcm hb1 hn hpl hpl1 hgl2 hb2 hwg2 hm2
  have hn17 : n ≤ 17 := HP.out.len.2.1
  have hbe : ∀ V, PnM w V q g n cap X Y K zs → Calls Try.prog 23 #[.int .i64 X, .int .i64 Y, .int .i64 K, .slice (some ⟨g, 0, none⟩) n cap] V fun e w' => ∃ A3 M3 c3 l3 v er, e = .returned (.tuple #[.slice A3 M3 c3, .int .i64 v, .int .i64 er]) ∧ CuAt w' A3 l3 ∧ Hid (M3 = l3.length) ∧ M3 ≤ c3 ∧ (A3 = none → c3 = 0) ∧ c3 ≤ maxLen ∧ M3 ≤ 100000 ∧ Below V.heap.size V w' := fun V h => (pbest_any X Y K (some ⟨g, 0, none⟩) cap n zs V h.sh.vals h.len.1 (by have := h.len; omega)).mono fun e w' ⟨hb, h1⟩ => by
    rcases h1 with ⟨_, h2⟩ | ⟨i, j, k, q1, q2, q3, hok, g', cap', h2, _, h3, h4, _, h5⟩
    · exact ⟨none, 0, 0, [], 0, 1, h2, Vals.nil, Lib.hid rfl, Nat.le_refl _, fun _ => rfl, by unfold maxLen; omega, by omega, hb⟩
    · subst q1 q2 q3
      obtain ⟨i', j', k', a1, a2, a3, hi1, hi, hj1, hj, _⟩ := okP_ok hok
      obtain rfl : i = i' := by omega
      obtain rfl : j = j' := by omega
      have := @planF_len k i j zs hi1 hj1 hi hj
      exact ⟨_, _, _, _, _, _, h2, h5, Lib.hid rfl, h3, (fun e => by cases e), h4, by omega, hb⟩
  have HBE := Lib.hid hbe
  clear hbe
  go_upto_if 20 with (fail)
  go_cut [8] from 9 (fun s ww => ∃ A2 M2 c2 l2, s = .slice A2 M2 c2 ∧ CuAt ww A2 l2 ∧ M2 = l2.length ∧ M2 ≤ c2 ∧ (A2 = none → c2 = 0) ∧ c2 ≤ maxLen ∧ M2 ≤ 100000 ∧ PnM w ww q g n cap X Y K zs)
  case first =>
    cases bb with
    | false =>
      go_wp2_with (fail)
      go_meet
      case rel => exact ⟨_, _, _, l, rfl, HPL.out, HM2.out, hnc2, (fun e => by cases e), hcm2, by omega, HP.out⟩
    | true =>
      obtain ⟨p0, p1, p2, p3⟩ := HP.out.cells
      go_wp2_with (go_at_call 23; (with_reducible refine (HBE.out _ HP.out).mono ?_); rintro e w3 ⟨A3, M3, c3, l3, v3, er3, rfl, hl3, hm3.out, hc3, hn3, hx3, hy3, hb3⟩)
      go_meet
      case rel => exact ⟨_, _, _, l3, rfl, hl3, hm3.out, hc3, hn3, hx3, hy3, HP.out.keep hb3⟩
  case rest =>
    clear HP HPL HM2 hnc2 hcm2 hbr HBE
    obtain ⟨A2, M2, c2, l2, rfl, hl2, hm2, hc2, hn2, hx2, hy2, hp2⟩ := hcut
    have HP := Lib.hid hp2
    have HPL := Lib.hid hl2
    have hff := four w q g n cap X Y K zs A2 M2 c2 l2 hm2 hc2 hn2 hx2 hy2
    have HM2 := Lib.hid hm2
    clear hp2 hl2 hc2 hn2 hx2 hm2
    rcases hff with ⟨ec, hec, hbad⟩ | ⟨i, j, k, ps, rfl, rfl, rfl, hok, hlay, hok4⟩
    · unfold Bad4 at hbad
      have HB4 := Lib.hid hbad
      have hec0 : ¬ ec = 0 := by rcases hec with ⟨h, _⟩ | ⟨h, _⟩ <;> omega
      have hd0 : (ec != 0) = true := by simp [hec0]
      clear hbad hec
      obtain ⟨p0, p1, p2, p3⟩ := HP.out.cells
      go_upto_region 5 with (go_at_call 30; (with_reducible refine (HB4.out _ HP.out HPL.out).2.2.2.mono ?_); rintro e w4 ⟨rfl, hb4⟩)
      have HP4 := Lib.hid (HP.out.keep hb4)
      have HL4 := Lib.hid (HPL.out.keep hb4)
      clear p0 p1 p2 p3 hb4
      obtain ⟨p0, p1, p2, p3⟩ := HP4.out.cells
      go_upto_region 6 with (go_at_call 29; (with_reducible refine (HB4.out _ HP4.out HL4.out).2.2.1.mono ?_); rintro e w5 ⟨rfl, hb5⟩)
      have HP5 := Lib.hid (HP4.out.keep hb5)
      have HL5 := Lib.hid (HL4.out.keep hb5)
      clear p0 p1 p2 p3 hb5
      obtain ⟨p0, p1, p2, p3⟩ := HP5.out.cells
      go_wp2_with (first | (go_at_call 27; (with_reducible refine (HB4.out _ HP5.out HL5.out).2.1.mono ?_); rintro e w6 ⟨rfl, hb6⟩) | (go_at_call 20; (with_reducible refine (lives_any _).mono ?_); rintro e w7 ⟨rfl, hb7⟩))
      go_ret
      exact ⟨rfl, below2 (below2 HP5.out.bel hb6) hb7⟩
    · unfold Ok4 at hok4
      have HB4 := Lib.hid hok4
      obtain ⟨i', j', k', a1, a2, a3, hi1, hi, hj1, hj, hk, hlen, hoks⟩ := okP_ok hok
      clear a1 a2 a3
      obtain ⟨_, hpo, hpl⟩ := lay_known hlay
      have har := area_upper hlay
      have he1 := area_exch hpo
      have he2 := value_exch hpo
      have hnz := HP.out.len.1
      rw [← hnz] at he1 he2
      have HBD : Hid (∀ m, m < n → 0 ≤ cntN ps m ∧ cntN ps m ≤ 100000 ∧ (1 ≤ (zs.getD m sh0).w ∧ (zs.getD m sh0).w ≤ 64 ∧ 1 ≤ (zs.getD m sh0).h ∧ (zs.getD m sh0).h ≤ 64 ∧ 0 ≤ (zs.getD m sh0).v ∧ (zs.getD m sh0).v ≤ 1000000) ∧ (0 ≤ cntN ps m * (zs.getD m sh0).w ∧ cntN ps m * (zs.getD m sh0).w ≤ 6400000) ∧ (0 ≤ cntN ps m * (zs.getD m sh0).w * (zs.getD m sh0).h ∧ cntN ps m * (zs.getD m sh0).w * (zs.getD m sh0).h ≤ 409600000) ∧ (0 ≤ cntN ps m * (zs.getD m sh0).v ∧ cntN ps m * (zs.getD m sh0).v ≤ 100000000000)) := Lib.hid fun m hm => by
        have h1 := cntN_le ps m
        have h2 := HM2.out
        have h3 := hoks _ (getD_mem (by omega : m < zs.length))
        have h4 : cntN ps m * (zs.getD m sh0).w ≤ 100000 * 64 := Int.mul_le_mul (by omega) (by omega) (by omega) (by omega)
        have h5 : 0 ≤ cntN ps m * (zs.getD m sh0).w := Int.mul_nonneg (by omega) (by omega)
        have h6 : cntN ps m * (zs.getD m sh0).w * (zs.getD m sh0).h ≤ 6400000 * 64 := Int.mul_le_mul (by omega) (by omega) (by omega) (by omega)
        have h7 : 0 ≤ cntN ps m * (zs.getD m sh0).w * (zs.getD m sh0).h := Int.mul_nonneg (by omega) (by omega)
        have h8 : cntN ps m * (zs.getD m sh0).v ≤ 100000 * 1000000 := Int.mul_le_mul (by omega) (by omega) (by omega) (by omega)
        have h9 : 0 ≤ cntN ps m * (zs.getD m sh0).v := Int.mul_nonneg (by omega) (by omega)
        exact ⟨by omega, by omega, h3, ⟨h5, by omega⟩, ⟨h7, by omega⟩, h9, by omega⟩
      have HS1 : Hid (∀ m, m ≤ n → 0 ≤ sq (fun q => cntN ps q * (zs.getD q sh0).w * (zs.getD q sh0).h) m ∧ sq (fun q => cntN ps q * (zs.getD q sh0).w * (zs.getD q sh0).h) m ≤ 17 * 409600000) := Lib.hid fun m hm => by
        have := sq_bd (n := m) (fun q hq => (HBD.out q (by omega)).2.2.2.2.1)
        have h3 : (m : Int) * 409600000 ≤ 17 * 409600000 := Int.mul_le_mul_of_nonneg_right (by omega) (by omega)
        omega
      have HS2 : Hid (∀ m, m ≤ n → 0 ≤ sq (fun q => cntN ps q * (zs.getD q sh0).v) m ∧ sq (fun q => cntN ps q * (zs.getD q sh0).v) m ≤ 17 * 100000000000) := Lib.hid fun m hm => by
        have := sq_bd (n := m) (fun q hq => (HBD.out q (by omega)).2.2.2.2.2)
        have h3 : (m : Int) * 100000000000 ≤ 17 * 100000000000 := Int.mul_le_mul_of_nonneg_right (by omega) (by omega)
        omega
      have hij : 0 ≤ (i : Int) * j ∧ (i : Int) * j ≤ 4096 := ⟨Int.mul_nonneg (by omega) (by omega), by
        obtain ⟨i2, j2, k2, b1, b2, b3, _, hi2, _, hj2, _⟩ := okP_ok hok
        have : (i : Int) * j ≤ 64 * 64 := Int.mul_le_mul (by omega) (by omega) (by omega) (by omega)
        omega⟩
      have hv2 := HS2.out n (Nat.le_refl _)
      rw [he2] at hv2
      have HE1 := Lib.hid he1
      have HE2 := Lib.hid he2
      have hwij : IntKind.i64.wrap ((i : Int) * j) = (i : Int) * j := wrapI (by omega) (by omega)
      obtain ⟨SA, hSA⟩ : ∃ SA, SA = sumP aOf ps := ⟨_, rfl⟩
      obtain ⟨SV, hSV⟩ : ∃ SV, SV = sumP (vOf zs) ps := ⟨_, rfl⟩
      have hb30 := fun V h1 h2 => (HB4.out V h1 h2).2.2.2
      have hb27 := fun V h1 h2 => (HB4.out V h1 h2).2.1
      rw [← hSA] at hb30 har HE1
      rw [← hSV] at hb27 hv2 HE2
      have H30 := Lib.hid hb30
      have H27 := Lib.hid hb27
      have hneg : decide ((i : Int) * j - SA < 0) = false := by simp; omega
      clear hok4 hok hlay hpo hpl he1 he2 hoks hlen hnz hSA hSV hb30 hb27
      obtain ⟨p0, p1, p2, p3⟩ := HP.out.cells
      go_upto_region 5 with (go_at_call 30; (with_reducible refine (H30.out _ HP.out HPL.out).mono ?_); rintro e w4 ⟨rfl, hb4⟩)
      have HP4 := Lib.hid (HP.out.keep hb4)
      have HL4 := Lib.hid (HPL.out.keep hb4)
      clear p0 p1 p2 p3 hb4 HPL
      obtain ⟨p0, p1, p2, p3⟩ := HP4.out.cells
      go_upto_region 6 with (go_at_call 29; (with_reducible refine (HB4.out _ HP4.out HL4.out).2.2.1.mono ?_); rintro e w5 ⟨gc, rfl, hgc, hbc, hb5⟩)
      have HP5 := Lib.hid (HP4.out.keep hb5)
      have HL5 := Lib.hid (HL4.out.keep hb5)
      have HC5 := Lib.hid hbc
      clear p0 p1 p2 p3 hb5 hbc hgc HP4 HL4
      obtain ⟨p0, p1, p2, p3⟩ := HP5.out.cells
      go_upto_region 9 with (first | (go_at_call 27; (with_reducible refine (H27.out _ HP5.out HL5.out).mono ?_); rintro e w6 ⟨rfl, hb6⟩) | (go_at_call 20; (with_reducible refine (lives_any _).mono ?_); rintro e w7 ⟨rfl, hb7⟩))
      have hb67 := below2 hb6 hb7
      have HP7 := Lib.hid (HP5.out.keep hb67)
      have HC7 := Lib.hid (HC5.out.keep hb67)
      clear p0 p1 p2 p3 hb6 hb7 hb67 HP5 HL5 HC5 HP H30 H27 HB4
      obtain ⟨p0, p1, p2, p3⟩ := HP7.out.cells
      go_upto_region 14 with (fail)
      go_loopw [15, 9, 13] (fun t s r wr => ∃ m : Nat, m ≤ n ∧ t = .int .i64 (m : Int) ∧ s = .int .i64 ((i : Int) * j - SA + sq (fun q => cntN ps q * (zs.getD q sh0).w * (zs.getD q sh0).h) m) ∧ r = .int .i64 (SV - sq (fun q => cntN ps q * (zs.getD q sh0).v) m) ∧ Hid (PnM w wr q g n cap i j k zs) ∧ Hid (Blk 3 wr gc (fl (cntN ps) n))) (fun t _ _ _ => n - (intOf t).toNat)
      case atStart => exact ⟨0, Nat.zero_le _, rfl, by simp [sq], by simp [sq], HP7, HC7⟩
      case round =>
        clear HP7 HC7 p0 p1 p2 p3
        obtain ⟨m, hm, rfl, rfl, rfl, HP, HC⟩ := hrel
        obtain ⟨p0, p1, p2, p3⟩ := HP.out.cells
        by_cases hlt : m < n
        · have hlt2 : (m : Int) < (n : Int) := by omega
          obtain ⟨b1, b2, b3, b4, b5, b6⟩ := HBD.out m hlt
          have hs1 := HS1.out m hm
          have hs2 := HS2.out m hm
          have n1 : sq (fun q => cntN ps q * (zs.getD q sh0).w * (zs.getD q sh0).h) (m + 1) = sq (fun q => cntN ps q * (zs.getD q sh0).w * (zs.getD q sh0).h) m + cntN ps m * (zs.getD m sh0).w * (zs.getD m sh0).h := rfl
          have n2 : sq (fun q => cntN ps q * (zs.getD q sh0).v) (m + 1) = sq (fun q => cntN ps q * (zs.getD q sh0).v) m + cntN ps m * (zs.getD m sh0).v := rfl
          obtain ⟨g', off, e, hg, c0, c1, c2', c3⟩ := ShAt.at_ HP.out.sh.vals (i := m) (by have := HP.out.len.1; omega)
          obtain ⟨rfl, rfl⟩ : g = g' ∧ 0 = off := by injection e with e; injection e with e1 e2; exact ⟨e1, e2⟩
          simp only [Nat.zero_add] at c0 c1 c2'
          have k0 : wr.cell? ⟨gc, m, none⟩ = some (.int .i64 (cntN ps m)) := HC.out.int hlt
          obtain ⟨S1, hS1⟩ : ∃ S1, S1 = sq (fun q => cntN ps q * (zs.getD q sh0).w * (zs.getD q sh0).h) m := ⟨_, rfl⟩
          obtain ⟨S2, hS2⟩ : ∃ S2, S2 = sq (fun q => cntN ps q * (zs.getD q sh0).v) m := ⟨_, rfl⟩
          rw [← hS1] at hs1 n1 ⊢
          rw [← hS2] at hs2 n2 ⊢
          generalize cntN ps m = cm at *
          generalize zs.getD m sh0 = s at *
          obtain ⟨sw, sh, sv, st⟩ := s
          simp only at c0 c1 c2' b3 b4 b5 b6 n1 n2
          have x1 : IntKind.i64.wrap (cm * sw) = cm * sw := wrapI (by omega) (by omega)
          have x2 : IntKind.i64.wrap (cm * sw * sh) = cm * sw * sh := wrapI (by omega) (by omega)
          have x3 : IntKind.i64.wrap ((i : Int) * j - SA + S1 + cm * sw * sh) = (i : Int) * j - SA + S1 + cm * sw * sh := wrapI (by omega) (by omega)
          have x4 : IntKind.i64.wrap (cm * sv) = cm * sv := wrapI (by omega) (by omega)
          have x5 : IntKind.i64.wrap (SV - S2 - cm * sv) = SV - S2 - cm * sv := wrapI (by omega) (by omega)
          have N1 := Lib.hid (show (i : Int) * j - SA + sq (fun q => cntN ps q * (zs.getD q sh0).w * (zs.getD q sh0).h) (m + 1) = (i : Int) * j - SA + S1 + cm * sw * sh by omega)
          have N2 := Lib.hid (show SV - sq (fun q => cntN ps q * (zs.getD q sh0).v) (m + 1) = SV - S2 - cm * sv by omega)
          clear n1 n2 hS1 hS2 e hg c3
          go_upto_region 16 with (fail)
          go_quiet (fail)
          go_upto_region 17 with (fail)
          have p3' : wr.drew.cell? ⟨q, 3, none⟩ = some (.slice (some ⟨g, 0, none⟩) n cap) := p3
          have k0' : wr.drew.cell? ⟨gc, m, none⟩ = some (.int .i64 cm) := k0
          have c2'' : wr.drew.cell? ⟨g, m * 4 + 2, none⟩ = some (.int .i64 sv) := c2'
          go_quiet (fail)
          go_wp2_with (fail)
          go_roundw
          case rel => exact ⟨m + 1, by omega, by go_num, by rw [N1.out], by rw [N2.out], Lib.hid (HP.out.drewN _), Lib.hid (HC.out.drewN _)⟩
          case measure => simp [intOf]; omega
        · obtain rfl : m = n := by omega
          have hlt2 : ¬ (m : Int) < (m : Int) := by omega
          have e1 : (i : Int) * j - SA + sq (fun q => cntN ps q * (zs.getD q sh0).w * (zs.getD q sh0).h) m = (i : Int) * j := by rw [HE1.out]; omega
          have e2 : SV - sq (fun q => cntN ps q * (zs.getD q sh0).v) m = 0 := by rw [HE2.out]; omega
          rw [e1, e2]
          go_wp2_with (fail)
          go_ret
          exact ⟨rfl, HP.out.bel⟩
end Go.Proofs.Ytkfjlgjncaddpaa
