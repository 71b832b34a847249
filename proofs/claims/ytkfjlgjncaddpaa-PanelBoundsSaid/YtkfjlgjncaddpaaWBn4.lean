/- The reference's Sheets. -/
import Derived.Test.YtkfjlgjncaddpaaWBn3
namespace Go.Proofs.Ytkfjlgjncaddpaa
open Go.RowKit

set_option maxHeartbeats 4000000 in
set_option maxRecDepth 100000 in
theorem refSheets_any (i j k : Nat) (A A' : Option Addr) (c L c' M : Nat) (ss : List Sh) (ws : List Int) (w : World) (hA : ShAt w A ss) (hL : L = ss.length) (hA' : Ints w A' ws) (hM : M = ws.length) (hok : okP i j k ss = true) (hMs : M ≤ 1000000) :
    Calls Try.prog 37 #[.int .i64 (i : Int), .int .i64 (j : Int), .slice A L c, .slice A' M c'] w fun e w' => e = .returned (.tuple #[.int .i64 (sheetN i j ss ws), .int .i64 (sheetE i j ss ws)]) ∧ Below w.heap.size w w' := by
  have hsp := sheet_parts (ws := ws) hok
  have hoks := ok_shapes hok
  have hlen := ok_len hok
  obtain ⟨hi1, hi, hj1, hj⟩ := ok_sides hok
  have HSE : Hid (sheetE i j ss ws = if ws.length = ss.length ∧ wantsOk ws = true then (if badW i j ss ws ss.length = true then 6 else 0) else 1) := Lib.hid rfl
  have HA := Lib.hid hA
  have HA' := Lib.hid hA'
  have HL := Lib.hid hL
  have HM := Lib.hid hM
  have HS := Lib.hid hoks
  have HSP := Lib.hid hsp
  have hLn : L ≤ 16 := by omega
  obtain ⟨se, hse⟩ : ∃ se, se = sheetE i j ss ws := ⟨_, rfl⟩
  obtain ⟨sn, hsn⟩ : ∃ sn, sn = sheetN i j ss ws := ⟨_, rfl⟩
  rw [← hse] at HSE HSP ⊢
  rw [← hsn] at HSP ⊢
  have m1 : (i : Int) * j ≤ 64 * 64 := Int.mul_le_mul (by omega) (by omega) (by omega) (by omega)
  have m0 : (1 : Int) ≤ (i : Int) * j := by have := Int.mul_le_mul (show (1 : Int) ≤ i by omega) (show (1 : Int) ≤ j by omega) (by omega) (by omega); omega
  have hM1 := Lib.hid m1
  have hM0 := Lib.hid m0
  clear hA hA' hL hoks hok hsp hM hse hsn hlen m1 m0
  by_cases hlm : M = L
  · have HLM : Hid (ws.length = ss.length) := Lib.hid (by rw [← HM.out, ← HL.out]; exact hlm)
    subst hlm
    have hd : ((M : Int) != (M : Int)) = false := by simp
    go_enter Try.func37, Try.ntmps37
    go_upto_region 4 with (fail)
    clear hd
    have HB1 := Lib.hid (Below.refl w.heap.size w)
    go_loopw [10] (fun t wr => ∃ n : Nat, n ≤ M ∧ t = .int .i64 (n : Int) ∧ Hid (wantsOk (ws.take n) = true) ∧ Below w.heap.size w wr) (fun t _ => M - (intOf t).toNat)
    case atStart => exact ⟨0, Nat.zero_le _, rfl, Lib.hid (by simp [wantsOk]), HB1.out⟩
    case round =>
      clear HB1
      obtain ⟨n, hn, rfl, HWO, hbel⟩ := hrel
      by_cases hlt : n < M
      · have hlt2 : (n : Int) < (M : Int) := by omega
        obtain ⟨g, off, rfl, hg, c0⟩ := Ints.get (HA'.out.keep hbel) (i := n) (by have := HM.out; omega)
        have hgood := fun h => wants_take HWO.out (by have := HM.out; omega) h
        have hbad := fun h => wants_bad (ws := ws) (n := n) (by have := HM.out; omega) h
        generalize ws.getD n 0 = x at *
        have HGD := Lib.hid hgood
        have HBD := Lib.hid hbad
        have HBL := Lib.hid hbel
        clear hgood hbad hbel
        cases f1 : inB x 0 1000000 with
        | false =>
          have he : se = 1 := by rw [HSE.out, if_neg (fun h => by have := HBD.out f1; rw [h.2] at this; cases this)]
          have hn0 : sn = 0 := by
            rcases HSP.out with ⟨_, h⟩ | ⟨h, _⟩ | ⟨h, _⟩
            · exact h
            · rw [he] at h; cases h
            · rw [he] at h; cases h
          have HE := Lib.hid he
          have HN0 := Lib.hid hn0
          clear he hn0
          go_wp2_with (go_at_call 39; refine (in_any _ _ _ _).mono ?_; rintro e w2 ⟨rfl, rfl⟩)
          go_ret2
          exact ⟨by rw [HE.out, HN0.out]; rfl, HBL.out⟩
        | true =>
          have HN := Lib.hid (HGD.out f1)
          go_wp2_with (go_at_call 39; refine (in_any _ _ _ _).mono ?_; rintro e w2 ⟨rfl, rfl⟩)
          go_roundw
          case rel => exact ⟨n + 1, by omega, by go_num, HN, HBL.out⟩
          case measure => simp [intOf]; omega
      · obtain rfl : n = M := by omega
        have hw : wantsOk ws = true := by have := HWO.out; rwa [HM.out, List.take_length] at this
        have hse2 : se = if badW i j ss ws ss.length = true then 6 else 0 := by rw [HSE.out, if_pos ⟨HLM.out, hw⟩]
        have HSE2 := Lib.hid hse2
        have HBL := Lib.hid hbel
        have hab := fun n hn => area_big HS.out hw HLM.out n hn
        have HAB := Lib.hid hab
        clear hw hse2 hbel HWO hlt hn hab
        have hlt0 : ¬ (n : Int) < (n : Int) := by omega
        go_upto_region 10 with (fail)
        clear hlt0
        go_loopw [11, 12] (fun ar t wr => ∃ m : Nat, m ≤ n ∧ t = .int .i64 (m : Int) ∧ ar = .int .i64 (areaW ss ws m) ∧ Hid (badW i j ss ws m = false) ∧ Below w.heap.size w wr) (fun _ t _ => n - (intOf t).toNat)
        case atStart => exact ⟨0, Nat.zero_le _, rfl, rfl, Lib.hid rfl, HBL.out⟩
        case round =>
          clear HBL
          obtain ⟨m, hm, rfl, rfl, HBW, hbel⟩ := hrel
          by_cases hlt : m < n
          · have hlt2 : (m : Int) < (n : Int) := by omega
            have hml : m < ss.length := by have := HL.out; omega
            obtain ⟨g, off, rfl, hg, c0⟩ := Ints.get (HA'.out.keep hbel) (i := m) (by have := HM.out; omega)
            obtain ⟨g2, off2, rfl, hg2, d0, d1, d2, d3⟩ := ShAt.at_ (HA.out.keep hbel) (i := m) hml
            have hnx := badW_succ i j ss ws m
            rw [HBW.out] at hnx
            have hmono := fun h => badW_mono (i := (i : Int)) (j := (j : Int)) (ss := ss) (ws := ws) (n := m + 1) (m := ss.length) h (by omega)
            have HMO := Lib.hid hmono
            have HNX := Lib.hid hnx
            have hax : areaW ss ws (m + 1) = areaW ss ws m + (ss.getD m sh0).w * (ss.getD m sh0).h * ws.getD m 0 := rfl
            have a1 := HAB.out m (by omega)
            have a2 := HAB.out (m + 1) (by omega)
            obtain ⟨q1, q2, q3, q4, _, _⟩ := HS.out _ (getD_mem hml)
            rw [hax] at a2
            have HAX := Lib.hid hax
            generalize ss.getD m sh0 = s at *
            generalize ws.getD m 0 = x at *
            generalize areaW ss ws m = an at *
            have hfi := fun V => refFits_any s (i : Int) (j : Int) V
            obtain ⟨fb, hfb⟩ : ∃ fb, fb = fitB s (i : Int) (j : Int) := ⟨_, rfl⟩
            rw [← hfb] at hfi HNX
            clear hfb hnx hmono hax
            obtain ⟨sw, sh, sv, st⟩ := s
            simp only at d0 d1 d2 d3 q1 q2 q3 q4 a2
            unfold shV at hfi
            have HFI := Lib.hid hfi
            have m2 : sw * sh ≤ 64 * 64 := Int.mul_le_mul q2 q4 (by omega) (by omega)
            have m3 : 0 ≤ sw * sh := Int.mul_nonneg (by omega) (by omega)
            have hn17 : (m : Int) ≤ 16 := by omega
            have e2 : IntKind.i64.wrap (sw * sh) = sw * sh := wrapI (by omega) (by omega)
            have e3 : IntKind.i64.wrap (sw * sh * x) = sw * sh * x := wrapI (by omega) (by push_cast at a2; omega)
            have e4 : IntKind.i64.wrap (an + sw * sh * x) = an + sw * sh * x := wrapI (by omega) (by push_cast at a2; omega)
            have HBN := Lib.hid hbel
            have hgl : ∀ V, Below wr.heap.size wr V → V.cell? ⟨g, off + m, none⟩ = some (.int .i64 x) ∧ V.cell? ⟨g2, off2 + m * 4, none⟩ = some (.int .i64 sw) ∧ V.cell? ⟨g2, off2 + m * 4 + 1, none⟩ = some (.int .i64 sh) := fun V hV =>
              ⟨(hV.cell (p := ⟨g, off + m, none⟩) hg).trans c0, (hV.cell (p := ⟨g2, off2 + m * 4, none⟩) hg2).trans d0, (hV.cell (p := ⟨g2, off2 + m * 4 + 1, none⟩) hg2).trans d1⟩
            have HGL := Lib.hid hgl
            clear hfi hbel a1 a2 hgl
            by_cases hx : 0 < x
            · have dx : decide (0 < x) = true := by simpa using hx
              cases fb with
              | false =>
                have he : se = 6 := by rw [HSE2.out, if_pos (HMO.out (by rw [HNX.out, dx]; rfl))]
                have hn0 : sn = 0 := by
                  rcases HSP.out with ⟨h, _⟩ | ⟨_, h, _⟩ | ⟨h, _⟩
                  · rw [he] at h; cases h
                  · exact h
                  · rw [he] at h; cases h
                have HE := Lib.hid he
                have HN0 := Lib.hid hn0
                clear he hn0
                go_wp2_with (go_at_call 52; refine (HFI.out _).mono ?_; rintro e w2 ⟨rfl, hb3⟩)
                go_ret2
                exact ⟨by rw [HE.out, HN0.out]; rfl, below_on HBN.out HBN.out.size hb3⟩
              | true =>
                have HN2 : Hid (badW i j ss ws (m + 1) = false) := Lib.hid (by rw [HNX.out]; simp)
                go_upto_region 14 with (go_at_call 52; refine (HFI.out _).mono ?_; rintro e w2 ⟨rfl, hb3⟩)
                obtain ⟨k0, k1, k2⟩ := HGL.out _ hb3
                have HB3 := Lib.hid (below_on HBN.out HBN.out.size hb3)
                clear c0 d0 d1 d2 d3 hb3
                go_quiet (fail)
                go_wp2_with (fail)
                go_roundw
                case rel => exact ⟨m + 1, by omega, by go_num, by rw [HAX.out], HN2, below_drewN HB3.out _⟩
                case measure => simp [intOf]; omega
            · have dx : decide (0 < x) = false := by simpa using hx
              have HN2 : Hid (badW i j ss ws (m + 1) = false) := Lib.hid (by rw [HNX.out, dx]; rfl)
              go_upto_region 14 with (fail)
              go_quiet (fail)
              go_wp2_with (fail)
              go_roundw
              case rel => exact ⟨m + 1, by omega, by go_num, by rw [HAX.out], HN2, below_drewN HBN.out _⟩
              case measure => simp [intOf]; omega
          · obtain rfl : m = n := by omega
            have he : se = 0 := by rw [HSE2.out, if_neg (by rw [← HL.out, HBW.out]; decide)]
            have hn0 : sn = (areaW ss ws ss.length + i * j - 1) / (i * j) := by
              rcases HSP.out with ⟨h, _⟩ | ⟨h, _⟩ | ⟨_, h, _⟩
              · rw [he] at h; cases h
              · rw [he] at h; cases h
              · exact h
            have hf := HAB.out ss.length (Nat.le_refl _)
            have hs16 : ((ss.length : Nat) : Int) ≤ 16 := by have := HL.out; omega
            rw [← HL.out] at hn0 hf hs16
            obtain ⟨ar, har⟩ : ∃ ar, ar = areaW ss ws m := ⟨_, rfl⟩
            rw [← har] at hf hn0 ⊢
            have m1 := hM1.out
            have m0 := hM0.out
            have e1 : IntKind.i64.wrap ((i : Int) * j) = (i : Int) * j := wrapI (by omega) (by omega)
            have e2 : IntKind.i64.wrap (ar + (i : Int) * j) = ar + (i : Int) * j := wrapI (by omega) (by omega)
            have e3 : IntKind.i64.wrap (ar + (i : Int) * j - 1) = ar + (i : Int) * j - 1 := wrapI (by omega) (by omega)
            have nz : ¬ (i : Int) * j = 0 := by omega
            have hpos : 0 ≤ ar + (i : Int) * j - 1 := by omega
            have HB2 := Lib.hid hbel
            have HE := Lib.hid he
            have HN0 := Lib.hid hn0
            have hlt2 : ¬ (m : Int) < (m : Int) := by omega
            have f1 := hf.1
            have f2 := hf.2
            have hle : (ar + (i : Int) * j - 1) / ((i : Int) * j) ≤ ar + (i : Int) * j - 1 := Int.ediv_le_self _ hpos
            have hge : 0 ≤ (ar + (i : Int) * j - 1) / ((i : Int) * j) := Int.ediv_nonneg hpos (by omega)
            obtain ⟨qq, hqq⟩ : ∃ qq, qq = (ar + (i : Int) * j - 1) / ((i : Int) * j) := ⟨_, rfl⟩
            rw [← hqq] at hle hge
            have e5 : (ar + (i : Int) * j - 1).tdiv ((i : Int) * j) = qq := (Int.tdiv_eq_ediv_of_nonneg hpos).trans hqq.symm
            have e6 : wrap64 qq = qq := by unfold wrap64; omega
            have HQQ := Lib.hid hqq
            clear hqq
            clear he hn0 har hf hbel
            go_wp2
            go_ret2
            exact ⟨by rw [HE.out, HN0.out, ← HQQ.out]; first | rfl | (simp [e5, e6]; done), HB2.out⟩
  · have hd : ((M : Int) != (L : Int)) = true := by simp; omega
    have he : se = 1 := by rw [HSE.out, if_neg (fun h => hlm (by rw [HM.out, HL.out]; exact h.1))]
    have hn0 : sn = 0 := by
      rcases HSP.out with ⟨_, h⟩ | ⟨h, _⟩ | ⟨h, _⟩
      · exact h
      · rw [he] at h; cases h
      · rw [he] at h; cases h
    have HE := Lib.hid he
    have HN0 := Lib.hid hn0
    clear he hn0
    go_enter Try.func37, Try.ntmps37
    go_wp2
    go_ret2
    exact ⟨by rw [HE.out, HN0.out]; rfl, Below.refl _ _⟩
end Go.Proofs.Ytkfjlgjncaddpaa
