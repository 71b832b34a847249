/- Sheets, and the reference's. -/
import Derived.Test.YtkfjlgjncaddpaaWBn2
namespace Go.Proofs.Ytkfjlgjncaddpaa
open Go.RowKit

theorem sheet_parts {i j k : Nat} {ss : List Sh} {ws : List Int} (hok : okP i j k ss = true) : (sheetE i j ss ws = 1 ∧ sheetN i j ss ws = 0) ∨ (sheetE i j ss ws = 6 ∧ sheetN i j ss ws = 0 ∧ ws.length = ss.length ∧ wantsOk ws = true ∧ badW i j ss ws ss.length = true) ∨ (sheetE i j ss ws = 0 ∧ sheetN i j ss ws = (areaW ss ws ss.length + i * j - 1) / (i * j) ∧ ws.length = ss.length ∧ wantsOk ws = true ∧ badW i j ss ws ss.length = false) := by
  unfold sheetE sheetN
  by_cases h : ws.length = ss.length ∧ wantsOk ws = true
  · cases hb : badW i j ss ws ss.length with
    | true => right; left; rw [if_pos h]; refine ⟨by simp, by simp, h.1, h.2, rfl⟩
    | false => right; right; rw [if_pos h]; refine ⟨by simp, by rw [if_pos ⟨h.1, h.2, rfl⟩], h.1, h.2, rfl⟩
  · left; rw [if_neg h]; exact ⟨rfl, by rw [if_neg (fun k => h ⟨k.1, k.2.1⟩)]⟩
theorem ok_len {W H K : Int} {ss : List Sh} (h : okP W H K ss = true) : ss.length ≤ 16 := by
  obtain ⟨_, _, _, _, _, _, _, _, _, _, _, h1, _⟩ := okP_ok h
  exact h1
theorem ok_shapes {W H K : Int} {ss : List Sh} (h : okP W H K ss = true) : OkS ss := by
  obtain ⟨_, _, _, _, _, _, _, _, _, _, _, _, h1⟩ := okP_ok h
  exact h1
theorem ok_sides {i j k : Nat} {ss : List Sh} (h : okP i j k ss = true) : 1 ≤ i ∧ i ≤ 64 ∧ 1 ≤ j ∧ j ≤ 64 := by
  obtain ⟨_, _, _, e1, e2, _, h1, h2, h3, h4, _, _, _⟩ := okP_ok h
  omega
set_option maxHeartbeats 4000000 in
set_option maxRecDepth 100000 in
theorem sheets_any (i j k : Nat) (A A' : Option Addr) (c L c' M : Nat) (ss : List Sh) (ws : List Int) (w : World) (hA : ShAt w A ss) (hL : L = ss.length) (hA' : Ints w A' ws) (hM : M = ws.length) (hok : okP i j k ss = true) (hMs : M ≤ 1000000) :
    Calls Try.prog 36 #[.int .i64 (i : Int), .int .i64 (j : Int), .int .i64 (k : Int), .slice A L c, .slice A' M c'] w fun e w' => e = .returned (.tuple #[.int .i64 (sheetN i j ss ws), .int .i64 (sheetE i j ss ws)]) ∧ Below w.heap.size w w' := by
  have hwa := wants_any i j k A A' c L c' M ss ws w hA hL hA' hM hok hMs
  have hsp := sheet_parts (ws := ws) hok
  have hoks := ok_shapes hok
  have hlen := ok_len hok
  obtain ⟨hi1, hi, hj1, hj⟩ := ok_sides hok
  have HA := Lib.hid hA
  have HA' := Lib.hid hA'
  have HL := Lib.hid hL
  have HM := Lib.hid hM
  have HS := Lib.hid hoks
  clear hA hA' hL hoks hok
  rcases hsp with ⟨h1, h2⟩ | ⟨h1, h2, h3, h4, h5⟩ | ⟨h1, h2, h3, h4, h5⟩
  · rw [h1] at hwa
    rw [h1, h2]
    have HWA := Lib.hid hwa
    clear hwa h1 h2 hM
    go_enter Try.func36, Try.ntmps36
    go_wp2_with (go_at_call 51; refine (HWA.out).mono ?_; rintro e w1 ⟨rfl, hb1⟩)
    go_ret2
    exact ⟨rfl, hb1⟩
  · rw [h1] at hwa
    rw [h1, h2]
    have HWA := Lib.hid hwa
    clear hwa h1 h2 h3 h4 h5 hM
    go_enter Try.func36, Try.ntmps36
    go_wp2_with (go_at_call 51; refine (HWA.out).mono ?_; rintro e w1 ⟨rfl, hb1⟩)
    go_ret2
    exact ⟨rfl, hb1⟩
  · rw [h1] at hwa
    rw [h1, h2]
    have HWA := Lib.hid hwa
    have hab := fun n hn => area_big HS.out h4 h3 n hn
    have hfin := hab ss.length (Nat.le_refl _)
    have H3 := Lib.hid h3
    have HAB := Lib.hid hab
    have m1 : (i : Int) * j ≤ 64 * 64 := Int.mul_le_mul (by omega) (by omega) (by omega) (by omega)
    have m0 : (1 : Int) ≤ (i : Int) * j := by have := Int.mul_le_mul (show (1 : Int) ≤ i by omega) (show (1 : Int) ≤ j by omega) (by omega) (by omega); omega
    have e1 : IntKind.i64.wrap ((i : Int) * j) = (i : Int) * j := wrapI (by omega) (by omega)
    have hM1 := Lib.hid m1
    clear hwa h1 h2 h3 h4 h5 hM hab
    have HFI : Hid (0 ≤ areaW ss ws ss.length ∧ areaW ss ws ss.length ≤ 70000000000) := Lib.hid (by
      refine ⟨hfin.1, Int.le_trans hfin.2 ?_⟩
      have : ((ss.length : Nat) : Int) ≤ 16 := by omega
      omega)
    clear hfin
    go_enter Try.func36, Try.ntmps36
    go_upto_region 6 with (go_at_call 51; refine (HWA.out).mono ?_; rintro e w1 ⟨rfl, hb1⟩)
    have HB1 := Lib.hid hb1
    clear hb1
    go_loopw [27, 13, 14, 15] (fun t ar _ _ wr => ∃ n : Nat, n ≤ L ∧ t = .int .i64 (n : Int) ∧ ar = .int .i64 (areaW ss ws n) ∧ Below w.heap.size w wr) (fun t _ _ _ _ => L - (intOf t).toNat)
    case atStart => exact ⟨0, Nat.zero_le _, rfl, rfl, HB1.out⟩
    case round =>
      clear HB1
      obtain ⟨n, hn, rfl, rfl, hbel⟩ := hrel
      by_cases hlt : n < L
      · have hlt2 : (n : Int) < (L : Int) := by omega
        have hnl : n < ss.length := by have := HL.out; omega
        obtain ⟨g, off, rfl, hg, c0⟩ := Ints.get (HA'.out.keep hbel) (i := n) (by have := H3.out; omega)
        obtain ⟨g2, off2, rfl, hg2, d0, d1, d2, d3⟩ := ShAt.at_ (HA.out.keep hbel) (i := n) hnl
        have hnx : areaW ss ws (n + 1) = areaW ss ws n + (ss.getD n sh0).w * (ss.getD n sh0).h * ws.getD n 0 := rfl
        have a1 := HAB.out n (by omega)
        have a2 := HAB.out (n + 1) (by omega)
        obtain ⟨q1, q2, q3, q4, _, _⟩ := HS.out _ (getD_mem hnl)
        have hnM : (n : Int) < (M : Int) := by have := HM.out; have := H3.out; omega
        rw [hnx] at a2
        have HNX := Lib.hid hnx
        generalize ss.getD n sh0 = s at *
        generalize ws.getD n 0 = x at *
        generalize areaW ss ws n = an at *
        obtain ⟨sw, sh, sv, st⟩ := s
        simp only at d0 d1 d2 d3 q1 q2 q3 q4 a2
        have m2 : sw * sh ≤ 64 * 64 := Int.mul_le_mul q2 q4 (by omega) (by omega)
        have m3 : 0 ≤ sw * sh := Int.mul_nonneg (by omega) (by omega)
        have hn17 : (n : Int) ≤ 16 := by have := HL.out; omega
        have e2 : IntKind.i64.wrap (sw * sh) = sw * sh := wrapI (by omega) (by omega)
        have e3 : IntKind.i64.wrap (sw * sh * x) = sw * sh * x := wrapI (by omega) (by push_cast at a2; omega)
        have e4 : IntKind.i64.wrap (an + sw * sh * x) = an + sw * sh * x := wrapI (by omega) (by push_cast at a2; omega)
        have hbn := below_new wr (.cells #[.int .i64 sw, .int .i64 sh, .int .i64 sv, .bool st] 65)
        have HBN := Lib.hid (below_on hbel hbel.size hbn)
        have HQ : Hid (Blk 65 (wr.alloc (.cells #[.int .i64 sw, .int .i64 sh, .int .i64 sv, .bool st] 65)) wr.heap.size (shC ⟨sw, sh, sv, st⟩)) := Lib.hid (Blk.new wr 65 (shC ⟨sw, sh, sv, st⟩))
        have c0' := (hbn.cell (p := ⟨g, off + n, none⟩) hg).trans c0
        clear hbn hbel hnx a1 a2
        go_upto_region 8 with (fail)
        obtain ⟨q, hq⟩ : ∃ q, q = wr.heap.size := ⟨_, rfl⟩
        rw [← hq] at HQ ⊢
        clear hq d0 d1 d2 d3 c0 hg hg2
        generalize wr.alloc (.cells #[.int .i64 sw, .int .i64 sh, .int .i64 sv, .bool st] 65) = V at *
        have s0 := HQ.out.cell 0
        have s1 := HQ.out.cell 1
        simp only [shC, List.getElem?_cons_zero, List.getElem?_cons_succ] at s0 s1
        go_quiet (fail)
        go_wp2_with (fail)
        go_roundw
        case rel => exact ⟨n + 1, by omega, by go_num, by rw [HNX.out], below_drewN HBN.out _⟩
        case measure => simp [intOf]; omega
      · obtain rfl : n = L := by omega
        rw [HL.out]
        have hf := HFI.out
        obtain ⟨ar, har⟩ : ∃ ar, ar = areaW ss ws ss.length := ⟨_, rfl⟩
        rw [← har] at hf ⊢
        have HAR := Lib.hid har
        clear har
        have e2 : IntKind.i64.wrap (ar + (i : Int) * j) = ar + (i : Int) * j := wrapI (by omega) (by have := hM1.out; omega)
        have e3 : IntKind.i64.wrap (ar + (i : Int) * j - 1) = ar + (i : Int) * j - 1 := wrapI (by omega) (by have := hM1.out; omega)
        have nz : ¬ (i : Int) * j = 0 := by omega
        have hpos : 0 ≤ ar + (i : Int) * j - 1 := by omega
        have HB2 := Lib.hid hbel
        have HLL := Lib.hid HL.out.symm
        have hlt2 : ¬ ((ss.length : Nat) : Int) < (n : Int) := by have := HL.out; omega
        go_wp2
        go_ret2
        exact ⟨by rw [← HAR.out]; rfl, HB2.out⟩
end Go.Proofs.Ytkfjlgjncaddpaa
