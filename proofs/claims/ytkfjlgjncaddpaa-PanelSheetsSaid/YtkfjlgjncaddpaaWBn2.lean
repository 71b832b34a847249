/- Sheets. -/
import Derived.Test.YtkfjlgjncaddpaaWBn1
import Derived.Deep.CutRange
namespace Go.Proofs.Ytkfjlgjncaddpaa
open Go.RowKit

theorem Ints.get {w : World} {A : Option Addr} {l : List Int} (h : Ints w A l) {i : Nat} (hi : i < l.length) : ∃ g off, A = some ⟨g, off, none⟩ ∧ g < w.heap.size ∧ w.cell? ⟨g, off + i, none⟩ = some (.int .i64 (l.getD i 0)) := by
  obtain ⟨g, off, x, e, hg, hx, hc⟩ := Ints.at_ h hi
  exact ⟨g, off, e, hg, by rw [hc, List.getD_eq_getElem?_getD, hx]; rfl⟩
theorem wants_take {ws : List Int} {n : Nat} (h : wantsOk (ws.take n) = true) (hn : n < ws.length) (hx : inB (ws.getD n 0) 0 1000000 = true) : wantsOk (ws.take (n + 1)) = true := by
  have e : ws[n]? = some (ws.getD n 0) := by rw [List.getD_eq_getElem?_getD, List.getElem?_eq_getElem hn]; rfl
  exact all_take_succ h e hx
theorem wants_bad {ws : List Int} {n : Nat} (hn : n < ws.length) (hx : inB (ws.getD n 0) 0 1000000 = false) : wantsOk ws = false := by
  have e : ws[n]? = some (ws.getD n 0) := by rw [List.getD_eq_getElem?_getD, List.getElem?_eq_getElem hn]; rfl
  exact all_bad e hx

set_option maxHeartbeats 4000000 in
set_option maxRecDepth 100000 in
theorem wants_any (i j k : Nat) (A A' : Option Addr) (c L c' M : Nat) (ss : List Sh) (ws : List Int) (w : World) (hA : ShAt w A ss) (hL : L = ss.length) (hA' : Ints w A' ws) (hM : M = ws.length) (hok : okP i j k ss = true) (hMs : M ≤ 1000000) :
    Calls Try.prog 51 #[.int .i64 (i : Int), .int .i64 (j : Int), .int .i64 (k : Int), .slice A L c, .slice A' M c'] w fun e w' => e = .returned (.int .i64 (sheetE i j ss ws)) ∧ Below w.heap.size w w' := by
  have hlen : ss.length ≤ 16 := by
    obtain ⟨_, _, _, _, _, _, _, _, _, _, _, h1, _⟩ := okP_ok hok
    exact h1
  have hck := check_any i j k A c L ss w hA hL (by omega)
  have e1 : ckE i j k ss = 0 := by unfold ckE; rw [hok]; rfl
  rw [e1] at hck
  have HCK := Lib.hid hck
  have HA := Lib.hid hA
  have HA' := Lib.hid hA'
  have HL := Lib.hid hL
  have HM := Lib.hid hM
  have HSE : Hid (sheetE i j ss ws = if ws.length = ss.length ∧ wantsOk ws = true then (if badW i j ss ws ss.length = true then 6 else 0) else 1) := Lib.hid rfl
  obtain ⟨se, hse⟩ : ∃ se, se = sheetE i j ss ws := ⟨_, rfl⟩
  rw [← hse] at HSE ⊢
  have hMn : M ≤ 1000000 := hMs
  have hLn : L ≤ 16 := by omega
  clear hck hA hA' hL hM e1 hse hlen hok
  by_cases hlm : M = L
  · subst hlm
    have hd : ((M : Int) != (M : Int)) = false := by simp
    go_enter Try.func51, Try.ntmps51
    go_upto_region 4 with (go_at_call 19; refine (HCK.out).mono ?_; rintro e w1 ⟨rfl, hb1⟩)
    have HB1 := Lib.hid hb1
    clear hb1 hd
    go_loopw [30, 12] (fun t _ wr => ∃ n : Nat, n ≤ M ∧ t = .int .i64 (n : Int) ∧ Hid (wantsOk (ws.take n) = true) ∧ Below w.heap.size w wr) (fun t _ _ => M - (intOf t).toNat)
    case atStart => exact ⟨0, Nat.zero_le _, rfl, Lib.hid (by simp [wantsOk]), HB1.out⟩
    case round =>
      clear HB1
      obtain ⟨n, hn, rfl, HWO, hbel⟩ := hrel
      by_cases hlt : n < M
      · have hlt2 : (n : Int) < (M : Int) := by omega
        obtain ⟨g, off, rfl, hg, c0⟩ := Ints.get (HA'.out.keep hbel) (i := n) (by have := HM.out; omega)
        have hgood := fun h => wants_take HWO.out (by have := HM.out; omega) h
        have hbad := fun h => wants_bad (ws := ws) (n := n) (by have := HM.out; omega) h
        generalize ws.getD n 0 = x at *
        have HGD := Lib.hid hgood
        have HBD := Lib.hid hbad
        have HBL := Lib.hid hbel
        clear hgood hbad hbel
        cases f1 : inB x 0 1000000 with
        | false =>
          have he : se = 1 := by rw [HSE.out, if_neg (fun h => by have := HBD.out f1; rw [h.2] at this; cases this)]
          have HE := Lib.hid he
          clear he
          go_wp2_with (go_at_call 42; refine (within_any _ _ _ _).mono ?_; rintro e w2 ⟨rfl, rfl⟩)
          go_ret
          exact ⟨by rw [HE.out]; rfl, HBL.out⟩
        | true =>
          have HN := Lib.hid (HGD.out f1)
          go_wp2_with (go_at_call 42; refine (within_any _ _ _ _).mono ?_; rintro e w2 ⟨rfl, rfl⟩)
          go_roundw
          case rel => exact ⟨n + 1, by omega, by go_num, HN, HBL.out⟩
          case measure => simp [intOf]; omega
      · obtain rfl : n = M := by omega
        have hw : wantsOk ws = true := by have := HWO.out; rwa [HM.out, List.take_length] at this
        have hse2 : se = if badW i j ss ws ss.length = true then 6 else 0 := by rw [HSE.out, if_pos ⟨by rw [← HM.out, ← HL.out], hw⟩]
        have HSE2 := Lib.hid hse2
        have HBL := Lib.hid hbel
        clear hw hse2 hbel HWO hlt hn
        go_upto_region 10 with (fail)
        go_loopw [40, 13, 14] (fun t _ _ wr => ∃ m : Nat, m ≤ n ∧ t = .int .i64 (m : Int) ∧ Hid (badW i j ss ws m = false) ∧ Below w.heap.size w wr) (fun t _ _ _ => n - (intOf t).toNat)
        case atStart => exact ⟨0, Nat.zero_le _, rfl, Lib.hid rfl, HBL.out⟩
        case round =>
          clear HBL
          obtain ⟨m, hm, rfl, HBW, hbel⟩ := hrel
          by_cases hlt : m < n
          · have hlt2 : (m : Int) < (n : Int) := by omega
            obtain ⟨g, off, rfl, hg, c0⟩ := Ints.get (HA'.out.keep hbel) (i := m) (by have := HM.out; omega)
            obtain ⟨g2, off2, rfl, hg2, d0, d1, d2, d3⟩ := ShAt.at_ (HA.out.keep hbel) (i := m) (by have := HL.out; omega)
            have hnx := badW_succ i j ss ws m
            rw [HBW.out] at hnx
            have hml : m < ss.length := by have := HL.out; omega
            have hmono := fun h => badW_mono (i := (i : Int)) (j := (j : Int)) (ss := ss) (ws := ws) (n := m + 1) (m := ss.length) h (by omega)
            have HMO := Lib.hid hmono
            have HNX := Lib.hid hnx
            generalize ss.getD m sh0 = s at *
            generalize ws.getD m 0 = x at *
            have hfi := fun V => fits_any s (i : Int) (j : Int) V
            obtain ⟨fb, hfb⟩ : ∃ fb, fb = fitB s (i : Int) (j : Int) := ⟨_, rfl⟩
            rw [← hfb] at hfi HNX
            clear hfb hnx hmono
            obtain ⟨sw, sh, sv, st⟩ := s
            simp only at d0 d1 d2 d3
            unfold shV at hfi
            have HFI := Lib.hid hfi
            have hbn := below_new wr (.cells #[.int .i64 sw, .int .i64 sh, .int .i64 sv, .bool st] 65)
            have HBN := Lib.hid (below_on hbel hbel.size hbn)
            have HQ : Hid (Blk 65 (wr.alloc (.cells #[.int .i64 sw, .int .i64 sh, .int .i64 sv, .bool st] 65)) wr.heap.size (shC ⟨sw, sh, sv, st⟩)) := Lib.hid (Blk.new wr 65 (shC ⟨sw, sh, sv, st⟩))
            have c0' := (hbn.cell (p := ⟨g, off + m, none⟩) hg).trans c0
            clear hbn hfi hbel
            go_upto_region 12 with (fail)
            obtain ⟨q, hq⟩ : ∃ q, q = wr.heap.size := ⟨_, rfl⟩
            rw [← hq] at HQ ⊢
            clear hq d0 d1 d2 d3 c0 hg hg2
            generalize wr.alloc (.cells #[.int .i64 sw, .int .i64 sh, .int .i64 sv, .bool st] 65) = V at *
            have s0 := HQ.out.cell 0
            have s1 := HQ.out.cell 1
            have s2 := HQ.out.cell 2
            have s3 := HQ.out.cell 3
            simp only [shC, List.getElem?_cons_zero, List.getElem?_cons_succ] at s0 s1 s2 s3
            by_cases hx : 0 < x
            · have dx : decide (0 < x) = true := by simpa using hx
              cases fb with
              | false =>
                have he : se = 6 := by rw [HSE2.out, if_pos (HMO.out (by rw [HNX.out, dx]; rfl))]
                have HE := Lib.hid he
                clear he
                go_wp2_with (go_at_call 50; refine (HFI.out _).mono ?_; rintro e w2 ⟨rfl, hb3⟩)
                go_ret
                exact ⟨by rw [HE.out]; rfl, below_on HBN.out HBN.out.size hb3⟩
              | true =>
                have HN2 : Hid (badW i j ss ws (m + 1) = false) := Lib.hid (by rw [HNX.out]; simp)
                go_wp2_with (go_at_call 50; refine (HFI.out _).mono ?_; rintro e w2 ⟨rfl, hb3⟩)
                have HB3 := Lib.hid (below_on HBN.out HBN.out.size hb3)
                go_roundw
                case rel => exact ⟨m + 1, by omega, by go_num, HN2, HB3.out⟩
                case measure => simp [intOf]; omega
            · have dx : decide (0 < x) = false := by simpa using hx
              have HN2 : Hid (badW i j ss ws (m + 1) = false) := Lib.hid (by rw [HNX.out, dx]; rfl)
              go_wp2_with (fail)
              go_roundw
              case rel => exact ⟨m + 1, by omega, by go_num, HN2, HBN.out⟩
              case measure => simp [intOf]; omega
          · obtain rfl : m = n := by omega
            have he : se = 0 := by rw [HSE2.out, if_neg (by rw [← HL.out, HBW.out]; decide)]
            have HE := Lib.hid he
            have HBL := Lib.hid hbel
            have hlt2 : ¬ (m : Int) < (m : Int) := by omega
            clear he hbel
            go_wp2
            go_ret
            exact ⟨by rw [HE.out]; rfl, HBL.out⟩
  · have hd : ((M : Int) != (L : Int)) = true := by simp; omega
    have he : se = 1 := by rw [HSE.out, if_neg (fun h => hlm (by rw [HM.out, HL.out]; exact h.1))]
    have HE := Lib.hid he
    clear he
    go_enter Try.func51, Try.ntmps51
    go_wp2_with (go_at_call 19; refine (HCK.out).mono ?_; rintro e w1 ⟨rfl, hb1⟩)
    go_ret
    exact ⟨by rw [HE.out]; rfl, hb1⟩
end Go.Proofs.Ytkfjlgjncaddpaa
