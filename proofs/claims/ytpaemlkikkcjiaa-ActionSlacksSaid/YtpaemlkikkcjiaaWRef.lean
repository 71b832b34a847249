/- The reference's Regulate. -/
import Derived.Test.YtpaemlkikkcjiaaWReg
import Derived.Test.YtpaemlkikkcjiaaWHld
import Derived.Test.YtpaemlkikkcjiaaRefP
import Derived.StillTailTactics
import Derived.BigRegion
namespace Go.Proofs.Ytpaemlkikkcjiaa
open Go.RowKit

structure RefM (B gx k : Nat) (w wr : World) (x : Nat → Int) : Prop where
  blk : Blk 3 wr gx (fl x k)
  bel : Below B w wr
theorem blk_valsI {w : World} {g n : Nat} {f : Nat → Int} (h : Blk 3 w g (fl f n)) : Vals w (some ⟨g, 0, none⟩) (fl f n) := Blk.vals0 h
theorem okL_idx2 {k : Nat} {M : Int} {ts : List T3} (h : OkL k M ts) : ∀ t, t ∈ ts → -1 ≤ t.a ∧ t.a ≤ (k : Int) - 1 ∧ -1 ≤ t.b ∧ t.b ≤ (k : Int) - 1 := fun t ht => by
  obtain ⟨a1, a2, a3, a4, _, _⟩ := h t ht
  exact ⟨a1, a2, a3, a4⟩
set_option maxHeartbeats 4000000 in
set_option maxRecDepth 100000 in
theorem refReg_any (k L c : Nat) (A : Option Addr) (ts : List T3) (w : World) (hA : TiesAt w A ts) (hL : L = ts.length) (ho : OkL k 1000000 ts) (h1 : 1 ≤ k) (h2 : k ≤ 64) (hLs : L ≤ 512) (hr : regB (k : Int) ts = true) :
    Calls Try.prog 27 #[.int .i64 (k : Int), .slice A L c] w (RegPost (k : Int) ts w) := by
  have hmk : ∀ W, (Instr.makeSlice 24 (.int .i64 (k : Int)) (.int .i64 (k : Int))).run Try.prog W = .ok (.slice (some ⟨W.heap.size, 0, none⟩) k k) (W.alloc (.cells (Array.replicate k (.int .i64 0)) 3)) := fun W => makeI k (by omega) W
  have hbl : ∀ t, t ∈ ts → t.l ≤ 1000000 := fun t ht => (ho t ht).2.2.2.2.2
  have hM : (0 : Int) ≤ 1000000 := by omega
  have HMK := hmk
  have HA := Lib.hid hA
  have HL := Lib.hid hL
  have HO := Lib.hid ho
  have HR := Lib.hid hr
  have hbd : ∀ r i j, r ≤ k → i ≤ L → 0 ≤ refRun ts i (refRnds ts r) j ∧ refRun ts i (refRnds ts r) j ≤ 1000000000000 := by
    intro r i j hrk hi
    have q1 := refRnds_bd hM hbl r
    have q0 : 0 ≤ (ts.length : Int) * 1000000 := by omega
    have q2 := refRun_bd (ts := ts) q1.1 q1.2 (Int.mul_nonneg (by omega) q0) hM hbl i
    refine ⟨q2.1 j, Int.le_trans (q2.2 j) ?_⟩
    have q3 : (r : Int) * ((ts.length : Int) * 1000000) ≤ 64 * ((ts.length : Int) * 1000000) := Int.mul_le_mul_of_nonneg_right (by omega) q0
    omega
  have HBD := Lib.hid hbd
  have hend : ∀ j, 0 ≤ refRnds ts (k + 1) j ∧ refRnds ts (k + 1) j ≤ 1000000000000 := fun j => by
    have := hbd k L j (Nat.le_refl _) (Nat.le_refl _)
    rw [hL] at this
    exact this
  have HEND := Lib.hid hend
  clear hA hL ho hr hbd hend hbl hmk
  go_enter Try.func27, Try.ntmps27
  go_wp2_with (fail)
  have hb1 := below_new w (.cells (Array.replicate k (.int .i64 0)) 3)
  have hm0 : RefM w.heap.size w.heap.size k w (w.alloc (.cells (Array.replicate k (.int .i64 0)) 3)) (refRnds ts 0) := ⟨blk_fl0 k w, hb1⟩
  have HM0 := Lib.hid hm0
  clear hb1 hm0
  generalize w.alloc (.cells (Array.replicate k (.int .i64 0)) 3) = W0 at *
  obtain ⟨gx, hgx⟩ : ∃ gx, gx = w.heap.size := ⟨_, rfl⟩
  have HGX := Lib.hid hgx
  rw [← hgx]
  rw [← hgx] at HM0
  clear hgx
  go_loopw [7, 8, 9] (fun t _ _ wr => ∃ r : Nat, r ≤ k + 1 ∧ t = .int .i64 (r : Int) ∧ RefM gx gx k w wr (refRnds ts r)) (fun t _ _ _ => k + 1 - (intOf t).toNat)
  case atStart => exact ⟨0, Nat.zero_le _, rfl, HM0.out⟩
  case round =>
    obtain ⟨r, hrk, rfl, hm⟩ := hrel
    clear HM0
    by_cases hlt : r < k + 1
    · have hd : (r : Int) ≤ (k : Int) := by omega
      have HM := Lib.hid hm
      clear hm
      go_wp2_with (fail)
      go_loopw [8, 9] (fun t _ wr => ∃ i : Nat, i ≤ L ∧ t = .int .i64 (i : Int) ∧ RefM gx gx k w wr (refRun ts i (refRnds ts r))) (fun t _ _ => L - (intOf t).toNat)
      case atStart => exact ⟨0, Nat.zero_le _, rfl, HM.out⟩
      case round =>
        obtain ⟨i, hi, rfl, hm⟩ := hrel
        clear HM
        by_cases hlt2 : i < L
        · obtain ⟨t, ht⟩ : ∃ t, ts[i]? = some t := ⟨ts[i]'(by have := HL.out; omega), List.getElem?_eq_getElem _⟩
          obtain ⟨a1, a2, a3, a4, a5, a6⟩ := HO.out t (List.mem_of_getElem? ht)
          have hsucc := refRun_succ ht (refRnds ts r)
          have hx := fun j => HBD.out r i j (by omega) (by omega)
          generalize hs : refRun ts i (refRnds ts r) = x at *
          have hTA := (HA.out).keep (HGX.out ▸ hm.bel)
          obtain ⟨ga, off, rfl, hga, c0, c1, c2⟩ := hTA.at_ ht
          have hlt3 : (i : Int) < (L : Int) := by omega
          have hlx : gx < wr.heap.size := hm.blk.lt
          obtain ⟨hblk, hbel⟩ := hm
          have HS := Lib.hid hsucc
          obtain ⟨ta, tb, tl⟩ := t
          simp only at a1 a2 a3 a4 a5 a6 c0 c1 c2
          clear hsucc hs ht hTA
          -- into the new block
          go_wp2_with (fail)
          have hq : Blk 39 (wr.alloc (.cells #[.int .i64 ta, .int .i64 tb, .int .i64 tl] 39)) wr.heap.size [.int .i64 ta, .int .i64 tb, .int .i64 tl] := Blk.new wr 39 _
          have hbn := below_new wr (.cells #[.int .i64 ta, .int .i64 tb, .int .i64 tl] 39)
          have hblk2 := hblk.keep hbn
          have hbel2 : Below gx w (wr.alloc (.cells #[.int .i64 ta, .int .i64 tb, .int .i64 tl] 39)) := below_on hbel (by omega) hbn
          have hqx : wr.heap.size ≠ gx := by omega
          clear hblk hbel hbn c0 c1 c2 hga hlx
          generalize wr.alloc (.cells #[.int .i64 ta, .int .i64 tb, .int .i64 tl] 39) = W at *
          generalize wr.heap.size = q at *
          have c0 : W.cell? ⟨q, 0, none⟩ = some (.int .i64 ta) := hq.cell 0
          have c1 : W.cell? ⟨q, 1, none⟩ = some (.int .i64 tb) := hq.cell 1
          have c2 : W.cell? ⟨q, 2, none⟩ = some (.int .i64 tl) := hq.cell 2
          have HQ := Lib.hid hq
          have HB2 := Lib.hid hblk2
          have HE2 := Lib.hid hbel2
          have ca := fun (z : Nat) => at_any (some ⟨gx, 0, none⟩) k k x ta (W.drewN z) (Vals.drewN (blk_valsI hblk2) z) a1 a2
          have hxa := atX_bd (fun j => (hx j).1) (fun j => (hx j).2) (by omega) ta
          have HCA := Lib.hid ca
          have HX := Lib.hid hx
          clear hq hblk2 hbel2 ca hx
          by_cases hg : 0 ≤ tb
          · obtain ⟨pb, rfl⟩ : ∃ pb : Nat, tb = (pb : Int) := ⟨tb.toNat, by omega⟩
            have hpk : pb < k := by omega
            have hpk2 : (pb : Int) < (k : Int) := by omega
            have cb := HB2.out.int hpk
            have hxb := HX.out pb
            have hw : IntKind.i64.wrap (atX x ta + tl) = atX x ta + tl := wrapI (by omega) (by omega)
            by_cases hc : x pb < atX x ta + tl
            · have hd2 : decide (x pb < atX x ta + tl) = true := by simpa using hc
              have hd3 : decide ((0 : Int) ≤ (pb : Int)) = true := by simp
              have hst : refStep ⟨ta, (pb : Int), tl⟩ x = upd x pb (atX x ta + tl) := by
                unfold refStep
                rw [if_pos ⟨by simp only; omega, by simp only; have e : atX x (pb : Int) = x pb := by (unfold atX; rw [if_neg (by omega)]; simp)
                                                    rw [e]; exact hc⟩]
                simp
              have HST := Lib.hid hst
              clear hst hc
              generalize hxav : atX x ta = xa at *
              have HXA := Lib.hid hxav
              clear hxav
              go_quiet (first
                | (go_at_call 35; (with_reducible refine (HCA.out _).mono ?_); exact fun _ _ ⟨he, hm⟩ => ⟨he, _, hm.symm⟩))
              go_wp2_with (fail)
              clear c0 c1 c2 cb
              have hb3 := HB2.out.drewN nq
              have he3 := below_drewN HE2.out nq
              have hq3 := HQ.out.drewN nq
              clear HB2 HE2 HQ HCA
              generalize W.drewN nq = V at *
              have c0 : V.cell? ⟨q, 0, none⟩ = some (.int .i64 ta) := hq3.cell 0
              have c1 : V.cell? ⟨q, 1, none⟩ = some (.int .i64 (pb : Int)) := hq3.cell 1
              have c2 : V.cell? ⟨q, 2, none⟩ = some (.int .i64 tl) := hq3.cell 2
              have HB3 := Lib.hid hb3
              have HE3 := Lib.hid he3
              have hca3 := at_any (some ⟨gx, 0, none⟩) k k x ta V.drew (Vals.drew (blk_valsI hb3)) a1 a2
              rw [HXA.out] at hca3
              have HCA3 := Lib.hid hca3
              clear hb3 he3 hq3 hca3
              go_still_tail 11, (by kernel_rfl)
              still_call (HCA3.out.mono fun _ _ ⟨he, hm⟩ => ⟨he, hm.symm⟩)
              repeat still_step
              refine wpStill_nil ?_
              change wpList _ _ _ _ _ V.drew
              have hb4 := HB3.out.drew
              have he4 := HE3.out.drew
              clear HB3 HE3 c0 c1 c2 HCA3
              generalize V.drew = V2 at *
              have cb := hb4.int hpk
              have f1 := hb4.frozen
              have HB4 := Lib.hid hb4
              have HE4 := Lib.hid he4
              clear hb4 he4
              go_wp2_with (fail)
              go_roundw
              case rel => exact ⟨i + 1, by omega, by go_num, by rw [HS.out, HST.out]; exact ⟨HB4.out.setI pb (xa + tl), below_set HE4.out (Nat.le_refl _) _⟩⟩
              case measure => simp [intOf]; omega
            · have hd2 : decide (x pb < atX x ta + tl) = false := by simpa using hc
              have hd3 : decide ((0 : Int) ≤ (pb : Int)) = true := by simp
              have hst : refStep ⟨ta, (pb : Int), tl⟩ x = x := by
                unfold refStep
                rw [if_neg (fun h => hc (by have e : atX x (pb : Int) = x pb := by (unfold atX; rw [if_neg (by omega)]; simp)
                                            have := h.2; simp only at this; rw [e] at this; exact this))]
              have HST := Lib.hid hst
              clear hst hc
              generalize atX x ta = xa at *
              go_quiet (first
                | (go_at_call 35; (with_reducible refine (HCA.out _).mono ?_); exact fun _ _ ⟨he, hm⟩ => ⟨he, _, hm.symm⟩))
              go_wp2_with (fail)
              go_roundw
              case rel => exact ⟨i + 1, by omega, by go_num, by rw [HS.out, HST.out]; exact ⟨HB2.out.drewN _, below_drewN HE2.out _⟩⟩
              case measure => simp [intOf]; omega
          · have hd3 : decide ((0 : Int) ≤ tb) = false := by simpa using hg
            have hst : refStep ⟨ta, tb, tl⟩ x = x := by unfold refStep; rw [if_neg (fun h => hg h.1)]
            have HST := Lib.hid hst
            clear hst hg
            go_quiet (fail)
            go_wp2_with (fail)
            go_roundw
            case rel => exact ⟨i + 1, by omega, by go_num, by rw [HS.out, HST.out]; exact ⟨HB2.out.drewN _, below_drewN HE2.out _⟩⟩
            case measure => simp [intOf]; omega
        · obtain rfl : i = L := by omega
          have e : refRun ts i (refRnds ts r) = refRnds ts (r + 1) := by rw [HL.out]; rfl
          rw [e] at hm
          have HM := Lib.hid hm
          clear e hm
          go_wp2_with (fail)
          go_roundw
          case rel => exact ⟨r + 1, by omega, by go_num, HM.out⟩
          case measure => simp [intOf]; omega
    · obtain rfl : r = k + 1 := by omega
      have HM := Lib.hid hm
      clear hm
      have hsz := HM.out.bel.size
      have hTA := (HA.out).keep (HGX.out ▸ HM.out.bel)
      have hh := holds_any A (some ⟨gx, 0, none⟩) c k L k ts (refRnds ts (k + 1)) wr hTA HL.out (blk_valsI HM.out.blk) (fun i _ => by have := (HEND.out i).2; omega) (by omega) (by omega) (okL_idx2 HO.out)
      clear hTA
      cases hb : holdB k ts (refRnds ts (k + 1)) with
      | true =>
        have hle := refRnds_least HO.out ((holdB_iff _ _ _).1 hb)
        rw [hb] at hh
        have HH := Lib.hid hh
        have HLE := Lib.hid hle
        clear hh hle hb
        go_wp2_with (go_at_call 50; refine (HH.out).mono ?_; rintro e w7 ⟨rfl, hb7⟩)
        go_ret2
        have hbb := HGX.out ▸ below_on HM.out.bel (by rw [HGX.out]; exact hsz) hb7
        refine ⟨hbb, .inr ⟨k, rfl, HR.out, ⟨h1, h2⟩, HO.out, .inl ⟨_, _, HLE.out, fun i => by have := (HEND.out i).2; omega, rfl, ?_⟩⟩⟩
        refine ⟨gx, k, rfl, by rw [HGX.out]; exact Nat.le_refl _, Nat.le_refl _, by unfold maxLen; omega, by rw [fl_len]; omega, [], by rw [fl_len]; simp, ?_⟩
        rw [List.append_nil]
        exact HM.out.blk.keep hb7
      | false =>
        rw [hb] at hh
        have hno : ∀ y, ¬ Sol k ts y := fun y hy => by
          have := (holdB_iff _ _ _).2 (refRnds_least HO.out hy).sol
          rw [this] at hb; cases hb
        have HH := Lib.hid hh
        have HNO := Lib.hid hno
        clear hh hno hb
        go_wp2_with (go_at_call 50; refine (HH.out).mono ?_; rintro e w7 ⟨rfl, hb7⟩)
        go_ret2
        have hbb := HGX.out ▸ below_on HM.out.bel (by rw [HGX.out]; exact hsz) hb7
        exact ⟨hbb, .inr ⟨k, rfl, HR.out, ⟨h1, h2⟩, HO.out, .inr ⟨HNO.out, rfl⟩⟩⟩
end Go.Proofs.Ytpaemlkikkcjiaa
