/- The reference's Highest. -/
import Derived.Test.YtpaemlkikkcjiaaWRef
import Derived.Test.YtpaemlkikkcjiaaRefH
namespace Go.Proofs.Ytpaemlkikkcjiaa
open Go.RowKit

def RHiPost (k : Nat) (ts : List T3) (top : Int) (w : World) (e : Ending) (w' : World) : Prop :=
  Below w.heap.size w w' ∧ ((∃ x g cap, Great k ts top x ∧ e = .returned (.tuple #[.slice (some ⟨g, 0, none⟩) k cap, .int .i64 0]) ∧ Vals w' (some ⟨g, 0, none⟩) (fl x k)) ∨
       ((∀ x, ¬ SolT k ts top x) ∧ e = .returned (.tuple #[.slice none 0 0, .int .i64 6])))
set_option maxHeartbeats 4000000 in
set_option maxRecDepth 100000 in
theorem refHig_any (k L c : Nat) (A : Option Addr) (ts : List T3) (top : Int) (w : World) (hA : TiesAt w A ts) (hL : L = ts.length) (ho : OkL k 1000000 ts) (h1 : 1 ≤ k) (h2 : k ≤ 64) (hLs : L ≤ 512) (t0 : 0 ≤ top) (t1 : top ≤ 1000000) :
    Calls Try.prog 30 #[.int .i64 (k : Int), .slice A L c, .int .i64 top] w (RHiPost k ts top w) := by
  have hmk : ∀ W, (Instr.makeSlice 24 (.int .i64 (k : Int)) (.int .i64 (k : Int))).run Try.prog W = .ok (.slice (some ⟨W.heap.size, 0, none⟩) k k) (W.alloc (.cells (Array.replicate k (.int .i64 0)) 3)) := fun W => makeI k (by omega) W
  have hbl : ∀ t, t ∈ ts → t.l ≤ 1000000 := fun t ht => (ho t ht).2.2.2.2.2
  have hM : (0 : Int) ≤ 1000000 := by omega
  have HMK := hmk
  have HA := Lib.hid hA
  have HL := Lib.hid hL
  have HO := Lib.hid ho
  have hbd : ∀ r i j, r ≤ k + 1 → i ≤ L → hiX ts top r i j ≤ 1000000 ∧ -1000000000000 ≤ hiX ts top r i j := by
    intro r i j hrk hi
    have q := hiX_bd (r := r) (i := i) (j := j) hM t0 t1 hbl
    have q0 : (0 : Int) ≤ (ts.length : Int) * (1000000 + 1000000) := by omega
    have q3 : (r : Int) * ((ts.length : Int) * (1000000 + 1000000)) ≤ 65 * ((ts.length : Int) * (1000000 + 1000000)) := Int.mul_le_mul_of_nonneg_right (by omega) q0
    omega
  have HBD := Lib.hid hbd
  clear hA hL ho hbd hbl hmk
  go_enter Try.func30, Try.ntmps30
  go_wp2_with (fail)
  have hb1 := below_new w (.cells (Array.replicate k (.int .i64 0)) 3)
  obtain ⟨gx, hgx⟩ : ∃ gx, gx = w.heap.size := ⟨_, rfl⟩
  have hm0 : RefM gx gx k w (w.alloc (.cells (Array.replicate k (.int .i64 0)) 3)) (fun j => if j < 0 then top else 0) := by
    rw [hgx]
    exact ⟨by have := blk_fl0 k w; simpa using this, hb1⟩
  have HM0 := Lib.hid hm0
  clear hb1 hm0
  have HGX := Lib.hid hgx
  rw [← hgx]
  clear hgx
  generalize w.alloc (.cells (Array.replicate k (.int .i64 0)) 3) = W0 at *
  go_loopw [9] (fun t wr => ∃ i : Nat, i ≤ k ∧ t = .int .i64 (i : Int) ∧ RefM gx gx k w wr (fun j => if j < i then top else 0)) (fun t _ => k - (intOf t).toNat)
  case atStart => exact ⟨0, Nat.zero_le _, rfl, HM0.out⟩
  case round =>
    obtain ⟨i, hi, rfl, hm⟩ := hrel
    clear HM0
    by_cases hlt : i < k
    · have hlt2 : (i : Int) < (k : Int) := by omega
      have ca := hm.blk.int hlt
      have fz := hm.blk.frozen
      have hnx : fl (upd (fun j => if j < i then top else 0) i top) k = fl (fun j => if j < i + 1 then top else 0) k := fl_congr fun j _ => by
        by_cases hj : j = i
        · rw [hj, upd_at, if_pos (by omega)]
        · rw [upd_ne hj]
          by_cases h2 : j < i
          · rw [if_pos h2, if_pos (by omega)]
          · rw [if_neg h2, if_neg (by omega)]
      have hn2 := hm.blk.setI i top
      rw [hnx] at hn2
      have HN2 := Lib.hid hn2
      have HB := Lib.hid hm.bel
      clear hm hnx hn2
      go_wp2_with (fail)
      go_roundw
      case rel => exact ⟨i + 1, by omega, by go_num, ⟨HN2.out, below_set HB.out (Nat.le_refl _) _⟩⟩
      case measure => simp [intOf]; omega
    · have hik : k = i := by omega
      subst hik
      have he : fl (fun j => if j < k then top else 0) k = fl (hiX ts top 0 0) k := by
        rw [hiX_zero]; exact fl_congr fun j hj => by rw [if_pos hj]
      have hm1 : RefM gx gx k w wr (hiX ts top 0 0) := ⟨by rw [← he]; exact hm.blk, hm.bel⟩
      have HM1 := Lib.hid hm1
      clear hm hm1 he
      go_wp2_with (fail)
      go_loopw [10, 11, 12] (fun t _ _ wr => ∃ r : Nat, r ≤ k + 1 ∧ t = .int .i64 (r : Int) ∧ RefM gx gx k w wr (hiX ts top r 0)) (fun t _ _ _ => k + 1 - (intOf t).toNat)
      case atStart => exact ⟨0, Nat.zero_le _, rfl, HM1.out⟩
      case round =>
        obtain ⟨r, hrk, rfl, hm⟩ := hrel
        clear HM1
        by_cases hlt : r < k + 1
        · have hd : (r : Int) ≤ (k : Int) := by omega
          have HM := Lib.hid hm
          clear hm
          go_wp2_with (fail)
          go_loopw [11, 12] (fun t _ wr => ∃ i : Nat, i ≤ L ∧ t = .int .i64 (i : Int) ∧ RefM gx gx k w wr (hiX ts top r i)) (fun t _ _ => L - (intOf t).toNat)
          case atStart => exact ⟨0, Nat.zero_le _, rfl, HM.out⟩
          case round =>
            obtain ⟨i, hi, rfl, hm⟩ := hrel
            clear HM
            by_cases hlt2 : i < L
            · obtain ⟨t, ht⟩ : ∃ t, ts[i]? = some t := ⟨ts[i]'(by have := HL.out; omega), List.getElem?_eq_getElem _⟩
              obtain ⟨a1, a2, a3, a4, a5, a6⟩ := HO.out t (List.mem_of_getElem? ht)
              have hsucc := hiX_step (top := top) (r := r) ht a1 a3
              have hx := fun j => HBD.out r i j (by omega) (by omega)
              generalize hs : hiX ts top r i = x at *
              have hTA := (HA.out).keep (HGX.out ▸ hm.bel)
              obtain ⟨ga, off, rfl, hga, c0, c1, c2⟩ := hTA.at_ ht
              have hlt3 : (i : Int) < (L : Int) := by omega
              have hlx : gx < wr.heap.size := hm.blk.lt
              obtain ⟨hblk, hbel⟩ := hm
              have HS := Lib.hid hsucc
              obtain ⟨ta, tb, tl⟩ := t
              simp only at a1 a2 a3 a4 a5 a6 c0 c1 c2 HS
              clear hsucc hs ht hTA
              go_wp2_with (fail)
              have hq : Blk 39 (wr.alloc (.cells #[.int .i64 ta, .int .i64 tb, .int .i64 tl] 39)) wr.heap.size [.int .i64 ta, .int .i64 tb, .int .i64 tl] := Blk.new wr 39 _
              have hbn := below_new wr (.cells #[.int .i64 ta, .int .i64 tb, .int .i64 tl] 39)
              have hblk2 := hblk.keep hbn
              have hbel2 : Below gx w (wr.alloc (.cells #[.int .i64 ta, .int .i64 tb, .int .i64 tl] 39)) := below_on hbel (by omega) hbn
              have hqx : wr.heap.size ≠ gx := by omega
              clear hblk hbel hbn c0 c1 c2 hga hlx
              generalize wr.alloc (.cells #[.int .i64 ta, .int .i64 tb, .int .i64 tl] 39) = W at *
              generalize wr.heap.size = q at *
              have c0 : W.cell? ⟨q, 0, none⟩ = some (.int .i64 ta) := hq.cell 0
              have c1 : W.cell? ⟨q, 1, none⟩ = some (.int .i64 tb) := hq.cell 1
              have c2 : W.cell? ⟨q, 2, none⟩ = some (.int .i64 tl) := hq.cell 2
              have HQ := Lib.hid hq
              have HB2 := Lib.hid hblk2
              have HE2 := Lib.hid hbel2
              have ca := fun (z : Nat) => at_any (some ⟨gx, 0, none⟩) k k x tb (W.drewN z) (Vals.drewN (blk_valsI hblk2) z) a3 a4
              have hxa : -1000000000000 ≤ atX x tb ∧ atX x tb ≤ 1000000 := by
                unfold atX
                split
                · omega
                · have := hx tb.toNat; omega
              have HCA := Lib.hid ca
              have HX := Lib.hid hx
              clear hq hblk2 hbel2 ca hx
              by_cases hg : 0 ≤ ta
              · obtain ⟨pa, rfl⟩ : ∃ pa : Nat, ta = (pa : Int) := ⟨ta.toNat, by omega⟩
                have hpk : pa < k := by omega
                have hpk2 : (pa : Int) < (k : Int) := by omega
                have cb := HB2.out.int hpk
                have hxb := HX.out pa
                have hw : IntKind.i64.wrap (atX x tb - tl) = atX x tb - tl := wrapI (by omega) (by omega)
                have hd3 : decide ((0 : Int) ≤ (pa : Int)) = true := by simp
                by_cases hc : atX x tb - tl < x pa
                · have hd2 : decide (atX x tb - tl < x pa) = true := by simpa using hc
                  have hst : hiX ts top r (i + 1) = upd x pa (atX x tb - tl) := by
                    rw [HS.out, if_pos ⟨by omega, by simpa using hc⟩]; simp
                  have HST := Lib.hid hst
                  clear hst hc HS
                  generalize hxav : atX x tb = xa at *
                  have HXA := Lib.hid hxav
                  clear hxav
                  go_quiet (first
                    | (go_at_call 35; (with_reducible refine (HCA.out _).mono ?_); exact fun _ _ ⟨he, hm⟩ => ⟨he, _, hm.symm⟩))
                  go_wp2_with (fail)
                  clear c0 c1 c2 cb
                  have hb3 := HB2.out.drewN nq
                  have he3 := below_drewN HE2.out nq
                  have hq3 := HQ.out.drewN nq
                  clear HB2 HE2 HQ HCA
                  generalize W.drewN nq = V at *
                  have c0 : V.cell? ⟨q, 0, none⟩ = some (.int .i64 (pa : Int)) := hq3.cell 0
                  have c1 : V.cell? ⟨q, 1, none⟩ = some (.int .i64 tb) := hq3.cell 1
                  have c2 : V.cell? ⟨q, 2, none⟩ = some (.int .i64 tl) := hq3.cell 2
                  have HB3 := Lib.hid hb3
                  have HE3 := Lib.hid he3
                  have hca3 := at_any (some ⟨gx, 0, none⟩) k k x tb V.drew (Vals.drew (blk_valsI hb3)) a3 a4
                  rw [HXA.out] at hca3
                  have HCA3 := Lib.hid hca3
                  clear hb3 he3 hq3 hca3
                  go_still_tail 11, (by kernel_rfl)
                  still_call (HCA3.out.mono fun _ _ ⟨he, hm⟩ => ⟨he, hm.symm⟩)
                  repeat still_step
                  refine wpStill_nil ?_
                  change wpList _ _ _ _ _ V.drew
                  have hb4 := HB3.out.drew
                  have he4 := HE3.out.drew
                  clear HB3 HE3 c0 c1 c2 HCA3
                  generalize V.drew = V2 at *
                  have cb := hb4.int hpk
                  have f1 := hb4.frozen
                  have HB4 := Lib.hid hb4
                  have HE4 := Lib.hid he4
                  clear hb4 he4
                  go_wp2_with (fail)
                  go_roundw
                  case rel => exact ⟨i + 1, by omega, by go_num, by rw [HST.out]; exact ⟨HB4.out.setI pa (xa - tl), below_set HE4.out (Nat.le_refl _) _⟩⟩
                  case measure => simp [intOf]; omega
                · have hd2 : decide (atX x tb - tl < x pa) = false := by simpa using hc
                  have hst : hiX ts top r (i + 1) = x := by
                    rw [HS.out, if_neg (fun h => hc (by simpa using h.2))]
                  have HST := Lib.hid hst
                  clear hst hc HS
                  generalize atX x tb = xa at *
                  go_quiet (first
                    | (go_at_call 35; (with_reducible refine (HCA.out _).mono ?_); exact fun _ _ ⟨he, hm⟩ => ⟨he, _, hm.symm⟩))
                  go_wp2_with (fail)
                  go_roundw
                  case rel => exact ⟨i + 1, by omega, by go_num, by rw [HST.out]; exact ⟨HB2.out.drewN _, below_drewN HE2.out _⟩⟩
                  case measure => simp [intOf]; omega
              · have hd3 : decide ((0 : Int) ≤ ta) = false := by simpa using hg
                have hst : hiX ts top r (i + 1) = x := by rw [HS.out, if_neg (fun h => hg h.1)]
                have HST := Lib.hid hst
                clear hst hg HS
                go_quiet (fail)
                go_wp2_with (fail)
                go_roundw
                case rel => exact ⟨i + 1, by omega, by go_num, by rw [HST.out]; exact ⟨HB2.out.drewN _, below_drewN HE2.out _⟩⟩
                case measure => simp [intOf]; omega
            · obtain rfl : i = L := by omega
              have e : hiX ts top r i = hiX ts top (r + 1) 0 := by rw [HL.out]; exact hiX_round ts top r
              rw [e] at hm
              have HM := Lib.hid hm
              clear e hm
              go_wp2_with (fail)
              go_roundw
              case rel => exact ⟨r + 1, by omega, by go_num, HM.out⟩
              case measure => simp [intOf]; omega
        · obtain rfl : r = k + 1 := by omega
          have HM := Lib.hid hm
          clear hm
          have hsz := HM.out.bel.size
          have hTA := (HA.out).keep (HGX.out ▸ HM.out.bel)
          have hh := holds_any A (some ⟨gx, 0, none⟩) c k L k ts (hiX ts top (k + 1) 0) wr hTA HL.out (blk_valsI HM.out.blk) (fun i _ => by have := (HBD.out (k + 1) 0 i (by omega) (by omega)).1; omega) (by omega) (by omega) (okL_idx2 HO.out)
          have htop : ∀ i, hiX ts top (k + 1) 0 i ≤ top := fun i => (hiX_bd (M := 1000000) (by omega) t0 t1 (fun t ht => (HO.out t ht).2.2.2.2.2) (k + 1) 0 i).1
          clear hTA
          cases hb : holdB k ts (hiX ts top (k + 1) 0) with
          | true =>
            have hle := hiX_great HO.out (by omega) t0 t1 (y := hiX ts top (k + 1) 0) ⟨(holdB_iff _ _ _).1 hb, fun i _ => htop i⟩
            rw [hb] at hh
            have HH := Lib.hid hh
            have HLE := Lib.hid hle
            clear hh hle hb htop
            go_wp2_with (go_at_call 50; refine (HH.out).mono ?_; rintro e w7 ⟨rfl, hb7⟩)
            go_ret2
            have hbb := HGX.out ▸ below_on HM.out.bel (by rw [HGX.out]; exact hsz) hb7
            exact ⟨hbb, .inl ⟨_, gx, k, HLE.out, rfl, (blk_valsI (HM.out.blk.keep hb7))⟩⟩
          | false =>
            rw [hb] at hh
            have hno : ∀ y, ¬ SolT k ts top y := fun y hy => by
              have := (holdB_iff _ _ _).2 (hiX_great HO.out (by omega) t0 t1 hy).sol.1
              rw [this] at hb; cases hb
            have HH := Lib.hid hh
            have HNO := Lib.hid hno
            clear hh hno hb htop
            go_wp2_with (go_at_call 50; refine (HH.out).mono ?_; rintro e w7 ⟨rfl, hb7⟩)
            go_ret2
            have hbb := HGX.out ▸ below_on HM.out.bel (by rw [HGX.out]; exact hsz) hb7
            exact ⟨hbb, .inr ⟨HNO.out, rfl⟩⟩
end Go.Proofs.Ytpaemlkikkcjiaa
