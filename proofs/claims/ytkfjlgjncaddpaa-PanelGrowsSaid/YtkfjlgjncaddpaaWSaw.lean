/- The saw is made: it knows the best choice for every rectangle. -/
import Derived.Test.YtkfjlgjncaddpaaWCho
import Derived.Test.YtkfjlgjncaddpaaWChk
namespace Go.Proofs.Ytkfjlgjncaddpaa
open Go.RowKit

theorem filT_upd (kerf : Nat) (ss : List Sh) (h i j : Nat) (hi : 1 ≤ i) (hj : 1 ≤ j) (hjh : j ≤ h) : upd (filT kerf ss h i j) i (upd (filT kerf ss h i j i) j (best kerf ss i j)) = filT kerf ss h i (j + 1) := by
  funext a b
  by_cases e : a = i
  · subst e
    rw [upd_at]
    by_cases e2 : b = j
    · subst e2
      rw [upd_at, filT_at _ _ _ _ _ _ _ (by omega)]
    · rw [upd_ne e2]
      unfold filT
      by_cases e3 : 1 ≤ a ∧ 1 ≤ b ∧ b ≤ h ∧ (a < a ∨ a = a ∧ b < j)
      · rw [if_pos e3, if_pos (by omega)]
      · rw [if_neg e3, if_neg (by omega)]
  · rw [upd_ne e]
    unfold filT
    by_cases e3 : 1 ≤ a ∧ 1 ≤ b ∧ b ≤ h ∧ (a < i ∨ a = i ∧ b < j)
    · rw [if_pos e3, if_pos (by omega)]
    · rw [if_neg e3, if_neg (by omega)]

theorem z83_set (a b : Value) : (Try.zeroCells83.setIfInBounds 0 a).setIfInBounds 1 b = (a :: b :: List.replicate 12675 (.int .i64 0)).toArray := by
  rw [z83, List.setIfInBounds_toArray, List.setIfInBounds_toArray]
  rfl
set_option maxHeartbeats 4000000 in
set_option maxRecDepth 100000 in
theorem newSaw_any (W H kerf : Nat) (A : Option Addr) (L cp : Nat) (ss : List Sh) (w : World) (hA : ShAt w A ss) (hL : L = ss.length) (hL16 : L ≤ 16) (hok : OkS ss) (hW : W ≤ 64) (hH : H ≤ 64) (hk : kerf ≤ 8) :
    Calls Try.prog 40 #[.int .i64 (W : Int), .int .i64 (H : Int), .int .i64 (kerf : Int), .slice A L cp] w fun e w' => ∃ p, e = .returned (.pointer (some ⟨p, 0, none⟩)) ∧ w.heap.size ≤ p ∧ SawM w' p kerf A L cp (filT kerf ss H (W + 1) 1) ∧ Below w.heap.size w w' := by
  have HA := Lib.hid hA
  have HL := Lib.hid hL
  have HOK := Lib.hid hok
  have hn := saw_new w kerf A L cp
  rw [← filT_start kerf ss H] at hn
  have hb := below_new w (.cells (.int .i64 (kerf : Int) :: .slice A L cp :: List.replicate 12675 (.int .i64 0)).toArray 83)
  clear hA hL hok
  go_enter Try.func40, Try.ntmps40
  go_upto_region 2 with (fail)
  rw [z83_set]
  obtain ⟨p, hp⟩ : ∃ p, p = w.heap.size := ⟨_, rfl⟩
  rw [← hp] at hn hb ⊢
  have HP := Lib.hid hp
  generalize w.alloc (.cells (.int .i64 (kerf : Int) :: .slice A L cp :: List.replicate 12675 (.int .i64 0)).toArray 83) = W0 at *
  generalize (Value.int .i64 (kerf : Int) :: .slice A L cp :: List.replicate 12675 (.int .i64 0)).toArray = zz at *
  have HM0 := Lib.hid hn
  have HB0 := Lib.hid hb
  clear hn hb hp
  go_upto_region 3 with (fail)
  go_loopw [10, 11] (fun t _ wr => ∃ i : Nat, i ≤ W ∧ t = .int .i64 ((i + 1 : Nat) : Int) ∧ Hid (SawM wr p kerf A L cp (filT kerf ss H (i + 1) 1)) ∧ Below p w wr) (fun t _ _ => W + 1 - (intOf t).toNat)
  case atStart => exact ⟨0, Nat.zero_le _, rfl, HM0, HB0.out⟩
  case round =>
    clear HM0 HB0
    obtain ⟨i0, hi0, rfl, HM, hbl⟩ := hrel
    obtain ⟨i, hi⟩ : ∃ i : Nat, i = i0 + 1 := ⟨_, rfl⟩
    have HI := Lib.hid hi
    have hi1 : 1 ≤ i := by omega
    rw [← hi] at HM ⊢
    by_cases hlt : i ≤ W
    · have hlt3 : (i : Int) ≤ (W : Int) := by omega
      clear hi
      have HBL := Lib.hid hbl
      clear hbl
      go_upto_region 6 with (fail)
      go_loopw [11] (fun t wr => ∃ j : Nat, j ≤ H ∧ t = .int .i64 ((j + 1 : Nat) : Int) ∧ Hid (SawM wr p kerf A L cp (filT kerf ss H i (j + 1))) ∧ Below p w wr) (fun t _ => H + 1 - (intOf t).toNat)
      case atStart => exact ⟨0, Nat.zero_le _, rfl, HM, HBL.out⟩
      case round =>
        clear HM HBL
        obtain ⟨j0, hj0, rfl, HM, hbl⟩ := hrel
        obtain ⟨j, hj⟩ : ∃ j : Nat, j = j0 + 1 := ⟨_, rfl⟩
        have HJ := Lib.hid hj
        have hj1 : 1 ≤ j := by omega
        rw [← hj] at HM ⊢
        by_cases hlt2 : j ≤ H
        · have hlt4 : (j : Int) ≤ (H : Int) := by omega
          clear hj
          have hch : ∀ W', Below wr.heap.size wr W' → Calls Try.prog 53 #[.pointer (some ⟨p, 0, none⟩), .agg #[.int .i64 0, .int .i64 0, .int .i64 (i : Int), .int .i64 (j : Int)]] W' fun e w' => ∃ c, c = best kerf ss i j ∧ e = .returned (.agg #[.int .i64 c.k, .int .i64 c.a, .int .i64 c.v]) ∧ Below wr.heap.size wr w' := fun W' hW' => by
            have h := choose_any p kerf A L cp ss (filT kerf ss H i j) i j W' (HM.out.keep hW') (HA.out.keep (HP.out ▸ (hbl.trans (hW'.mono (Nat.le_of_lt HM.out.lt))))) HL.out hL16 hi1 (by omega) hj1 (by omega) hk (fun a b _ _ => filT_big HOK.out kerf H i j a b (by omega) (by omega))
            rw [filT_cho kerf ss H i j hi1 hj1 hlt2] at h
            exact h.mono fun e w' ⟨c, h1, h2, h3⟩ => ⟨c, h1, h2, below_on hW' hW'.size h3⟩
          have HCH := Lib.hid hch
          have HBL := Lib.hid hbl
          have hWd : Below wr.heap.size wr wr.drew := (Below.refl wr.heap.size wr).drew
          have l65 : (i : Int) < 65 := by omega
          have m65 : (j : Int) < 65 := by omega
          clear hch hbl
          go_upto_region 8 with (fail)
          go_region_held3 (fun _ => True) (exact trivial)
            ((first
              | (go_at_call 53; (with_reducible refine (HCH.out _ hWd).mono ?_); rintro e w5 ⟨c, hc, rfl, hb5⟩
                 have hm5 := HM.out.keep hb5
                 have k0 := hm5.tk i j (by omega) (by omega)
                 have k1 := hm5.ta i j (by omega) (by omega)
                 have k2 := hm5.tv i j (by omega) (by omega)
                 have kf := hm5.fro)))
          have hs := (HM.out.keep hb5).set (i := i) (j := j) (by omega) (by omega) (best kerf ss i j)
          rw [filT_upd kerf ss H i j hi1 hj1 hlt2] at hs
          have HS := Lib.hid hs
          have hbl2 := below_set (below_set (below_set (HBL.out.trans (hb5.mono (Nat.le_of_lt HM.out.lt))) (Nat.le_refl p) (.int .i64 (best kerf ss i j).k) (i := 2 + i * 195 + j * 3)) (Nat.le_refl p) (.int .i64 (best kerf ss i j).a) (i := 2 + i * 195 + j * 3 + 1)) (Nat.le_refl p) (.int .i64 (best kerf ss i j).v) (i := 2 + i * 195 + j * 3 + 2)
          have HBL2 := Lib.hid hbl2
          clear hs hbl2 hb5 hm5 k0 k1 k2 kf
          go_wp2_with (fail)
          go_roundw
          case rel => exact ⟨j, by omega, by go_num, HS, HBL2.out⟩
          case measure => simp [intOf]; omega
        · have e : j = H + 1 := by omega
          have hm := HM.out
          rw [e, filT_next] at hm
          have HM2 := Lib.hid hm
          have HBL := Lib.hid hbl
          have hlt4 : ¬ (j : Int) ≤ (H : Int) := by omega
          clear hm e hbl hj HM
          go_wp2_with (fail)
          go_roundw
          case rel => exact ⟨i, by omega, by go_num, HM2, HBL.out⟩
          case measure => simp [intOf]; omega
    · have e : i = W + 1 := by omega
      have hm := HM.out
      rw [e] at hm
      have HM2 := Lib.hid hm
      have HBL := Lib.hid hbl
      have hlt3 : ¬ (i : Int) ≤ (W : Int) := by omega
      clear hm e hbl hi HM
      go_wp2
      go_ret
      exact ⟨p, rfl, Nat.le_of_eq HP.out.symm, HM2.out, HP.out ▸ HBL.out⟩
end Go.Proofs.Ytkfjlgjncaddpaa
