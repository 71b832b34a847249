import Derived.Test.YtaegkhdkhgemmaaMul
import Derived.Test.YtaegkhdkhgemmaaSub
namespace Go.Proofs.Ytaegkhdkhgemmaa
open Go.RowKit Num

set_option maxHeartbeats 1000000 in
set_option maxRecDepth 100000 in
theorem add_bad (a b : Value) (xs ys : List Nat) (w : World) (ha : Limbs w a xs) (hb : Limbs w b ys) (h0 : chk2 xs ys ≠ 0) : Calls Try.prog 37 #[a, b] w (NatErr w (chk2 xs ys)) := by
  have hc := checkAll_any w.heap.size 2 2 _ _ (nats2 ha hb) rfl (by omega)
  rw [chkAll2] at hc
  generalize chk2 xs ys = r at *
  have hbA := below_new w (.cells #[a, b] 23)
  have hq : (r != 0) = true := by simp [h0]
  have HC := Lib.hid hc
  have H0 := Lib.hid h0
  obtain ⟨A, c, rfl, _⟩ := ha
  obtain ⟨A', c', rfl, _⟩ := hb
  clear hc h0
  generalize xs.length = L at *
  generalize ys.length = L' at *
  go_enter Try.func37, Try.ntmps37
  go_wp2_with (go_at_call 75; refine HC.out.mono ?_; rintro e w1 ⟨rfl, rfl⟩)
  go_ret2
  exact ⟨rfl, hbA⟩

set_option maxHeartbeats 1000000 in
set_option maxRecDepth 100000 in
theorem sub_bad (a b : Value) (xs ys : List Nat) (w : World) (ha : Limbs w a xs) (hb : Limbs w b ys) (h0 : chk2 xs ys ≠ 0) : Calls Try.prog 38 #[a, b] w (NatErr w (chk2 xs ys)) := by
  have hc := checkAll_any w.heap.size 2 2 _ _ (nats2 ha hb) rfl (by omega)
  rw [chkAll2] at hc
  generalize chk2 xs ys = r at *
  have hbA := below_new w (.cells #[a, b] 23)
  have hq : (r != 0) = true := by simp [h0]
  have HC := Lib.hid hc
  have H0 := Lib.hid h0
  obtain ⟨A, c, rfl, _⟩ := ha
  obtain ⟨A', c', rfl, _⟩ := hb
  clear hc h0
  generalize xs.length = L at *
  generalize ys.length = L' at *
  go_enter Try.func38, Try.ntmps38
  go_wp2_with (go_at_call 75; refine HC.out.mono ?_; rintro e w1 ⟨rfl, rfl⟩)
  go_ret2
  exact ⟨rfl, hbA⟩

/-- Two plain results; nothing that was there has turned. -/
def Two (w : World) (a b : Value) (e : Ending) (w' : World) : Prop := e = .returned (.tuple #[a, b]) ∧ Below w.heap.size w w'

set_option maxHeartbeats 1000000 in
set_option maxRecDepth 100000 in
theorem cmp_bad (a b : Value) (xs ys : List Nat) (w : World) (ha : Limbs w a xs) (hb : Limbs w b ys) (h0 : chk2 xs ys ≠ 0) : Calls Try.prog 39 #[a, b] w (Two w (.int .i64 0) (.int .i64 (chk2 xs ys))) := by
  have hc := checkAll_any w.heap.size 2 2 _ _ (nats2 ha hb) rfl (by omega)
  rw [chkAll2] at hc
  generalize chk2 xs ys = r at *
  have hbA := below_new w (.cells #[a, b] 23)
  have hq : (r != 0) = true := by simp [h0]
  have HC := Lib.hid hc
  have H0 := Lib.hid h0
  obtain ⟨A, c, rfl, _⟩ := ha
  obtain ⟨A', c', rfl, _⟩ := hb
  clear hc h0
  generalize xs.length = L at *
  generalize ys.length = L' at *
  go_enter Try.func39, Try.ntmps39
  go_wp2_with (go_at_call 75; refine HC.out.mono ?_; rintro e w1 ⟨rfl, rfl⟩)
  go_ret2
  exact ⟨rfl, hbA⟩

set_option maxHeartbeats 1000000 in
set_option maxRecDepth 100000 in
theorem add_ok (a b : Value) (m n : Nat) (w : World) (ha : N32 w a m) (hb : N32 w b n) (hm : (dig B32 m).length ≤ 262144) (hn : (dig B32 n).length ≤ 262144) (hp : nbits (m + n) ≤ 8388608) : Calls Try.prog 37 #[a, b] w (NatOk w (m + n)) := by
  have hc := checkAll_any w.heap.size 2 2 _ _ (nats2 (Limbs.num ha (by omega)) (Limbs.num hb (by omega))) rfl (by omega)
  rw [chkAll2, chk2, if_pos (chk_dig hm), chk_dig hn] at hc
  have hbA := below_new w (.cells #[a, b] 23)
  have ha1 := ha.keep hbA
  have hb1 := hb.keep hbA
  have hf1 := fun w' (h : N32 w' a m) => fromNat_any a m w' h (by omega)
  have hf2 := fun w' (h : N32 w' b n) => fromNat_any b n w' h (by omega)
  have lm := words_le (n := m) (K := 131072) hm
  have ln := words_le (n := n) (K := 131072) hn
  have hpr := fun v u w' (h : W64 w' v m) (k : W64 w' u n) => sum_any v u m n w' h k (by omega) (by omega)
  have hft := fun v w' (h : W64 w' v (m + n)) => fit_ok v (m + n) w' h hp
  have HC := Lib.hid hc
  have HA := Lib.hid ha1
  have HB := Lib.hid hb1
  have HF1 := Lib.hid hf1
  have HF2 := Lib.hid hf2
  have HP := Lib.hid hpr
  have HFT := Lib.hid hft
  obtain ⟨A, c, rfl, _⟩ := ha
  obtain ⟨A', c', rfl, _⟩ := hb
  clear hc ha1 hb1 hf1 hf2 hpr hp hft lm ln
  generalize (dig B32 m).length = L at *
  generalize (dig B32 n).length = L' at *
  go_enter Try.func37, Try.ntmps37
  go_wp2_with (go_at_call 75; refine HC.out.mono ?_; rintro e w1 ⟨rfl, rfl⟩)
  go_wp2_with (fail)
  refine (HF1.out _ HA.out).mono ?_
  rintro e w1 ⟨v1, rfl, hv1, hb1⟩
  go_wp2_with (fail)
  refine (HF2.out _ (HB.out.keep hb1)).mono ?_
  rintro e w2 ⟨v2, rfl, hv2, hb2⟩
  go_wp2_with (fail)
  refine (HP.out _ _ _ (hv1.is.keep hb2) hv2.is).mono ?_
  rintro e w3 ⟨v3, rfl, hv3, hb3⟩
  go_wp2_with (fail)
  refine (HFT.out _ _ hv3.is).mono ?_
  rintro e w4 ⟨v4, rfl, hv4, hb4⟩
  go_wp2
  go_ret2
  have b1 := below_at hbA (Nat.le_refl _) hb1
  have b2 := below_at b1 (Nat.le_refl _) hb2
  have b3 := below_at b2 (Nat.le_refl _) hb3
  exact ⟨_, rfl, hv4.mono b3.size, below_at b3 (Nat.le_refl _) hb4⟩

set_option maxHeartbeats 1000000 in
set_option maxRecDepth 100000 in
theorem cmp_ok (a b : Value) (m n : Nat) (w : World) (ha : N32 w a m) (hb : N32 w b n) (hm : (dig B32 m).length ≤ 262144) (hn : (dig B32 n).length ≤ 262144) : Calls Try.prog 39 #[a, b] w (Two w (.int .i64 (cmpN m n)) (.int .i64 0)) := by
  have hc := checkAll_any w.heap.size 2 2 _ _ (nats2 (Limbs.num ha (by omega)) (Limbs.num hb (by omega))) rfl (by omega)
  rw [chkAll2, chk2, if_pos (chk_dig hm), chk_dig hn] at hc
  have hbA := below_new w (.cells #[a, b] 23)
  have hcmp : ∀ w', N32 w' a m → N32 w' b n → Calls Try.prog 85 #[a, b] w' fun e w'' => e = .returned (.int .i64 (cmpN m n)) ∧ Below w'.heap.size w' w'' := fun w' h k => by
    obtain ⟨A, c, rfl, _, hA⟩ := h
    obtain ⟨A', c', rfl, _, hA'⟩ := k
    exact compare85 A A' c c' _ _ m n w' hA hA' rfl rfl (by omega) (by omega)
  have hc2 := hcmp _ (ha.keep hbA) (hb.keep hbA)
  generalize cmpN m n = r at *
  have HC := Lib.hid hc
  have HP := Lib.hid hc2
  obtain ⟨A, c, rfl, _⟩ := ha
  obtain ⟨A', c', rfl, _⟩ := hb
  clear hc hc2 hcmp
  generalize (dig B32 m).length = L at *
  generalize (dig B32 n).length = L' at *
  go_enter Try.func39, Try.ntmps39
  go_wp2_with (first
    | (go_at_call 75; refine HC.out.mono ?_; rintro e w1 ⟨rfl, rfl⟩)
    | (go_at_call 85; refine HP.out.mono ?_; rintro e w2 ⟨rfl, hb2⟩))
  go_ret2
  exact ⟨rfl, below_at hbA (Nat.le_refl _) hb2⟩
end Go.Proofs.Ytaegkhdkhgemmaa
