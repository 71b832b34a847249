import Derived.Test.YtaegkhdkhgemmaaRoot27
import Derived.Test.YtaegkhdkhgemmaaSame
namespace Go.Proofs.Ytaegkhdkhgemmaa
open Go.RowKit Num

theorem small32 {k : Nat} (hk : k < B32) : (dig B32 k).length ≤ 1 := dig_len_le b32_two (by simpa using hk)
theorem small64 {k : Nat} (hk : k < B64) : (dig B64 k).length ≤ 1 := dig_len_le b64_two (by simpa using hk)
theorem dig1 {b k : Nat} (hb : 2 ≤ b) (h0 : k ≠ 0) (hk : k < b) : dig b k = [k] := by
  rw [dig_pos hb h0, Nat.mod_eq_of_lt hk, Nat.div_eq_of_lt hk, dig_zero]

set_option maxHeartbeats 1000000 in
set_option maxRecDepth 100000 in
theorem Root_27 (a : Value) (w : World) (ha : N32 w a 27) : Calls Try.prog 56 #[a, .int .i64 3] w (NatOk w 3) := by
  have l27 : (dig B32 27).length ≤ 1 := small32 (by unfold B32; omega)
  have d27 : dig B32 27 = [27] := dig1 b32_two (by omega) (by unfold B32; omega)
  have hc := checkAll_any w.heap.size 1 1 _ _ (nats1 (Limbs.num ha (by omega))) rfl (by omega)
  rw [chkAll1, chk_dig (by omega)] at hc
  have hbA := below_new w (.cells #[a] 23)
  have ha1 := ha.keep hbA
  have hf := fun w' (h : N32 w' a 27) => fromNat_any a 27 w' h (by omega)
  have hr := fun v w' (h : W64 w' v 27) => root_27 v w' h
  have hn := fun v w' (h : W64 w' v 3) => nat_any v 3 w' h (Nat.le_trans (small64 (by unfold B64; omega)) (by omega))
  have HC := Lib.hid hc
  have HA := Lib.hid ha1
  have HF := Lib.hid hf
  have HR := Lib.hid hr
  have HN := Lib.hid hn
  obtain ⟨A, c, rfl, _⟩ := ha
  rw [d27] at *
  clear hc ha1 hf hr hn d27
  go_enter Try.func56, Try.ntmps56
  go_wp2_with (first
    | (go_at_call 75; refine HC.out.mono ?_; rintro e w1 ⟨rfl, rfl⟩)
    | (go_at_call 76; refine (HF.out _ HA.out).mono ?_; rintro e w1 ⟨v1, rfl, hv1, hb1⟩
       have b1 := below_at hbA (Nat.le_refl _) hb1)
    | (go_at_call 97; refine (HR.out _ _ hv1.is).mono ?_; rintro e w2 ⟨v2, rfl, hv2, hb2⟩
       have b2 := below_at b1 (Nat.le_refl _) hb2)
    | (go_at_call 79; refine (HN.out _ _ hv2).mono ?_; rintro e w3 ⟨v3, rfl, hv3, hb3⟩))
  go_ret2
  exact ⟨_, rfl, hv3.mono b2.size, below_at b2 (Nat.le_refl _) hb3⟩

/-- A row of limbs that has just been made reads as a number. -/
theorem new_limbs (w : World) (xs : List Nat) (hl : xs.length ≤ 1000000000000) : Limbs (w.alloc (.cells (ints .u32 xs).toArray 56)) (.slice (some ⟨w.heap.size, 0, none⟩) xs.length xs.length) xs := by
  have hr : Row .u32 56 (w.alloc (.cells (ints .u32 xs).toArray 56)) w.heap.size xs := Row.of_heap (heap_alloc_new _ _)
  refine ⟨_, _, rfl, Nat.le_refl _, hl, ?_⟩
  have := hr.nums0 xs.length
  rwa [List.take_length] at this

def LivesPost (w : World) (e : Ending) (w' : World) : Prop := e = .returned (.bool true) ∧ Below w.heap.size w w'

theorem dig_ff : dig B32 4294967295 = [4294967295] := dig1 b32_two (by omega) (by unfold B32; omega)
theorem dig_sq : dig B32 (4294967295 * 4294967295) = [1, 4294967294] := by
  refine dig_of b32_two (Low.cons (by unfold B32; omega) (Low.cons (by unfold B32; omega) (Low.nil _))) ?_ ?_
  · exact .inr ⟨[1], 4294967294, rfl, by omega⟩
  · simp [val, B32]
theorem nbits_sq : nbits (4294967295 * 4294967295) ≤ 8388608 := Nat.le_trans (nbits_le (k := 64) (by omega)) (by omega)

/-- What lives calls, each with its answer. -/
theorem lives_mul (w : World) : Calls Try.prog 45 #[.slice (some ⟨w.heap.size, 0, none⟩) 1 1, .slice (some ⟨w.heap.size + 1, 0, none⟩) 1 1]
    ((w.alloc (.cells #[.int .u32 4294967295] 56)).alloc (.cells #[.int .u32 4294967295] 56)) (NatOk ((w.alloc (.cells #[.int .u32 4294967295] 56)).alloc (.cells #[.int .u32 4294967295] 56)) (4294967295 * 4294967295)) := by
  have h1 : Limbs ((w.alloc (.cells #[.int .u32 4294967295] 56)).alloc (.cells #[.int .u32 4294967295] 56)) (.slice (some ⟨w.heap.size, 0, none⟩) 1 1) (dig B32 4294967295) := by
    rw [dig_ff]; exact (new_limbs w [4294967295] (by simp)).keep (below_new _ (.cells #[.int .u32 4294967295] 56))
  have h2 : Limbs ((w.alloc (.cells #[.int .u32 4294967295] 56)).alloc (.cells #[.int .u32 4294967295] 56)) (.slice (some ⟨(w.alloc (.cells #[.int .u32 4294967295] 56)).heap.size, 0, none⟩) 1 1) (dig B32 4294967295) := by
    rw [dig_ff]; exact new_limbs (w.alloc (.cells #[.int .u32 4294967295] 56)) [4294967295] (by simp)
  have l : (dig B32 4294967295).length = 1 := by rw [dig_ff]; rfl
  have h3 := h1.is
  have h4 := h2.is
  have e : (w.alloc (.cells #[.int .u32 4294967295] 56)).heap.size = w.heap.size + 1 := by simp
  rw [e] at h4
  exact mul_ok mulSpec_small (by omega) _ _ 4294967295 4294967295 _ h3 h4 (by omega) (by omega) (by omega) (by omega) nbits_sq
theorem lives_of (w : World) : Calls Try.prog 33 #[.int .u64 27] w (NatPost w 27) := of_any 27 (by unfold B64; omega) w
theorem lives_same1 (a : Value) (n : Nat) (w : World) (hn : dig B32 n = [1, 4294967294]) (ha : N32 w a n) : Calls Try.prog 32 #[a, .slice (some ⟨w.heap.size, 0, none⟩) 2 2]
    (w.alloc (.cells #[.int .u32 1, .int .u32 4294967294] 56)) fun e w' => e = .returned (.bool true) ∧ Below w.heap.size w w' := by
  have hb := below_new w (.cells #[.int .u32 1, .int .u32 4294967294] 56)
  have h1 := Limbs.num (ha.keep hb) (by rw [hn]; simp)
  have h2 := new_limbs w [1, 4294967294] (by simp)
  have := same_nums _ _ _ _ _ h1 h2
  rw [hn, decide_eq_true rfl] at this
  exact this.mono fun e w' ⟨he, hw⟩ => ⟨he, below_at hb (Nat.le_refl _) hw⟩
theorem lives_same2 (a : Value) (w : World) (ha : N32 w a 3) : Calls Try.prog 32 #[a, .slice (some ⟨w.heap.size, 0, none⟩) 1 1]
    (w.alloc (.cells #[.int .u32 3] 56)) fun e w' => e = .returned (.bool true) ∧ Below w.heap.size w w' := by
  have hn : dig B32 3 = [3] := dig1 b32_two (by omega) (by unfold B32; omega)
  have hb := below_new w (.cells #[.int .u32 3] 56)
  have h1 := Limbs.num (ha.keep hb) (by rw [hn]; simp)
  have h2 := new_limbs w [3] (by simp)
  have := same_nums _ _ _ _ _ h1 h2
  rw [hn, decide_eq_true rfl] at this
  exact this.mono fun e w' ⟨he, hw⟩ => ⟨he, below_at hb (Nat.le_refl _) hw⟩

set_option maxHeartbeats 1000000 in
set_option maxRecDepth 100000 in
theorem lives_any (w : World) : Calls Try.prog 30 #[] w (LivesPost w) := by
  have hm := lives_mul w
  have hb0 : Below w.heap.size w ((w.alloc (.cells #[.int .u32 4294967295] 56)).alloc (.cells #[.int .u32 4294967295] 56)) := (below_new w _).alloc (by simp) _
  have hd := dig_sq
  generalize 4294967295 * 4294967295 = q at *
  have HM := Lib.hid hm
  have HD := Lib.hid hd
  have HB0 := Lib.hid hb0
  clear hm hd hb0
  go_enter Try.func30, Try.ntmps30
  go_wp2_with (first
    | (go_at_call 45; refine HM.out.mono ?_; rintro e w1 ⟨v1, rfl, hv1, hb1⟩
       have b1 : Below w.heap.size w w1 := HB0.out.trans (hb1.mono HB0.out.size))
    | (go_at_call 33; refine (lives_of _).mono ?_; rintro e w2 ⟨v2, rfl, hv2, hb2⟩
       have b2 : Below w.heap.size w w2 := b1.trans (hb2.mono b1.size))
    | (go_at_call 56; refine (Root_27 _ _ hv2.is).mono ?_; rintro e w3 ⟨v3, rfl, hv3, hb3⟩
       have b3 : Below w.heap.size w w3 := b2.trans (hb3.mono b2.size)
       have k1 := (hv1.is.keep hb2).keep hb3))
  refine (lives_same1 v1 q w3 HD.out k1).mono ?_
  rintro e w4 ⟨rfl, hb4⟩
  have b4 : Below w.heap.size w w4 := b3.trans (hb4.mono b3.size)
  have k3 := hv3.keep hb4
  go_wp2_with (fail)
  refine (lives_same2 v3 w4 k3.is).mono ?_
  rintro e w5 ⟨rfl, hb5⟩
  have b5 : Below w.heap.size w w5 := b4.trans (hb5.mono b4.size)
  go_wp2
  go_ret
  exact ⟨rfl, b5⟩
end Go.Proofs.Ytaegkhdkhgemmaa
