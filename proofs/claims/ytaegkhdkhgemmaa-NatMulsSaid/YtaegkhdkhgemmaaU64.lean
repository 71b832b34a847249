import Derived.Test.YtaegkhdkhgemmaaCut
namespace Go.Proofs.Ytaegkhdkhgemmaa
open Go.RowKit Num

set_option maxHeartbeats 400000 in
theorem refCheck_any (A : Option Addr) (c L : Nat) (xs : List Nat) (w : World) (hA : Nums .u32 w A xs) (hL : L = xs.length) (hl : L ≤ 1000000000000) :
    Calls Try.prog 27 #[.slice A L c] w fun e w' => e = .returned (.int .i64 (chk xs)) ∧ w = w' := by
  obtain ⟨r, hr⟩ : ∃ r, chk xs = r := ⟨_, rfl⟩
  rw [hr]
  unfold chk at hr
  rw [← hL] at hr
  by_cases h1 : 262144 < L
  · rw [if_pos h1] at hr
    subst hr
    clear hL hA
    go_enter Try.func27, Try.ntmps27
    go_wp2
    go_ret
    exact ⟨rfl, rfl⟩
  · rw [if_neg h1] at hr
    by_cases h2 : 0 < L
    · obtain ⟨g, off, v, rfl, hg, hv, hcv⟩ := hA.at_ (i := L - 1) (by omega)
      have hvd : xs.getD (L - 1) 0 = v := by simp [List.getD_eq_getElem?_getD, hv]
      rw [hvd] at hr
      by_cases h3 : v = 0
      · rw [if_pos ⟨h2, h3⟩] at hr
        subst hr
        have hq : ((v : Int) == 0) = true := by simp [h3]
        have H3 := Lib.hid h3
        clear hL hA hv hvd h3
        go_enter Try.func27, Try.ntmps27
        go_wp2
        go_ret
        exact ⟨rfl, rfl⟩
      · rw [if_neg (fun h => h3 h.2)] at hr
        subst hr
        have hq : ((v : Int) == 0) = false := by simp [h3]
        have H3 := Lib.hid h3
        clear hL hA hv hvd h3
        go_enter Try.func27, Try.ntmps27
        go_wp2
        go_ret
        exact ⟨rfl, rfl⟩
    · rw [if_neg (fun h => h2 h.1)] at hr
      subst hr
      clear hL hA
      go_enter Try.func27, Try.ntmps27
      go_wp2
      go_ret
      exact ⟨rfl, rfl⟩


def Ret2 (w : World) (a b : Value) (e : Ending) (w' : World) : Prop := e = .returned (.tuple #[a, b]) ∧ Below w.heap.size w w'

set_option maxHeartbeats 1000000 in
set_option maxRecDepth 100000 in
theorem bits_bad (a : Value) (xs : List Nat) (w : World) (ha : Limbs w a xs) (h0 : chk xs ≠ 0) : Calls Try.prog 28 #[a] w (Ret2 w (.int .i64 0) (.int .i64 (chk xs))) := by
  have hc := checkAll_any w.heap.size 1 1 _ _ (nats1 ha) rfl (by omega)
  rw [chkAll1] at hc
  generalize chk xs = r at *
  have hbA := below_new w (.cells #[a] 23)
  have hq : (r != 0) = true := by simp [h0]
  have HC := Lib.hid hc
  have H0 := Lib.hid h0
  obtain ⟨A, c, rfl, _⟩ := ha
  clear hc h0
  generalize xs.length = L at *
  go_enter Try.func28, Try.ntmps28
  go_wp2_with (go_at_call 75; refine HC.out.mono ?_; rintro e w1 ⟨rfl, rfl⟩)
  go_ret2
  exact ⟨rfl, hbA⟩

set_option maxHeartbeats 1000000 in
set_option maxRecDepth 100000 in
theorem uint64_bad (a : Value) (xs : List Nat) (w : World) (ha : Limbs w a xs) (h0 : chk xs ≠ 0) : Calls Try.prog 29 #[a] w (Ret2 w (.int .u64 0) (.int .i64 (chk xs))) := by
  have hc := checkAll_any w.heap.size 1 1 _ _ (nats1 ha) rfl (by omega)
  rw [chkAll1] at hc
  generalize chk xs = r at *
  have hbA := below_new w (.cells #[a] 23)
  have hq : (r != 0) = true := by simp [h0]
  have HC := Lib.hid hc
  have H0 := Lib.hid h0
  obtain ⟨A, c, rfl, _⟩ := ha
  clear hc h0
  generalize xs.length = L at *
  go_enter Try.func29, Try.ntmps29
  go_wp2_with (go_at_call 75; refine HC.out.mono ?_; rintro e w1 ⟨rfl, rfl⟩)
  go_ret2
  exact ⟨rfl, hbA⟩

set_option maxHeartbeats 1000000 in
set_option maxRecDepth 100000 in
theorem uint64_range (a : Value) (n : Nat) (w : World) (ha : N32 w a n) (hl : (dig B32 n).length ≤ 262144) (h2 : 2 < (dig B32 n).length) : Calls Try.prog 29 #[a] w (Ret2 w (.int .u64 0) (.int .i64 5)) := by
  have hc := checkAll_any w.heap.size 1 1 _ _ (nats1 (Limbs.num ha (by omega))) rfl (by omega)
  rw [chkAll1, chk_dig hl] at hc
  have hbA := below_new w (.cells #[a] 23)
  have HC := Lib.hid hc
  obtain ⟨A, c, rfl, _⟩ := ha
  clear hc
  generalize (dig B32 n).length = L at *
  go_enter Try.func29, Try.ntmps29
  go_wp2_with (go_at_call 75; refine HC.out.mono ?_; rintro e w1 ⟨rfl, rfl⟩)
  go_ret2
  exact ⟨rfl, hbA⟩

set_option maxHeartbeats 1000000 in
set_option maxRecDepth 100000 in
theorem uint64_ok (a : Value) (n : Nat) (w : World) (ha : N32 w a n) (hl : (dig B32 n).length ≤ 2) : Calls Try.prog 29 #[a] w (Ret2 w (.int .u64 (n : Nat)) (.int .i64 0)) := by
  have hc := checkAll_any w.heap.size 1 1 _ _ (nats1 (Limbs.num ha (by omega))) rfl (by omega)
  rw [chkAll1, chk_dig (by omega)] at hc
  have hbA := below_new w (.cells #[a] 23)
  have hf := fromNat_any a n _ (ha.keep hbA) (by omega)
  have hlt : n < B64 := by
    have h1 := dig_len_lt b32_two (n := n)
    have h2 := Nat.pow_le_pow_right b32_pos hl
    have : B32 ^ 2 = B64 := by decide
    omega
  have hwin : ∀ v w', W64 w' v n → Calls Try.prog 77 #[v, .int .i64 0] w' fun e w'' => e = .returned (.int .u64 (n : Nat)) ∧ w' = w'' := fun v w' h => by
    obtain ⟨A, c, rfl, _, hA⟩ := h
    have := window_any A c _ n 0 w' hA rfl (Nat.le_trans (words_le (K := 1) (by omega)) (by omega)) (by omega)
    rw [Nat.pow_zero, Nat.div_one, Nat.mod_eq_of_lt hlt] at this
    exact this
  have HC := Lib.hid hc
  have HF := Lib.hid hf
  have HW := Lib.hid hwin
  obtain ⟨A, c, rfl, _⟩ := ha
  clear hc hf hwin hlt
  generalize (dig B32 n).length = L at *
  go_enter Try.func29, Try.ntmps29
  go_wp2_with (first
    | (go_at_call 75; refine HC.out.mono ?_; rintro e w1 ⟨rfl, rfl⟩)
    | (go_at_call 76; refine HF.out.mono ?_; rintro e w1 ⟨v1, rfl, hv1, hb1⟩)
    | (go_at_call 77; refine (HW.out _ _ hv1.is).mono ?_; rintro e w2 ⟨rfl, rfl⟩))
  go_ret2
  exact ⟨rfl, below_at hbA (Nat.le_refl _) hb1⟩
end Go.Proofs.Ytaegkhdkhgemmaa
