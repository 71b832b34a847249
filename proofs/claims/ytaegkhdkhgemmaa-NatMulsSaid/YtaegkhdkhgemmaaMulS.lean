import Derived.Test.YtaegkhdkhgemmaaLongMul
namespace Go.Proofs.Ytaegkhdkhgemmaa
open Go.RowKit Num

/-- What multiply owes, for factors of at most N words. -/
def MulSpec (N : Nat) : Prop := ∀ (a b : Value) (m n : Nat) (w : World), W64 w a m → W64 w b n → (dig B64 m).length ≤ N → (dig B64 n).length ≤ N → Calls Try.prog 111 #[a, b] w (SumPost w (m * n))

set_option maxHeartbeats 400000 in
theorem mul_short (a b : Value) (m n : Nat) (w : World) (ha : W64 w a m) (hb : W64 w b n) (hm : (dig B64 m).length ≤ 1000000000) (hn : (dig B64 n).length ≤ 1000000000) (hs : (dig B64 m).length ≤ 79 ∨ (dig B64 n).length ≤ 79) :
    Calls Try.prog 111 #[a, b] w (SumPost w (m * n)) := by
  obtain ⟨A, c, rfl, _, hA⟩ := ha
  obtain ⟨A', c', rfl, _, hA'⟩ := hb
  have em := val_dig b64_two m
  have en := val_dig b64_two n
  have h1 := fun w => fun (hA : Nums .u64 w A (dig B64 m)) (hA' : Nums .u64 w A' (dig B64 n)) => longMultiply_any A A' c c' _ _ _ _ w hA hA' (dig_low64 m) (dig_low64 n) rfl rfl (by omega) (by omega)
  have h2 := fun w => fun (hA : Nums .u64 w A (dig B64 m)) (hA' : Nums .u64 w A' (dig B64 n)) => longMultiply_any A' A c' c _ _ _ _ w hA' hA (dig_low64 n) (dig_low64 m) rfl rfl (by omega) (by omega)
  rw [em, en] at h1 h2
  rw [Nat.mul_comm n m] at h2
  have H1 := Lib.hid h1
  have H2 := Lib.hid h2
  clear h1 h2 em en
  generalize hL : (dig B64 m).length = L at *
  generalize hL' : (dig B64 n).length = L' at *
  have HL := Lib.hid hL
  have HL' := Lib.hid hL'
  clear hL hL'
  by_cases hlt : L < L'
  · go_enter Try.func111, Try.ntmps111
    go_wp2_with (go_at_call 128; refine (H2.out _ hA hA').mono ?_; rintro e w1 ⟨v, rfl, hv, hb1⟩)
    go_ret
    exact ⟨_, rfl, hv, hb1⟩
  · go_enter Try.func111, Try.ntmps111
    go_wp2_with (go_at_call 128; refine (H1.out _ hA hA').mono ?_; rintro e w1 ⟨v, rfl, hv, hb1⟩)
    go_ret
    exact ⟨_, rfl, hv, hb1⟩
theorem mulSpec_small : MulSpec 79 := fun a b m n w ha hb hm hn => mul_short a b m n w ha hb (by omega) (by omega) (.inl hm)
/-- What multiply owes for two factors. -/
def MulAt (m n : Nat) : Prop := ∀ (a b : Value) (w : World), W64 w a m → W64 w b n → Calls Try.prog 111 #[a, b] w (SumPost w (m * n))
theorem mulAt_short {m n : Nat} (hm : (dig B64 m).length ≤ 1000000000) (hn : (dig B64 n).length ≤ 1000000000) (hs : (dig B64 m).length ≤ 79 ∨ (dig B64 n).length ≤ 79) : MulAt m n := fun a b w ha hb => mul_short a b m n w ha hb hm hn hs
end Go.Proofs.Ytaegkhdkhgemmaa
