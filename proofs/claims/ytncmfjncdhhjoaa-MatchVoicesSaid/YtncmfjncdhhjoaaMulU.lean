/- Part of the proof of MatchVoices. -/
import Derived.Test.YtncmfjncdhhjoaaWit
import Derived.Test.YtncmfjncdhhjoaaMulW
namespace Go.Proofs.Ytncmfjncdhhjoaa
open Go.RowKit Num
theorem mul64_1 (n : Nat) (hn : n ≤ 1000000000000) (w : World) : Calls Try.prog 95 #[.int .u64 1, .int .u64 (n : Int)] w fun e w' => e = .returned (.tuple #[.int .u64 0, .int .u64 (n : Int)]) ∧ w = w' := by
  obtain ⟨hi, lo, hc, h1, h2, h3⟩ := mul64_ex 1 n (by unfold B64; omega) (by unfold B64; omega)
  have h4 : hi = 0 := by unfold B64 at h1; omega
  subst h4
  have h5 : lo = n := by omega
  subst h5
  exact hc w
set_option maxRecDepth 100000 in
theorem mul64_one (n : Nat) (hn : n ≤ 1000000000000) (w : World) : Calls Try.prog 80 #[.int .u64 1, .int .u64 (n : Int)] w fun e w' => e = .returned (.tuple #[.int .u64 0, .int .u64 (n : Int)]) ∧ w = w' := by
  have H := fun w1 => Lib.hid (mul64_1 n hn w1)
  go_enter Try.func80, Try.ntmps80
  go_wp2_with (go_at_call 95; refine ((H _).out).mono ?_; rintro e w1 ⟨rfl, rfl⟩)
  go_ret2
  exact ⟨rfl, rfl⟩
end Go.Proofs.Ytncmfjncdhhjoaa
