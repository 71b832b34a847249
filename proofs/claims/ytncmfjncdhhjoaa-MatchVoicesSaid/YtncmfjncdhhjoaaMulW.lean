/- Part of the proof of MatchVoices. -/
import Derived.Test.YtncmfjncdhhjoaaMem
import Derived.Lib.Mul64
import Derived.Laws.Bits64b
namespace Go.Proofs.Ytncmfjncdhhjoaa
open Go.RowKit Num

theorem m_mask (a : Nat) (ha : a < 18446744073709551616) : bits .and .u64 (a : Int) 4294967295 = ((a % 4294967296 : Nat) : Int) := by
  have h := bits_and_u64_nat a 4294967295 ha (by omega)
  rw [show a &&& 4294967295 = a % 4294967296 from Nat.and_two_pow_sub_one_eq_mod a 32] at h
  exact h
theorem m_div (a : Nat) : (a : Int) / 4294967296 = ((a / 4294967296 : Nat) : Int) := by omega
theorem m_mul (a b : Nat) : (a : Int) * (b : Int) = ((a * b : Nat) : Int) := (Int.natCast_mul a b).symm
theorem m_add (a b : Nat) : (a : Int) + (b : Int) = ((a + b : Nat) : Int) := (Int.natCast_add a b).symm
theorem m_in (a : Nat) (ha : a < 18446744073709551616) : IntKind.u64.wrap (a : Int) = (a : Int) := by rw [IntKind.wrap_u64]; omega
theorem m_wrap (a : Nat) : IntKind.u64.wrap (a : Int) = ((a % 18446744073709551616 : Nat) : Int) := by rw [IntKind.wrap_u64]; omega

set_option maxHeartbeats 1000000 in
set_option maxRecDepth 100000 in
theorem mul64_raw (x y : Nat) (hx : x < B64) (hy : y < B64) (w : World) :
    Calls Try.prog 95 #[.int .u64 (x : Int), .int .u64 (y : Int)] w fun e w' => e = .returned (.tuple #[.int .u64 ((x * y / 18446744073709551616 : Nat) : Int), .int .u64 ((x * y % 18446744073709551616 : Nat) : Int)]) ∧ w = w' := by
  obtain ⟨h1, h2, h3, h4⟩ := Lib.mul64_hi x y hx hy
  have H1 := Lib.hid h1
  have H2 := Lib.hid h2
  have H3 := Lib.hid h3
  have H4 := Lib.hid h4
  clear h1 h2 h3 h4
  go_enter Try.func95, Try.ntmps95
  go_wp2
  have a1 := H1.out
  have a2 := H2.out
  have a3 := H3.out
  have p1 := Lib.half_mul_le (a := x / 4294967296) (b := y / 4294967296) (by unfold B64 at hx; omega) (by unfold B64 at hy; omega)
  have p2 := Lib.half_mul_le (a := x / 4294967296) (b := y % 4294967296) (by unfold B64 at hx; omega) (by omega)
  have p3 := Lib.half_mul_le (a := x % 4294967296) (b := y / 4294967296) (by omega) (by unfold B64 at hy; omega)
  simp only [m_mask x hx, m_mask y hy, m_div, m_mul, m_add, m_in _ a1, m_in (x / 4294967296 * (y % 4294967296)) (by omega), m_in _ a2, m_mask _ a2, m_in (x % 4294967296 * (y / 4294967296)) (by omega), m_in _ a3,
    m_in (x / 4294967296 * (y / 4294967296)) (by omega)]
  have a4 := H4.out
  have hxy : x * y / 18446744073709551616 < 18446744073709551616 := by
    rw [Nat.div_lt_iff_lt_mul (by omega)]
    exact Nat.mul_lt_mul_of_lt_of_lt hx hy
  rw [m_in (x / 4294967296 * (y / 4294967296) + (x / 4294967296 * (y % 4294967296) + x % 4294967296 * (y % 4294967296) / 4294967296) / 4294967296) (by omega), m_add, m_in _ (by omega), m_wrap, a4]
  go_ret2
  exact ⟨rfl, rfl⟩
/-- A product of two words: under names. -/
theorem mul64_ex (x y : Nat) (hx : x < B64) (hy : y < B64) : ∃ hi lo : Nat,
    (∀ w, Calls Try.prog 95 #[.int .u64 (x : Int), .int .u64 (y : Int)] w fun e w' => e = .returned (.tuple #[.int .u64 (hi : Int), .int .u64 (lo : Int)]) ∧ w = w') ∧
    lo + B64 * hi = x * y ∧ lo < B64 ∧ hi + 1 < B64 := by
  refine ⟨x * y / B64, x * y % B64, fun w => mul64_raw x y hx hy w, Nat.mod_add_div _ _, Nat.mod_lt _ b64_pos, ?_⟩
  have h1 : x * y ≤ 18446744073709551615 * 18446744073709551615 := Nat.mul_le_mul (by unfold B64 at hx; omega) (by unfold B64 at hy; omega)
  unfold B64
  omega
end Go.Proofs.Ytncmfjncdhhjoaa
