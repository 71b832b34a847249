/- Plain laws: the bits of a number that is written in words. -/
import Derived.Test.YtaegkhdkhgemmaaNum
import Derived.Laws.Bits64
import Derived.Laws.Bits64b
import Derived.Lib.BitFns
namespace Go.Proofs.Num

theorem dig_get_drop {b : Nat} (hb : 2 ≤ b) (n i : Nat) : val b ((dig b n).drop i) = n / b ^ i := by
  induction i generalizing n with
  | zero => simp [val_dig hb]
  | succ i ih =>
    by_cases hn : n = 0
    · subst hn; simp [dig_zero, val]
    · rw [dig_pos hb hn, List.drop_succ_cons, ih, Nat.div_div_eq_div_mul, Nat.pow_succ, Nat.mul_comm]

theorem dig_getElem? {b : Nat} (hb : 2 ≤ b) {n i v : Nat} (h : (dig b n)[i]? = some v) : v = n / b ^ i % b := by
  have hi := (List.getElem?_eq_some_iff.1 h).1
  have e := dig_get_drop hb n i
  rw [List.drop_eq_getElem_cons hi] at e
  have hv : (dig b n)[i] = v := (List.getElem?_eq_some_iff.1 h).2
  rw [hv] at e
  simp only [val] at e
  rw [← e, Nat.add_mul_mod_self_left]
  refine (Nat.mod_eq_of_lt ?_).symm
  rw [← hv]
  exact low_dig hb n _ (List.getElem_mem hi)

theorem div_pow_len {b : Nat} (hb : 2 ≤ b) {n i : Nat} (h : (dig b n).length ≤ i) : n / b ^ i = 0 := by
  refine Nat.div_eq_of_lt (Nat.lt_of_lt_of_le (dig_len_lt hb) (Nat.pow_le_pow_right (by omega) h))

/-- n shifted right by 64 i + s, its low word: out of the words i and i + 1. -/
theorem win_of (n i s : Nat) (hs : s < 64) :
    n / 2 ^ (64 * i + s) % 18446744073709551616 =
      (n / 18446744073709551616 ^ i % 18446744073709551616) / 2 ^ s + 2 ^ (64 - s) * (n / 18446744073709551616 ^ (i + 1) % 18446744073709551616 % 2 ^ s) := by
  have e1 : (2 : Nat) ^ (64 * i) = 18446744073709551616 ^ i := by rw [Nat.pow_mul]
  have e2 : (18446744073709551616 : Nat) = 2 ^ s * 2 ^ (64 - s) := by rw [← Nat.pow_add, show s + (64 - s) = 64 by omega]
  rw [Nat.pow_add, e1, ← Nat.div_div_eq_div_mul, Nat.pow_succ, ← Nat.div_div_eq_div_mul]
  generalize n / 18446744073709551616 ^ i = m
  -- m = x + B (y + ..)
  have hx := Nat.mod_add_div m 18446744073709551616
  generalize hy : m / 18446744073709551616 = y at *
  generalize hxx : m % 18446744073709551616 = x at *
  have hxl : x < 18446744073709551616 := by omega
  have h2s : 0 < 2 ^ s := Nat.two_pow_pos s
  have h2t : 0 < 2 ^ (64 - s) := Nat.two_pow_pos _
  have hd : (2 ^ s : Nat) ∣ 18446744073709551616 := ⟨_, e2⟩
  have a1 : m / 2 ^ s = x / 2 ^ s + 2 ^ (64 - s) * y := by
    rw [← hx]
    have : 18446744073709551616 * y = 2 ^ s * (2 ^ (64 - s) * y) := by rw [← Nat.mul_assoc, ← e2]
    rw [this, Nat.add_mul_div_left _ _ h2s]
  have a3 : y % 18446744073709551616 % 2 ^ s = y % 2 ^ s := Nat.mod_mod_of_dvd y hd
  have a2 : x / 2 ^ s < 2 ^ (64 - s) := by
    rw [Nat.div_lt_iff_lt_mul h2s, Nat.mul_comm, ← e2]; exact hxl
  rw [a1, a3]
  have a4 : 2 ^ (64 - s) * y = 18446744073709551616 * (y / 2 ^ s) + 2 ^ (64 - s) * (y % 2 ^ s) := by
    have h := Nat.mod_add_div y (2 ^ s)
    have h2 : 2 ^ (64 - s) * y = 2 ^ (64 - s) * (y % 2 ^ s) + 2 ^ (64 - s) * (2 ^ s * (y / 2 ^ s)) := by rw [← Nat.mul_add, h]
    have h3 : 2 ^ (64 - s) * (2 ^ s * (y / 2 ^ s)) = 18446744073709551616 * (y / 2 ^ s) := by
      rw [← Nat.mul_assoc, Nat.mul_comm (2 ^ (64 - s)) (2 ^ s), ← e2]
    omega
  rw [a4]
  have a5 : y % 2 ^ s < 2 ^ s := Nat.mod_lt _ h2s
  have a6 : x / 2 ^ s + 2 ^ (64 - s) * (y % 2 ^ s) < 18446744073709551616 := by
    have : 2 ^ (64 - s) * (y % 2 ^ s + 1) ≤ 2 ^ (64 - s) * 2 ^ s := Nat.mul_le_mul_left _ a5
    rw [Nat.mul_comm (2 ^ (64 - s)) (2 ^ s), ← e2, Nat.mul_add] at this
    omega
  rw [show x / 2 ^ s + (18446744073709551616 * (y / 2 ^ s) + 2 ^ (64 - s) * (y % 2 ^ s)) = (x / 2 ^ s + 2 ^ (64 - s) * (y % 2 ^ s)) + 18446744073709551616 * (y / 2 ^ s) by omega, Nat.add_mul_mod_self_left]
  exact Nat.mod_eq_of_lt a6

theorem mul_pow_mod (y s : Nat) (hs : s < 64) : y * 2 ^ (64 - s) % 18446744073709551616 = 2 ^ (64 - s) * (y % 2 ^ s) := by
  have e2 : (18446744073709551616 : Nat) = 2 ^ (64 - s) * 2 ^ s := by rw [← Nat.pow_add, show 64 - s + s = 64 by omega]
  rw [Nat.mul_comm y, e2, Nat.mul_mod_mul_left]

/-- What the walk shows of a window over two words. -/
theorem win_bits (x y s : Nat) (hx : x < 18446744073709551616) (hs : s < 64) :
    bits .or .u64 ((x : Int) / 2 ^ s) (IntKind.u64.wrap ((y : Int) * 2 ^ (64 - s))) = ((x / 2 ^ s + 2 ^ (64 - s) * (y % 2 ^ s) : Nat) : Int) := by
  have e2 : (18446744073709551616 : Nat) = 2 ^ s * 2 ^ (64 - s) := by rw [← Nat.pow_add, show s + (64 - s) = 64 by omega]
  have h2s : 0 < 2 ^ s := Nat.two_pow_pos s
  have c1 : ((x : Int) / 2 ^ s) = ((x / 2 ^ s : Nat) : Int) := by push_cast; rfl
  have c2 : IntKind.u64.wrap ((y : Int) * 2 ^ (64 - s)) = ((2 ^ (64 - s) * (y % 2 ^ s) : Nat) : Int) := by
    rw [IntKind.wrap_u64, ← mul_pow_mod y s hs, Int.natCast_emod, Int.natCast_mul, Int.natCast_pow]; rfl
  have a2 : x / 2 ^ s < 2 ^ (64 - s) := by
    rw [Nat.div_lt_iff_lt_mul h2s, Nat.mul_comm, ← e2]; exact hx
  have a5 : y % 2 ^ s < 2 ^ s := Nat.mod_lt _ h2s
  have a6 : 2 ^ (64 - s) * (y % 2 ^ s) < 18446744073709551616 := by rw [← mul_pow_mod y s hs]; exact Nat.mod_lt _ (by omega)
  have a7 : x / 2 ^ s < 18446744073709551616 := Nat.lt_of_le_of_lt (Nat.div_le_self _ _) hx
  rw [c1, c2, bits_or_u64_nat _ _ a7 a6, Nat.or_comm, ← Nat.two_pow_add_eq_or_of_lt a2, Nat.add_comm]

end Go.Proofs.Num
namespace Go.Proofs.Num
/-- How many binary digits a number has. -/
def nbits (n : Nat) : Nat := if n = 0 then 0 else n.log2 + 1
theorem nbits_zero : nbits 0 = 0 := rfl
theorem nbits_pos {n : Nat} (h : n ≠ 0) : nbits n = n.log2 + 1 := by unfold nbits; rw [if_neg h]
theorem nbits_lt (n : Nat) : n < 2 ^ nbits n := by
  by_cases h : n = 0
  · subst h; simp [nbits]
  · rw [nbits_pos h]; exact Nat.lt_log2_self
theorem nbits_ge {n : Nat} (h : n ≠ 0) : 2 ^ (nbits n - 1) ≤ n := by
  rw [nbits_pos h]; exact Nat.log2_self_le h
theorem nbits_eq {n k : Nat} (h1 : 2 ^ k ≤ n) (h2 : n < 2 ^ (k + 1)) : nbits n = k + 1 := by
  have h0 : n ≠ 0 := by have := Nat.two_pow_pos k; omega
  rw [nbits_pos h0, (Nat.log2_eq_iff h0).2 ⟨h1, h2⟩]
theorem nbits_shift {n k : Nat} (h : n / 2 ^ k ≠ 0) : nbits n = k + nbits (n / 2 ^ k) := by
  have hp := Nat.two_pow_pos k
  have h1 := nbits_ge h
  have h2 := nbits_lt (n / 2 ^ k)
  have h3 : nbits (n / 2 ^ k) = (n / 2 ^ k).log2 + 1 := nbits_pos h
  generalize nbits (n / 2 ^ k) = m at *
  obtain ⟨m, rfl⟩ : ∃ j, m = j + 1 := ⟨(n / 2 ^ k).log2, h3⟩
  rw [show k + (m + 1) = (k + m) + 1 by omega]
  refine nbits_eq ?_ ?_
  · rw [Nat.pow_add, Nat.mul_comm]; exact (Nat.le_div_iff_mul_le hp).1 (by simpa using h1)
  · rw [show k + m + 1 = (m + 1) + k by omega, Nat.pow_add]; exact (Nat.div_lt_iff_lt_mul hp).1 h2
theorem nbits_le {n k : Nat} (h : n < 2 ^ k) : nbits n ≤ k := by
  by_cases h0 : n = 0
  · subst h0; simp [nbits]
  · have h1 := nbits_ge h0
    rcases Nat.lt_or_ge k (nbits n) with hk | hk
    · have := Nat.pow_le_pow_right (show 0 < 2 by omega) (show k ≤ nbits n - 1 by omega)
      omega
    · exact hk
theorem lt_of_nbits {n k : Nat} (h : nbits n ≤ k) : n < 2 ^ k := Nat.lt_of_lt_of_le (nbits_lt n) (Nat.pow_le_pow_right (by omega) h)

theorem bitLen_nbits (x : Nat) (h : x < 2 ^ 64) : Lib.bitLen x = nbits x := by
  induction x using Nat.strongRecOn with
  | ind x ih =>
    by_cases h0 : x = 0
    · subst h0; decide
    · rw [Lib.bitLen_half x h0 h, ih (x / 2) (by omega) (by omega)]
      by_cases h2 : x / 2 = 0
      · have : x = 1 := by omega
        subst this; decide
      · rw [nbits_shift (n := x) (k := 1) (by simpa using h2)]

/-- The binary digits of a number in words: out of its last word. -/
theorem nbits_words {n L v : Nat} (hL : (dig 18446744073709551616 n).length = L + 1) (hv : (dig 18446744073709551616 n)[L]? = some v) : nbits n = 64 * L + nbits v := by
  have e := dig_getElem? (b := 18446744073709551616) (by omega) hv
  have h1 := dig_len_lt (b := 18446744073709551616) (n := n) (by omega)
  have h2 := dig_len_ge (b := 18446744073709551616) (n := n) (by omega) (by omega)
  rw [hL] at h1 h2
  simp only [Nat.add_sub_cancel] at h2
  have hp : 0 < 18446744073709551616 ^ L := Nat.pow_pos (by omega)
  have h3 : n / 18446744073709551616 ^ L < 18446744073709551616 := by
    rw [Nat.div_lt_iff_lt_mul hp, Nat.mul_comm, ← Nat.pow_succ]; exact h1
  have h4 : n / 18446744073709551616 ^ L ≠ 0 := by
    intro h0
    rcases Nat.div_eq_zero_iff.1 h0 with h | h <;> omega
  rw [Nat.mod_eq_of_lt h3] at e
  have e1 : (2 : Nat) ^ (64 * L) = 18446744073709551616 ^ L := by rw [Nat.pow_mul]
  rw [e, ← e1]
  refine nbits_shift ?_
  rw [e1]; exact h4

/-- How two numbers compare. -/
def cmpN (m n : Nat) : Int := if m < n then -1 else if m = n then 0 else 1
theorem cmpN_lt {m n : Nat} (h : m < n) : cmpN m n = -1 := by unfold cmpN; rw [if_pos h]
theorem cmpN_eq (m : Nat) : cmpN m m = 0 := by unfold cmpN; rw [if_neg (by omega), if_pos rfl]
theorem cmpN_gt {m n : Nat} (h : n < m) : cmpN m n = 1 := by unfold cmpN; rw [if_neg (by omega), if_neg (by omega)]

theorem lt_of_len {b m n : Nat} (hb : 2 ≤ b) (h : (dig b m).length < (dig b n).length) : m < n := by
  have h1 := dig_len_lt hb (n := m)
  have h2 := dig_len_ge hb (n := n) (by omega)
  have := Nat.pow_le_pow_right (show 0 < b by omega) (show (dig b m).length ≤ (dig b n).length - 1 by omega)
  omega
theorem cmp_of_len {b m n : Nat} (hb : 2 ≤ b) (h : (dig b m).length ≠ (dig b n).length) : cmpN (dig b m).length (dig b n).length = cmpN m n := by
  rcases Nat.lt_or_gt_of_ne h with h | h
  · rw [cmpN_lt h, cmpN_lt (lt_of_len hb h)]
  · rw [cmpN_gt h, cmpN_gt (lt_of_len hb h)]
/-- Equal above digit i, which tells. -/
theorem lt_of_digit {b m n i x y : Nat} (hb : 2 ≤ b) (hx : (dig b m)[i]? = some x) (hy : (dig b n)[i]? = some y) (hd : m / b ^ (i + 1) = n / b ^ (i + 1)) (h : x < y) : m < n := by
  have e1 := dig_getElem? hb hx
  have e2 := dig_getElem? hb hy
  have hp : 0 < b ^ i := Nat.pow_pos (by omega)
  rw [Nat.pow_succ, ← Nat.div_div_eq_div_mul, ← Nat.div_div_eq_div_mul] at hd
  have f1 := Nat.mod_add_div (m / b ^ i) b
  have f2 := Nat.mod_add_div (n / b ^ i) b
  rw [← e1, hd] at f1
  rw [← e2] at f2
  have : m / b ^ i < n / b ^ i := by omega
  rcases Nat.lt_or_ge m n with hlt | hge
  · exact hlt
  · have := Nat.div_le_div_right (c := b ^ i) hge; omega
theorem eq_step {b m n i x : Nat} (hb : 2 ≤ b) (hx : (dig b m)[i]? = some x) (hy : (dig b n)[i]? = some x) (hd : m / b ^ (i + 1) = n / b ^ (i + 1)) : m / b ^ i = n / b ^ i := by
  have e1 := dig_getElem? hb hx
  have e2 := dig_getElem? hb hy
  rw [Nat.pow_succ, ← Nat.div_div_eq_div_mul, ← Nat.div_div_eq_div_mul] at hd
  have f1 := Nat.mod_add_div (m / b ^ i) b
  have f2 := Nat.mod_add_div (n / b ^ i) b
  rw [← e1, hd] at f1
  rw [← e2] at f2
  omega
end Go.Proofs.Num
