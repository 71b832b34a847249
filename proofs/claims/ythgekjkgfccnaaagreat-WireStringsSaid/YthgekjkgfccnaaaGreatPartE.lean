/- Part of the proof of WireStrings: RootLaws, DivLaws, Div64, SubSc, Est, DivSt, LongDiv. -/
import Derived.Test.YthgekjkgfccnaaaGreatPartB
import Derived.Test.YthgekjkgfccnaaaGreatPartC
/- Plain laws of roots: Newton's step from above. -/
namespace Go.Proofs.Num

/-- r is the integer part of the nth root of a. -/
def IsRoot (n a r : Nat) : Prop := r ^ n ≤ a ∧ a < (r + 1) ^ n

theorem pow_lt_iff {n x y : Nat} (h : x ^ n < y ^ n) : x < y := by
  rcases Nat.lt_or_ge x y with h1 | h1
  · exact h1
  · have := Nat.pow_le_pow_left h1 n; omega
theorem IsRoot.unique {n a r s : Nat} (h : IsRoot n a r) (k : IsRoot n a s) : r = s := by
  have h1 := pow_lt_iff (Nat.lt_of_le_of_lt h.1 k.2)
  have h2 := pow_lt_iff (Nat.lt_of_le_of_lt k.1 h.2)
  omega
theorem root_exists (n a : Nat) (hn : 0 < n) : ∃ r, IsRoot n a r := by
  induction a with
  | zero => exact ⟨0, by simp [IsRoot, Nat.zero_pow hn]⟩
  | succ a ih =>
    obtain ⟨r, h1, h2⟩ := ih
    by_cases h : a + 1 < (r + 1) ^ n
    · exact ⟨r, by omega, h⟩
    · refine ⟨r + 1, by omega, ?_⟩
      have : (r + 1) ^ n < (r + 1 + 1) ^ n := Nat.pow_lt_pow_left (by omega) (by omega)
      omega
/-- The root of the high part is the high part of the root. -/
theorem IsRoot.high {n a r : Nat} (h : IsRoot n a r) (l : Nat) : IsRoot n (a / 2 ^ (n * l)) (r / 2 ^ l) := by
  have hp : 0 < 2 ^ l := Nat.two_pow_pos l
  have e : 2 ^ (n * l) = (2 ^ l) ^ n := by rw [← Nat.pow_mul, Nat.mul_comm]
  have hq : 0 < (2 ^ l) ^ n := Nat.pow_pos hp
  rw [e]
  generalize 2 ^ l = P at *
  constructor
  · rw [Nat.le_div_iff_mul_le hq, ← Nat.mul_pow]
    exact Nat.le_trans (Nat.pow_le_pow_left (Nat.div_mul_le_self r P) n) h.1
  · rw [Nat.div_lt_iff_lt_mul hq, ← Nat.mul_pow]
    have h1 := Nat.lt_div_mul_add (a := r) hp
    refine Nat.lt_of_lt_of_le h.2 (Nat.pow_le_pow_left ?_ n)
    rw [Nat.add_mul, Nat.one_mul]
    omega

/-- The step does not go below the root. -/
theorem tangent {R x : Nat} (h : R ≤ x) (n : Nat) : (n + 1) * R * x ^ n ≤ R ^ (n + 1) + n * x ^ (n + 1) := by
  induction n with
  | zero => simp
  | succ n ih =>
    have h1 := Nat.mul_le_mul_right x ih
    have h2 : R ^ (n + 1) * x + R * x ^ (n + 1) ≤ R ^ (n + 1) * R + x ^ (n + 1) * x := by
      have hp : R ^ (n + 1) ≤ x ^ (n + 1) := Nat.pow_le_pow_left h _
      obtain ⟨d, rfl⟩ : ∃ d, x = R + d := ⟨x - R, by omega⟩
      generalize (R + d) ^ (n + 1) = X at *
      generalize R ^ (n + 1) = Y at *
      have := Nat.mul_le_mul_right d hp
      rw [Nat.mul_add, Nat.mul_add, Nat.mul_comm R X]
      omega
    have e1 : (n + 1) * R * x ^ n * x = (n + 1) * (R * x ^ (n + 1)) := by rw [Nat.pow_succ]; grind
    have e2 : (R ^ (n + 1) + n * x ^ (n + 1)) * x = R ^ (n + 1) * x + n * (x ^ (n + 1) * x) := by grind
    have e3 : (n + 1 + 1) * R * x ^ (n + 1) = (n + 1) * (R * x ^ (n + 1)) + R * x ^ (n + 1) := by grind
    have e4 : R ^ (n + 1 + 1) + (n + 1) * x ^ (n + 1 + 1) = R ^ (n + 1) * R + (n * (x ^ (n + 1) * x) + x ^ (n + 1) * x) := by rw [Nat.pow_succ R, Nat.pow_succ x]; grind
    rw [e1, e2] at h1
    rw [e3, e4]
    omega
theorem newton_ge {a n R x : Nat} (h : R ^ (n + 1) ≤ a) (hx : R ≤ x) (hx0 : 0 < x) : R ≤ (n * x + a / x ^ n) / (n + 1) := by
  rw [Nat.le_div_iff_mul_le (by omega)]
  have hp : 0 < x ^ n := Nat.pow_pos hx0
  have t := tangent hx n
  have e : n * x ^ (n + 1) = n * x * x ^ n := by rw [Nat.pow_succ]; grind
  rw [e] at t
  rcases Nat.lt_or_ge (n * x) (R * (n + 1)) with h1 | h1
  · obtain ⟨d, hd⟩ : ∃ d, R * (n + 1) = n * x + d := ⟨R * (n + 1) - n * x, by omega⟩
    have h2 : d ≤ a / x ^ n := by
      rw [Nat.le_div_iff_mul_le hp]
      have e2 : (n + 1) * R * x ^ n = n * x * x ^ n + d * x ^ n := by rw [Nat.mul_comm (n + 1), hd, Nat.add_mul]
      rw [e2, Nat.add_comm (R ^ (n + 1))] at t
      exact Nat.le_trans (Nat.le_of_add_le_add_left t) h
    rw [hd]
    exact Nat.add_le_add_left h2 _
  · exact Nat.le_trans h1 (Nat.le_add_right _ _)

/-- Three terms of the binomial. -/
theorem binom3 (S y m : Nat) : S ^ m * (2 * S * S + 2 * m * S * y + m * (m - 1) * y * y) ≤ 2 * S * S * (S + y) ^ m := by
  induction m with
  | zero => simp
  | succ m ih =>
    have h1 := Nat.mul_le_mul_right (S + y) ih
    have e1 : 2 * S * S * (S + y) ^ m * (S + y) = 2 * S * S * (S + y) ^ (m + 1) := by rw [Nat.pow_succ]; grind
    rw [e1] at h1
    refine Nat.le_trans ?_ h1
    have e2 : (m + 1) * (m + 1 - 1) = m * (m - 1) + 2 * m := by
      cases m with
      | zero => rfl
      | succ k => simp only [Nat.add_sub_cancel]; grind
    rw [e2]
    generalize m * (m - 1) = c at *
    rw [Nat.pow_succ, Nat.mul_assoc (S ^ m), Nat.mul_assoc (S ^ m)]
    refine Nat.mul_le_mul_left _ ?_
    have e3 : (2 * S * S + 2 * m * S * y + c * y * y) * (S + y) = S * (2 * S * S + 2 * (m + 1) * S * y + (c + 2 * m) * y * y) + c * y * y * y := by grind
    rw [e3]
    exact Nat.le_add_right _ _
theorem newton_key {S y m : Nat} (hS : 0 < S) (h : m * (y * y) ≤ 2 * S) : m * y ≤ S + m ∧ S ^ (m + 1) ≤ (S + m + 1 - m * y) * (S + y) ^ m := by
  have hmy : m * y ≤ S + m := by
    rcases Nat.lt_or_ge y 2 with h1 | h1
    · have : m * y ≤ m * 1 := Nat.mul_le_mul_left _ (by omega); omega
    · have h2 : m * (2 * y) ≤ m * (y * y) := Nat.mul_le_mul_left _ (Nat.mul_le_mul_right _ h1)
      have e : m * (2 * y) = 2 * (m * y) := by grind
      omega
  refine ⟨hmy, ?_⟩
  obtain ⟨F, hF⟩ : ∃ F, S + m + 1 = F + m * y := ⟨S + m + 1 - m * y, by omega⟩
  rw [hF, Nat.add_sub_cancel]
  have hb := binom3 S y m
  obtain ⟨A, hA⟩ : ∃ A, 2 * S * S + 2 * m * S * y + m * (m - 1) * y * y = A := ⟨_, rfl⟩
  rw [hA] at hb
  have key : 2 * S * S * S ≤ F * A := by
    cases m with
    | zero =>
      simp at hA hF
      rw [← hA, ← hF]
      have : 2 * S * S * S ≤ (S + 1) * (2 * S * S) := by rw [Nat.add_mul, Nat.mul_comm S]; omega
      omega
    | succ k =>
      simp only [Nat.add_sub_cancel] at hA
      have g1 : (k + 1) * (y * y) * ((k + 2) * S) ≤ 2 * S * ((k + 2) * S) := Nat.mul_le_mul_right _ h
      have g2 : (k + 1) * (y * y) * ((k + 1) * k * y) ≤ 2 * S * ((k + 1) * k * y) := Nat.mul_le_mul_right _ h
      have e1 : (S + (k + 1) + 1) * A = (F + (k + 1) * y) * A := by rw [hF]
      have e2 : (S + (k + 1) + 1) * A = 2 * S * S * S + (k + 1) * y * A + (2 * S * ((k + 2) * S) + 2 * (k + 1) * (k + 2) * S * y + (k + 1) * k * (k + 2) * y * y) - ((k + 1) * (y * y) * ((k + 2) * S) + (k + 1) * (y * y) * ((k + 1) * k * y)) := by
        have : (S + (k + 1) + 1) * A + ((k + 1) * (y * y) * ((k + 2) * S) + (k + 1) * (y * y) * ((k + 1) * k * y)) = 2 * S * S * S + (k + 1) * y * A + (2 * S * ((k + 2) * S) + 2 * (k + 1) * (k + 2) * S * y + (k + 1) * k * (k + 2) * y * y) := by rw [← hA]; grind
        omega
      have g3 : 2 * S * ((k + 1) * k * y) ≤ 2 * (k + 1) * (k + 2) * S * y := by
        have e : 2 * S * ((k + 1) * k * y) = 2 * (k + 1) * k * S * y := by grind
        rw [e]
        exact Nat.mul_le_mul_right _ (Nat.mul_le_mul_right _ (Nat.mul_le_mul_left _ (by omega)))
      rw [Nat.add_mul F] at e1
      omega
  have h3 : S ^ m * (2 * S * S * S) ≤ F * (2 * S * S * (S + y) ^ m) := by
    have a1 := Nat.mul_le_mul_left (S ^ m) key
    have a2 := Nat.mul_le_mul_left F hb
    have e : S ^ m * (F * A) = F * (S ^ m * A) := by grind
    omega
  have e1 : S ^ m * (2 * S * S * S) = 2 * S * S * S ^ (m + 1) := by rw [Nat.pow_succ]; grind
  have e2 : F * (2 * S * S * (S + y) ^ m) = 2 * S * S * (F * (S + y) ^ m) := by grind
  rw [e1, e2] at h3
  exact Nat.le_of_mul_le_mul_left h3 (Nat.mul_pos (Nat.mul_pos (by omega) hS) hS)
/-- The step from near above goes at most one above. -/
theorem newton_le {a n R x : Nat} (h : a < (R + 1) ^ (n + 1)) (hx : R < x) (hy : n * ((x - (R + 1)) * (x - (R + 1))) ≤ 2 * (R + 1)) : (n * x + a / x ^ n) / (n + 1) ≤ R + 1 := by
  obtain ⟨y, rfl⟩ : ∃ y, x = R + 1 + y := ⟨x - (R + 1), by omega⟩
  rw [Nat.add_sub_cancel_left] at hy
  obtain ⟨k1, k2⟩ := newton_key (S := R + 1) (by omega) hy
  generalize R + 1 = S at *
  have hp : 0 < (S + y) ^ n := Nat.pow_pos (by omega)
  have h2 : a / (S + y) ^ n < S + n + 1 - n * y := Nat.div_lt_of_lt_mul (by rw [Nat.mul_comm]; omega)
  have h3 : n * (S + y) + a / (S + y) ^ n < (S + 1) * (n + 1) := by
    rw [Nat.mul_add]
    have : (S + 1) * (n + 1) = n * S + S + n + 1 := by grind
    omega
  have := (Nat.div_lt_iff_lt_mul (show 0 < n + 1 by omega)).2 h3
  omega
end Go.Proofs.Num

/- Plain laws of division by digits: no program, no memory. -/
namespace Go.Proofs.Num

/-- One digit of a quotient by halves of words: q is not too small, q and rest make the upper part. -/
structure DigSt (K y1 y0 U u q r : Nat) : Prop where
  eq : q * y1 + r = U
  up : U * K + u < (q + 1) * (y1 * K + y0)
  rl : r < K
  ql : q ≤ K + 1

theorem DigSt.start {K y1 y0 U u : Nat} (hy : K ≤ 2 * y1) (hy1 : y1 < K) (hy0 : y0 < K) (hU : U < y1 * K + y0) (hu : u < K) : DigSt K y1 y0 U u (U / y1) (U % y1) := by
  have hp : 0 < y1 := by omega
  have h1 := Nat.div_add_mod U y1
  have h2 := Nat.mod_lt U hp
  generalize U / y1 = q at *
  generalize U % y1 = r at *
  refine ⟨by rw [Nat.mul_comm]; exact h1, ?_, by omega, ?_⟩
  · have h3 : U + 1 ≤ (q + 1) * y1 := by rw [Nat.add_mul, Nat.mul_comm q]; omega
    have h4 : (U + 1) * K ≤ (q + 1) * y1 * K := Nat.mul_le_mul_right _ h3
    rw [Nat.add_mul] at h4
    have h5 : (q + 1) * (y1 * K + y0) = (q + 1) * y1 * K + (q + 1) * y0 := by rw [Nat.mul_add, Nat.mul_assoc]
    omega
  · rcases Nat.lt_or_ge (K + 1) q with h | h
    · exfalso
      have h3 : (K + 2) * y1 ≤ q * y1 := Nat.mul_le_mul_right _ h
      rw [Nat.add_mul, Nat.mul_comm K] at h3
      rw [Nat.mul_comm] at h1
      omega
    · exact h

/-- The test of a digit that is below the base. -/
theorem DigSt.test {K y1 y0 U u q r : Nat} (h : DigSt K y1 y0 U u q r) : r * K + u < q * y0 ↔ U * K + u < q * (y1 * K + y0) := by
  have e : q * (y1 * K + y0) = q * y1 * K + q * y0 := by rw [Nat.mul_add, Nat.mul_assoc]
  have e2 : U * K = q * y1 * K + r * K := by rw [← h.eq, Nat.add_mul]
  omega
theorem DigSt.pos {K y1 y0 U u q : Nat} (h : U * K + u < q * (y1 * K + y0)) : 0 < q := by
  rcases Nat.eq_zero_or_pos q with h0 | h0
  · subst h0; simp at h
  · exact h0
/-- A digit that is not below the base is too great. -/
theorem DigSt.big {K y1 y0 U u q : Nat} (hU : U < y1 * K + y0) (hu : u < K) (hq : K ≤ q) : U * K + u < q * (y1 * K + y0) := by
  have h1 : (U + 1) * K ≤ (y1 * K + y0) * K := Nat.mul_le_mul_right _ hU
  have h2 : K * (y1 * K + y0) ≤ q * (y1 * K + y0) := Nat.mul_le_mul_right _ hq
  rw [Nat.add_mul] at h1
  rw [Nat.mul_comm] at h2
  omega
/-- One less, while the rest stays below the base. -/
theorem DigSt.step {K y1 y0 U u q r : Nat} (h : DigSt K y1 y0 U u q r) (hc : U * K + u < q * (y1 * K + y0)) (hr : r + y1 < K) : DigSt K y1 y0 U u (q - 1) (r + y1) := by
  have h0 := DigSt.pos hc
  obtain ⟨p, rfl⟩ : ∃ p, q = p + 1 := ⟨q - 1, by omega⟩
  have h1 := h.eq
  have h2 := h.ql
  refine ⟨?_, by simpa using hc, hr, by omega⟩
  rw [Nat.add_mul] at h1
  simp only [Nat.add_sub_cancel]
  omega
/-- The digit, its product with the divisor, and what is left. -/
def IsDig (Y A q : Nat) : Prop := q * Y ≤ A ∧ A < q * Y + Y
theorem IsDig.div {Y A q : Nat} (h : IsDig Y A q) : A / Y = q ∧ A % Y = A - q * Y := by
  obtain ⟨h1, h2⟩ := h
  have hY : 0 < Y := by omega
  obtain ⟨r, rfl⟩ : ∃ r, A = q * Y + r := ⟨A - q * Y, by omega⟩
  have hr : r < Y := by omega
  rw [Nat.mul_comm q Y, Nat.mul_add_div hY, Nat.div_eq_of_lt hr, Nat.mul_add_mod, Nat.mod_eq_of_lt hr]
  omega
theorem DigSt.good {K y1 y0 U u q r : Nat} (h : DigSt K y1 y0 U u q r) (hc : ¬ U * K + u < q * (y1 * K + y0)) : IsDig (y1 * K + y0) (U * K + u) q := by
  have := h.up
  rw [Nat.add_mul, Nat.one_mul] at this
  exact ⟨by omega, this⟩
/-- .. or until the rest leaves the base: then the digit is right. -/
theorem DigSt.leave {K y1 y0 U u q r : Nat} (h : DigSt K y1 y0 U u q r) (hc : U * K + u < q * (y1 * K + y0)) (hy0 : y0 < K) (hr : K ≤ r + y1) : IsDig (y1 * K + y0) (U * K + u) (q - 1) := by
  have h0 := DigSt.pos hc
  obtain ⟨p, rfl⟩ : ∃ p, q = p + 1 := ⟨q - 1, by omega⟩
  have h1 := h.eq
  have h2 := h.ql
  simp only [Nat.add_sub_cancel]
  rw [Nat.add_mul] at h1
  refine ⟨?_, by rw [Nat.add_mul, Nat.one_mul] at hc; exact hc⟩
  have e : p * (y1 * K + y0) = p * y1 * K + p * y0 := by rw [Nat.mul_add, Nat.mul_assoc]
  have e2 : U * K = p * y1 * K + (r + y1) * K := by rw [← Nat.add_mul]; congr 1; omega
  have e3 : K * K ≤ (r + y1) * K := Nat.mul_le_mul_right _ hr
  have e4 : p * y0 ≤ K * K := Nat.mul_le_mul (by omega) (by omega)
  omega

/-- Two digits make the quotient. -/
theorem two_digs {K Y U u1 u0 q1 q0 R1 : Nat} (h1 : IsDig Y (U * K + u1) q1) (hR : R1 = U * K + u1 - q1 * Y) (h0 : IsDig Y (R1 * K + u0) q0) :
    IsDig Y ((U * K + u1) * K + u0) (q1 * K + q0) ∧ (U * K + u1) * K + u0 - (q1 * K + q0) * Y = R1 * K + u0 - q0 * Y := by
  obtain ⟨a1, a2⟩ := h1
  obtain ⟨b1, b2⟩ := h0
  have e : (q1 * K + q0) * Y = q1 * Y * K + q0 * Y := by rw [Nat.add_mul, Nat.mul_right_comm]
  have e2 : (U * K + u1) * K = R1 * K + q1 * Y * K := by rw [← Nat.add_mul]; congr 1; omega
  refine ⟨⟨?_, ?_⟩, ?_⟩ <;> omega

/-- Estimate of a digit by the first two words of the divisor: right, or one too great. -/
theorem est_le {D2 T3 E rest restb Bn A q d : Nat} (hA : A = T3 * E + rest) (hb : Bn = D2 * E + restb) (hr : rest < E) (hq : q * Bn ≤ A) (hd : T3 < (d + 1) * D2) : q ≤ d := by
  rcases Nat.lt_or_ge d q with h | h
  · exfalso
    have h1 : (d + 1) * Bn ≤ q * Bn := Nat.mul_le_mul_right _ h
    have h2 : (d + 1) * Bn = (d + 1) * D2 * E + (d + 1) * restb := by rw [hb, Nat.mul_add, Nat.mul_assoc]
    have h3 : (T3 + 1) * E ≤ (d + 1) * D2 * E := Nat.mul_le_mul_right _ hd
    rw [Nat.add_mul] at h3
    omega
  · exact h
theorem est_ge {D2 T3 E rest restb Bn A q d : Nat} (hA : A = T3 * E + rest) (hb : Bn = D2 * E + restb) (hrb : restb < E) (hq : A < q * Bn + Bn) (hd : d * D2 ≤ T3) (hle : d ≤ D2) : d ≤ q + 1 := by
  rcases Nat.lt_or_ge (q + 1) d with h | h
  · exfalso
    obtain ⟨c, rfl⟩ : ∃ c, d = c + 1 := ⟨d - 1, by omega⟩
    have h1 : (q + 1) * Bn ≤ c * Bn := Nat.mul_le_mul_right _ (by omega)
    rw [Nat.add_mul, Nat.one_mul] at h1
    have h2 : c * Bn ≤ c * ((D2 + 1) * E) := Nat.mul_le_mul_left _ (by rw [hb, Nat.add_mul]; omega)
    have h3 : c * ((D2 + 1) * E) ≤ T3 * E := by
      rw [← Nat.mul_assoc]
      refine Nat.mul_le_mul_right _ ?_
      rw [Nat.mul_add, Nat.mul_one]
      rw [Nat.add_mul, Nat.one_mul] at hd
      omega
    omega
  · exact h
/-- .. also where the first words are equal. -/
theorem est_top {B b1 E A Bn q : Nat} (hA : b1 * B * E ≤ A) (hb : Bn < (b1 + 1) * E) (hh : B ≤ 2 * b1) (hq : A < q * Bn + Bn) (hqB : q < B) : q ≤ B - 1 ∧ B - 1 ≤ q + 1 := by
  refine ⟨by omega, ?_⟩
  rcases Nat.lt_or_ge (q + 1) (B - 1) with h | h
  · exfalso
    obtain ⟨c, rfl⟩ : ∃ c, B = c + 2 := ⟨B - 2, by omega⟩
    have h1 : (q + 1) * Bn ≤ c * Bn := Nat.mul_le_mul_right _ (by omega)
    rw [Nat.add_mul, Nat.one_mul] at h1
    have h2 : c * Bn ≤ c * ((b1 + 1) * E) := Nat.mul_le_mul_left _ (by omega)
    have h3 : c * ((b1 + 1) * E) ≤ b1 * (c + 2) * E := by
      rw [← Nat.mul_assoc]
      refine Nat.mul_le_mul_right _ ?_
      rw [Nat.mul_add, Nat.mul_add, Nat.mul_one, Nat.mul_comm c b1]
      omega
    omega
  · exact h

end Go.Proofs.Num

namespace Go.Proofs.YthgekjkgfccnaaaGreat
open Go.RowKit Num

set_option maxHeartbeats 1000000 in
theorem lz_any (y : Nat) (hy : y < B64) (w : World) : Calls Tryz.prog 112 #[.int .u64 (y : Int)] w fun e w' => e = .returned (.int .i64 ((64 - nbits y : Nat) : Int)) ∧ w = w' := by
  have hl := fun w => len64_nat y w hy
  have hb := nbits_64 hy
  have e1 : (64 : Int) - (nbits y : Int) = ((64 - nbits y : Nat) : Int) := by omega
  have E1 := Lib.hid e1
  have HL := Lib.hid hl
  clear e1 hl
  generalize 64 - nbits y = s at *
  generalize nbits y = r at *
  go_enter Tryz.func112, Tryz.ntmps112
  go_wp2_with (go_at_call 116; refine (HL.out _).mono ?_; rintro e w1 ⟨rfl, rfl⟩)
  go_ret
  exact ⟨ret_i E1.out, rfl⟩

/-- What Div64 makes of its arguments before it divides: under names, as the walk shows them. -/
theorem pre_ex (hi lo y s : Nat) (hhi : hi < y) (hlo : lo < B64) (hs : s < 64) (hyn : B64 ≤ 2 * (y * 2 ^ s)) (hyn2 : y * 2 ^ s < B64) : ∃ Y y1 y0 h l1 U l0 u1 u0 : Nat,
    IntKind.u64.wrap ((y : Int) * 2 ^ s) = (Y : Int) ∧ (Y : Int) / 4294967296 = (y1 : Int) ∧ bits .and .u64 (Y : Int) 4294967295 = (y0 : Int) ∧
    IntKind.u64.wrap ((hi : Int) * 2 ^ s) = (h : Int) ∧ (lo : Int) / 2 ^ (64 - s) = (l1 : Int) ∧ bits .or .u64 (h : Int) (l1 : Int) = (U : Int) ∧
    IntKind.u64.wrap ((lo : Int) * 2 ^ s) = (l0 : Int) ∧ (l0 : Int) / 4294967296 = (u1 : Int) ∧ bits .and .u64 (l0 : Int) 4294967295 = (u0 : Int) ∧
    Y = y * 2 ^ s ∧ Y = y1 * 4294967296 + y0 ∧ y1 < 4294967296 ∧ y0 < 4294967296 ∧ 4294967296 ≤ 2 * y1 ∧ U < Y ∧ u1 < 4294967296 ∧ u0 < 4294967296 ∧
    (U * 4294967296 + u1) * 4294967296 + u0 = (hi * B64 + lo) * 2 ^ s := by
  have hw : ∀ v : Nat, v * 2 ^ s < B64 → IntKind.u64.wrap ((v : Int) * 2 ^ s) = ((v * 2 ^ s : Nat) : Int) := fun v hv => by
    have e : (v : Int) * 2 ^ s = ((v * 2 ^ s : Nat) : Int) := by rw [Int.natCast_mul, Int.natCast_pow]; rfl
    rw [e, IntKind.wrap_u64]; unfold B64 at hv; omega
  have hh : hi * 2 ^ s < y * 2 ^ s := Nat.mul_lt_mul_of_pos_right hhi (Nat.two_pow_pos s)
  have hl1 : lo / 2 ^ (64 - s) < 2 ^ s := by
    rw [Nat.div_lt_iff_lt_mul (Nat.two_pow_pos _), ← Nat.pow_add, show s + (64 - s) = 64 by omega]
    exact hlo
  have hor : bits .or .u64 ((hi * 2 ^ s : Nat) : Int) ((lo / 2 ^ (64 - s) : Nat) : Int) = ((hi * 2 ^ s + lo / 2 ^ (64 - s) : Nat) : Int) := by
    have h63 : 2 ^ s ≤ 2 ^ 63 := Nat.pow_le_pow_right (by omega) (by omega)
    rw [bits_or_u64_nat _ _ (by unfold B64 at *; omega) (by omega), Nat.mul_comm hi, ← Nat.two_pow_add_eq_or_of_lt hl1]
  have hl0 : IntKind.u64.wrap ((lo : Int) * 2 ^ s) = ((lo * 2 ^ s % 18446744073709551616 : Nat) : Int) := by
    rw [IntKind.wrap_u64, Int.natCast_emod, Int.natCast_mul, Int.natCast_pow]; rfl
  have hdm := Nat.div_add_mod (lo * 2 ^ s) 18446744073709551616
  rw [shl_div lo s hs] at hdm
  have hdl : (lo : Int) / 2 ^ (64 - s) = ((lo / 2 ^ (64 - s) : Nat) : Int) := by push_cast; rfl
  have hU : hi * 2 ^ s + lo / 2 ^ (64 - s) < y * 2 ^ s := by
    have h1 : (hi + 1) * 2 ^ s ≤ y * 2 ^ s := Nat.mul_le_mul_right _ hhi
    rw [Nat.add_mul] at h1; omega
  have hmul : (hi * B64 + lo) * 2 ^ s = hi * 2 ^ s * B64 + lo * 2 ^ s := by rw [Nat.add_mul, Nat.mul_right_comm]
  have hY := hw y hyn2
  have hH := hw hi (by omega)
  have hm1 := m_mask (y * 2 ^ s) hyn2
  have hm2 := m_mask (lo * 2 ^ s % 18446744073709551616) (Nat.mod_lt _ (by omega))
  have hd1 := m_div (y * 2 ^ s)
  have hd2 := m_div (lo * 2 ^ s % 18446744073709551616)
  have hml : lo * 2 ^ s % 18446744073709551616 < 18446744073709551616 := Nat.mod_lt _ (by omega)
  refine ⟨_, _, _, _, _, _, _, _, _, hY, hd1, hm1, hH, hdl, hor, hl0, hd2, hm2, rfl, ?_, ?_, Nat.mod_lt _ (by omega), ?_, hU, ?_, Nat.mod_lt _ (by omega), ?_⟩
  all_goals clear hY hH hm1 hm2 hd1 hd2 hor hl0 hdl hw
  · omega
  · unfold B64 at hyn2; omega
  · unfold B64 at hyn; omega
  · omega
  · rw [hmul, ← hdm]; unfold B64; omega

/-- One digit is found: what is left, as the walk shows it. -/
theorem left_ex {U u q Y : Nat} (h : IsDig Y (U * 4294967296 + u) q) (hY : Y < B64) : ∃ a1 a2 a3 R : Nat, IntKind.u64.wrap ((U : Int) * 4294967296) = (a1 : Int) ∧ IntKind.u64.wrap ((a1 : Int) + (u : Int)) = (a2 : Int) ∧
    IntKind.u64.wrap ((q : Int) * (Y : Int)) = (a3 : Int) ∧ IntKind.u64.wrap ((a2 : Int) - (a3 : Int)) = (R : Int) ∧ R = U * 4294967296 + u - q * Y ∧ R < Y := by
  obtain ⟨h1, h2⟩ := h
  have hm := m_mul q Y
  generalize q * Y = Z at *
  unfold B64 at hY
  refine ⟨U * 4294967296 % 18446744073709551616, (U * 4294967296 + u) % 18446744073709551616, Z % 18446744073709551616, U * 4294967296 + u - Z, ?_, ?_, ?_, ?_, rfl, by omega⟩
  · rw [IntKind.wrap_u64]; omega
  · rw [IntKind.wrap_u64]; omega
  · rw [hm, IntKind.wrap_u64]; omega
  · rw [IntKind.wrap_u64]; omega

/-- The first guess of a digit. -/
theorem guess_ex (U y1 : Nat) (hU : U < B64) (hy : 0 < y1) : ∃ q r p : Nat, (U : Int) / (y1 : Int) = (q : Int) ∧ (U : Int).tdiv (y1 : Int) = (q : Int) ∧ IntKind.u64.wrap ((q : Int) * (y1 : Int)) = (p : Int) ∧ IntKind.u64.wrap ((U : Int) - (p : Int)) = (r : Int) ∧ IntKind.u64.wrap (q : Int) = (q : Int) ∧ q = U / y1 ∧ r = U % y1 ∧ ((y1 : Int) == 0) = false := by
  have h1 := Nat.div_add_mod U y1
  have hq : (U : Int) / (y1 : Int) = ((U / y1 : Nat) : Int) := (Int.natCast_ediv _ _).symm
  have hm := m_mul (U / y1) y1
  rw [Nat.mul_comm] at hm
  have hle := Nat.div_le_self U y1
  refine ⟨U / y1, U % y1, y1 * (U / y1), hq, ?_, ?_, ?_, ?_, rfl, rfl, by simp; omega⟩
  · rw [Int.tdiv_eq_ediv_of_nonneg (by omega)]; exact hq
  · rw [hm, IntKind.wrap_u64]; generalize y1 * (U / y1) = z at *; unfold B64 at hU; omega
  · clear hm hq; generalize y1 * (U / y1) = z at *; rw [IntKind.wrap_u64]; unfold B64 at hU; omega
  · clear hm hq h1; generalize U / y1 = z at *; rw [IntKind.wrap_u64]; unfold B64 at hU; omega

/-- The test of a digit that is below the base, as the walk shows it. -/
theorem test_ex (q y0 r u : Nat) (hq : q < 4294967296) (hy : y0 < 4294967296) (hr : r < 4294967296) (hu : u < 4294967296) : ∃ z1 z2 z3 : Nat,
    IntKind.u64.wrap ((q : Int) * (y0 : Int)) = (z1 : Int) ∧ IntKind.u64.wrap (4294967296 * (r : Int)) = (z2 : Int) ∧ IntKind.u64.wrap ((z2 : Int) + (u : Int)) = (z3 : Int) ∧ (z3 < z1 ↔ r * 4294967296 + u < q * y0) := by
  have h := Lib.half_mul_le (a := q) (b := y0) (by omega) (by omega)
  have hm := m_mul q y0
  generalize q * y0 = z at *
  refine ⟨z, r * 4294967296, r * 4294967296 + u, ?_, ?_, ?_, Iff.rfl⟩
  · rw [hm, IntKind.wrap_u64]; omega
  · rw [IntKind.wrap_u64]; omega
  · rw [IntKind.wrap_u64]; omega
theorem down_ex (q r y1 : Nat) (h0 : 0 < q) (hq : q ≤ 4294967297) (hr : r < 4294967296) (hy : y1 < 4294967296) : ∃ q' r' : Nat, IntKind.u64.wrap ((q : Int) - 1) = (q' : Int) ∧ IntKind.u64.wrap ((r : Int) + (y1 : Int)) = (r' : Int) ∧ q' = q - 1 ∧ r' = r + y1 := by
  refine ⟨q - 1, r + y1, ?_, ?_, rfl, rfl⟩
  · rw [IntKind.wrap_u64]; omega
  · rw [IntKind.wrap_u64]; omega
theorem fin_ex {Y U u1 u0 q1 q0 R1 s y N : Nat} (h1 : IsDig Y (U * 4294967296 + u1) q1) (hR : R1 = U * 4294967296 + u1 - q1 * Y) (h0 : IsDig Y (R1 * 4294967296 + u0) q0) (hU : U < Y) (hu1 : u1 < 4294967296) (hu0 : u0 < 4294967296) (hY : Y = y * 2 ^ s)
    (hN : (U * 4294967296 + u1) * 4294967296 + u0 = N * 2 ^ s) (R0 : Nat) (hR0 : R0 = R1 * 4294967296 + u0 - q0 * Y) :
    ∃ b1 b2 c : Nat, IntKind.u64.wrap ((q1 : Int) * 4294967296) = (b1 : Int) ∧ IntKind.u64.wrap ((b1 : Int) + (q0 : Int)) = (b2 : Int) ∧ b2 = N / y ∧ (R0 : Int) / 2 ^ s = (c : Int) ∧ c = N % y := by
  obtain ⟨t1, t2⟩ := two_digs h1 hR h0
  have lt1 : q1 < 4294967296 := by
    rcases Nat.lt_or_ge q1 4294967296 with h | h
    · exact h
    · exfalso
      have a := Nat.mul_le_mul_right Y h
      have b := h1.1
      have c : (U + 1) * 4294967296 ≤ Y * 4294967296 := Nat.mul_le_mul_right _ hU
      omega
  have hR1 : R1 < Y := by have a := h1.1; have b := h1.2; omega
  have lt0 : q0 < 4294967296 := by
    rcases Nat.lt_or_ge q0 4294967296 with h | h
    · exact h
    · exfalso
      have a := Nat.mul_le_mul_right Y h
      have b := h0.1
      have c : (R1 + 1) * 4294967296 ≤ Y * 4294967296 := Nat.mul_le_mul_right _ hR1
      omega
  obtain ⟨d1, d2⟩ := t1.div
  rw [hN, hY] at d1 d2
  rw [Nat.mul_div_mul_right _ _ (Nat.two_pow_pos s)] at d1
  rw [Nat.mul_mod_mul_right] at d2
  rw [hN, ← hR0, hY] at t2
  refine ⟨q1 * 4294967296, q1 * 4294967296 + q0, N % y, ?_, ?_, d1.symm, ?_, rfl⟩
  · rw [IntKind.wrap_u64]; omega
  · rw [IntKind.wrap_u64]; omega
  · have e : R0 = N % y * 2 ^ s := t2.symm.trans d2.symm
    rw [e, Int.natCast_mul, Int.natCast_pow]
    exact Int.mul_ediv_cancel _ (by have := Int.pow_pos (n := 2) (m := s) (by omega); exact Int.ne_of_gt this)

set_option maxHeartbeats 1000000 in
set_option maxRecDepth 100000 in
theorem div64_small (lo y : Nat) (hlo : lo < B64) (hy0 : 0 < y) (w : World) :
    Calls Tryz.prog 125 #[.int .u64 0, .int .u64 (lo : Int), .int .u64 (y : Int)] w fun e w' => e = .returned (.tuple #[.int .u64 ((lo / y : Nat) : Int), .int .u64 ((lo % y : Nat) : Int)]) ∧ ∃ m, w' = w.drewN m := by
  have q0 : ((y : Int) == 0) = false := by simp; omega
  have q1 : ¬ (y : Int) ≤ 0 := by omega
  obtain ⟨a, ha⟩ : ∃ a, lo / y = a := ⟨_, rfl⟩
  obtain ⟨b, hb⟩ : ∃ b, lo % y = b := ⟨_, rfl⟩
  have hal : a < B64 := by rw [← ha]; exact Nat.lt_of_le_of_lt (Nat.div_le_self _ _) hlo
  have hbl : b < B64 := by rw [← hb]; exact Nat.lt_of_le_of_lt (Nat.mod_le _ _) hlo
  have w1 : (lo : Int) / (y : Int) = (a : Int) := by rw [← ha]; exact (Int.natCast_ediv _ _).symm
  have w2 : (lo : Int) % (y : Int) = (b : Int) := by rw [← hb]; exact (Int.natCast_emod _ _).symm
  have w3 : (lo : Int).tdiv (y : Int) = (a : Int) := by rw [Int.tdiv_eq_ediv_of_nonneg (by omega)]; exact w1
  have w4 : (lo : Int).tmod (y : Int) = (b : Int) := by rw [Int.tmod_eq_emod_of_nonneg (by omega)]; exact w2
  have w5 := m_in a hal
  have w6 := m_in b hbl
  rw [ha, hb]
  clear ha hb hal hbl
  go_enter Tryz.func125, Tryz.ntmps125
  go_wp2
  go_quiet (fail)
  go_wp2
  go_ret2
  exact ⟨rfl, _, rfl⟩

set_option maxHeartbeats 4000000 in
set_option maxRecDepth 100000 in
theorem div64_big (hi lo y : Nat) (hhi : hi < y) (h0 : 0 < hi) (hlo : lo < B64) (hy : y < B64) (w : World) :
    Calls Tryz.prog 125 #[.int .u64 (hi : Int), .int .u64 (lo : Int), .int .u64 (y : Int)] w fun e w' => e = .returned (.tuple #[.int .u64 (((hi * B64 + lo) / y : Nat) : Int), .int .u64 (((hi * B64 + lo) % y : Nat) : Int)]) ∧ w = w' := by
  have q0 : ((y : Int) == 0) = false := by simp; omega
  have q1 : ¬ (y : Int) ≤ (hi : Int) := by omega
  have q2 : ((hi : Int) == 0) = false := by simp; omega
  have hs : 64 - nbits y < 64 := by have := nbits_pos (n := y) (by omega); omega
  have hb1 := nbits_ge (n := y) (by omega)
  have hb2 := nbits_lt y
  have hb3 := nbits_64 hy
  have hyn : B64 ≤ 2 * (y * 2 ^ (64 - nbits y)) := by
    have h1 : 2 ^ (nbits y - 1) * 2 ^ (64 - nbits y) ≤ y * 2 ^ (64 - nbits y) := Nat.mul_le_mul_right _ hb1
    have hp := nbits_pos (n := y) (by omega)
    rw [← Nat.pow_add, show nbits y - 1 + (64 - nbits y) = 63 by omega] at h1
    have : B64 = 2 * 2 ^ 63 := by decide
    omega
  have hyn2 : y * 2 ^ (64 - nbits y) < B64 := by
    have h1 : y * 2 ^ (64 - nbits y) < 2 ^ nbits y * 2 ^ (64 - nbits y) := Nat.mul_lt_mul_of_pos_right hb2 (Nat.two_pow_pos _)
    rw [← Nat.pow_add, show nbits y + (64 - nbits y) = 64 by omega] at h1
    exact h1
  have hlz := fun w => lz_any y hy w
  generalize 64 - nbits y = s at *
  clear hb1 hb2 hb3
  obtain ⟨Y, y1, y0, h, l1, U, l0, u1, u0, p1, p2, p3, p4, p5, p6, p7, p8, p9, eY, eYY, hy1, hy0, hn1, hU, hu1, hu0, hN⟩ := pre_ex hi lo y s hhi hlo hs hyn hyn2
  have hYb : Y < B64 := by rw [eY]; exact hyn2
  obtain ⟨g, r, p, g1, g2, g3, g4, g5, eg, er, g6⟩ := guess_ex U y1 (Nat.lt_trans hU hYb) (by omega)
  have hst0 := DigSt.start (K := 4294967296) (y0 := y0) (U := U) (u := u1) hn1 hy1 hy0 (by rw [← eYY]; exact hU) hu1
  rw [← eg, ← er] at hst0
  obtain ⟨Q, hQ⟩ : ∃ Q, (hi * B64 + lo) / y = Q := ⟨_, rfl⟩
  obtain ⟨RR, hRR⟩ : ∃ RR, (hi * B64 + lo) % y = RR := ⟨_, rfl⟩
  rw [hQ, hRR]
  have HQ := Lib.hid hQ
  have HRR := Lib.hid hRR
  clear hQ hRR
  have HLZ := Lib.hid hlz
  have EY := Lib.hid eY
  have EYY := Lib.hid eYY
  have HN := Lib.hid hN
  have HS0 := Lib.hid hst0
  have hrl := hst0.rl
  have hql := hst0.ql
  clear hlz eY eYY hN hst0 eg er hyn hyn2
  go_enter Tryz.func125, Tryz.ntmps125
  go_wp2_with (go_at_call 112; refine (HLZ.out _).mono ?_; rintro e w1 ⟨rfl, rfl⟩)
  go_loop [15, 16] (fun a b => ∃ q r : Nat, a = .int .u64 (q : Int) ∧ b = .int .u64 (r : Int) ∧ DigSt 4294967296 y1 y0 U u1 q r) (fun a _ => (intOf a).toNat)
  case atStart => exact ⟨g, r, rfl, rfl, HS0.out⟩
  case round =>
    clear HS0
    obtain ⟨q1, r1, rfl, rfl, hst⟩ := hrel
    have hrl1 := hst.rl
    have hql1 := hst.ql
    by_cases hbig : 4294967296 ≤ q1
    · have hgt := DigSt.big (y1 := y1) (y0 := y0) (by rw [← EYY.out]; exact hU) hu1 hbig
      have hbI : decide ((4294967296 : Int) ≤ (q1 : Int)) = true := decide_eq_true (by omega)
      obtain ⟨qn, rn, d1, d2, e1, e2⟩ := down_ex q1 r1 y1 (DigSt.pos hgt) hql1 hrl1 hy1
      have hlt : qn < q1 := by have := DigSt.pos hgt; omega
      by_cases hbr : r1 + y1 < 4294967296
      · have hst' := hst.step hgt hbr
        rw [← e1, ← e2] at hst'
        have hrn : decide ((4294967296 : Int) ≤ (rn : Int)) = false := decide_eq_false (by omega)
        have HST := Lib.hid hst'
        clear hst' e1 e2 hst hgt hbr hbig
        go_wp2
        go_round
        case rel => exact ⟨qn, rn, rfl, rfl, HST.out⟩
        case measure => simp [intOf]; omega
      · have hd := hst.leave hgt hy0 (by omega)
        rw [← e1, ← EYY.out] at hd
        have hrn : decide ((4294967296 : Int) ≤ (rn : Int)) = true := decide_eq_true (by omega)
        clear e1 e2 hst hgt hbr hbig
        obtain ⟨a1, a2, a3, R1, i1, i2, i3, i4, iR, hR1⟩ := left_ex hd hYb
        obtain ⟨g', r', p', f1, f2, f3, f4, f5, fg, fr, f6⟩ := guess_ex R1 y1 (Nat.lt_trans hR1 hYb) (by omega)
        have hst1 := DigSt.start (K := 4294967296) (y0 := y0) (U := R1) (u := u0) hn1 hy1 hy0 (by rw [← EYY.out]; exact hR1) hu0
        rw [← fg, ← fr] at hst1
        have HD1 := Lib.hid hd
        have HR1E := Lib.hid iR
        have HS1 := Lib.hid hst1
        clear hd iR hst1 fg fr
        go_wp2
        go_loop [16, 18] (fun b a => ∃ q r : Nat, a = .int .u64 (q : Int) ∧ b = .int .u64 (r : Int) ∧ DigSt 4294967296 y1 y0 R1 u0 q r) (fun _ a => (intOf a).toNat)
        case atStart => exact ⟨g', r', rfl, rfl, HS1.out⟩
        case round =>
          clear HS1
          obtain ⟨q2, r2, rfl, rfl, hst⟩ := hrel
          have hrl2 := hst.rl
          have hql2 := hst.ql
          by_cases hbig : 4294967296 ≤ q2
          · have hgt := DigSt.big (y1 := y1) (y0 := y0) (by rw [← EYY.out]; exact hR1) hu0 hbig
            have hbI : decide ((4294967296 : Int) ≤ (q2 : Int)) = true := decide_eq_true (by omega)
            obtain ⟨qn, rn, d1, d2, e1, e2⟩ := down_ex q2 r2 y1 (DigSt.pos hgt) hql2 hrl2 hy1
            have hlt : qn < q2 := by have := DigSt.pos hgt; omega
            by_cases hbr : r2 + y1 < 4294967296
            · have hst' := hst.step hgt hbr
              rw [← e1, ← e2] at hst'
              have hrn : decide ((4294967296 : Int) ≤ (rn : Int)) = false := decide_eq_false (by omega)
              have HST := Lib.hid hst'
              clear hst' e1 e2 hst hgt hbr hbig
              go_wp2
              go_round
              case rel => exact ⟨qn, rn, rfl, rfl, HST.out⟩
              case measure => simp [intOf]; omega
            · have hd := hst.leave hgt hy0 (by omega)
              rw [← e1, ← EYY.out] at hd
              have hrn : decide ((4294967296 : Int) ≤ (rn : Int)) = true := decide_eq_true (by omega)
              clear e1 e2 hst hgt hbr hbig
              have HD1 := HD1
              obtain ⟨c1, c2, c3, R0, k1, k2, k3, k4, kR0, kR0l⟩ := left_ex hd hYb
              obtain ⟨b1, b2, cc, j1, j2, j3, j4, j5⟩ := fin_ex HD1.out HR1E.out hd hU hu1 hu0 EY.out HN.out R0 kR0
              obtain rfl : b2 = Q := j3.trans HQ.out
              obtain rfl : cc = RR := j5.trans HRR.out
              clear hd kR0 j3 j5
              go_wp2
              go_ret2
              exact ⟨rfl, rfl⟩
          · have hbI : decide ((4294967296 : Int) ≤ (q2 : Int)) = false := decide_eq_false (by omega)
            obtain ⟨z1, z2, z3, t1, t2, t3, t4⟩ := test_ex q2 y0 r2 u0 (by omega) hy0 hrl2 hu0
            by_cases htest : z3 < z1
            · have hgt := hst.test.1 (t4.1 htest)
              clear t4
              obtain ⟨qn, rn, d1, d2, e1, e2⟩ := down_ex q2 r2 y1 (DigSt.pos hgt) hql2 hrl2 hy1
              have hlt : qn < q2 := by have := DigSt.pos hgt; omega
              by_cases hbr : r2 + y1 < 4294967296
              · have hst' := hst.step hgt hbr
                rw [← e1, ← e2] at hst'
                have hrn : decide ((4294967296 : Int) ≤ (rn : Int)) = false := decide_eq_false (by omega)
                have HST := Lib.hid hst'
                clear hst' e1 e2 hst hgt hbr hbig
                go_wp2
                go_round
                case rel => exact ⟨qn, rn, rfl, rfl, HST.out⟩
                case measure => simp [intOf]; omega
              · have hd := hst.leave hgt hy0 (by omega)
                rw [← e1, ← EYY.out] at hd
                have hrn : decide ((4294967296 : Int) ≤ (rn : Int)) = true := decide_eq_true (by omega)
                clear e1 e2 hst hgt hbr hbig
                have HD1 := HD1
                obtain ⟨c1, c2, c3, R0, k1, k2, k3, k4, kR0, kR0l⟩ := left_ex hd hYb
                obtain ⟨b1, b2, cc, j1, j2, j3, j4, j5⟩ := fin_ex HD1.out HR1E.out hd hU hu1 hu0 EY.out HN.out R0 kR0
                obtain rfl : b2 = Q := j3.trans HQ.out
                obtain rfl : cc = RR := j5.trans HRR.out
                clear hd kR0 j3 j5
                go_wp2
                go_ret2
                exact ⟨rfl, rfl⟩
            · have hd := hst.good (fun h => htest (t4.2 (hst.test.2 h)))
              rw [← EYY.out] at hd
              clear t4 hst hbig
              have HD1 := HD1
              obtain ⟨c1, c2, c3, R0, k1, k2, k3, k4, kR0, kR0l⟩ := left_ex hd hYb
              obtain ⟨b1, b2, cc, j1, j2, j3, j4, j5⟩ := fin_ex HD1.out HR1E.out hd hU hu1 hu0 EY.out HN.out R0 kR0
              obtain rfl : b2 = Q := j3.trans HQ.out
              obtain rfl : cc = RR := j5.trans HRR.out
              clear hd kR0 j3 j5
              go_wp2
              go_ret2
              exact ⟨rfl, rfl⟩
    · have hbI : decide ((4294967296 : Int) ≤ (q1 : Int)) = false := decide_eq_false (by omega)
      obtain ⟨z1, z2, z3, t1, t2, t3, t4⟩ := test_ex q1 y0 r1 u1 (by omega) hy0 hrl1 hu1
      by_cases htest : z3 < z1
      · have hgt := hst.test.1 (t4.1 htest)
        clear t4
        obtain ⟨qn, rn, d1, d2, e1, e2⟩ := down_ex q1 r1 y1 (DigSt.pos hgt) hql1 hrl1 hy1
        have hlt : qn < q1 := by have := DigSt.pos hgt; omega
        by_cases hbr : r1 + y1 < 4294967296
        · have hst' := hst.step hgt hbr
          rw [← e1, ← e2] at hst'
          have hrn : decide ((4294967296 : Int) ≤ (rn : Int)) = false := decide_eq_false (by omega)
          have HST := Lib.hid hst'
          clear hst' e1 e2 hst hgt hbr hbig
          go_wp2
          go_round
          case rel => exact ⟨qn, rn, rfl, rfl, HST.out⟩
          case measure => simp [intOf]; omega
        · have hd := hst.leave hgt hy0 (by omega)
          rw [← e1, ← EYY.out] at hd
          have hrn : decide ((4294967296 : Int) ≤ (rn : Int)) = true := decide_eq_true (by omega)
          clear e1 e2 hst hgt hbr hbig
          obtain ⟨a1, a2, a3, R1, i1, i2, i3, i4, iR, hR1⟩ := left_ex hd hYb
          obtain ⟨g', r', p', f1, f2, f3, f4, f5, fg, fr, f6⟩ := guess_ex R1 y1 (Nat.lt_trans hR1 hYb) (by omega)
          have hst1 := DigSt.start (K := 4294967296) (y0 := y0) (U := R1) (u := u0) hn1 hy1 hy0 (by rw [← EYY.out]; exact hR1) hu0
          rw [← fg, ← fr] at hst1
          have HD1 := Lib.hid hd
          have HR1E := Lib.hid iR
          have HS1 := Lib.hid hst1
          clear hd iR hst1 fg fr
          go_wp2
          go_loop [16, 18] (fun b a => ∃ q r : Nat, a = .int .u64 (q : Int) ∧ b = .int .u64 (r : Int) ∧ DigSt 4294967296 y1 y0 R1 u0 q r) (fun _ a => (intOf a).toNat)
          case atStart => exact ⟨g', r', rfl, rfl, HS1.out⟩
          case round =>
            clear HS1
            obtain ⟨q2, r2, rfl, rfl, hst⟩ := hrel
            have hrl2 := hst.rl
            have hql2 := hst.ql
            by_cases hbig : 4294967296 ≤ q2
            · have hgt := DigSt.big (y1 := y1) (y0 := y0) (by rw [← EYY.out]; exact hR1) hu0 hbig
              have hbI : decide ((4294967296 : Int) ≤ (q2 : Int)) = true := decide_eq_true (by omega)
              obtain ⟨qn, rn, d1, d2, e1, e2⟩ := down_ex q2 r2 y1 (DigSt.pos hgt) hql2 hrl2 hy1
              have hlt : qn < q2 := by have := DigSt.pos hgt; omega
              by_cases hbr : r2 + y1 < 4294967296
              · have hst' := hst.step hgt hbr
                rw [← e1, ← e2] at hst'
                have hrn : decide ((4294967296 : Int) ≤ (rn : Int)) = false := decide_eq_false (by omega)
                have HST := Lib.hid hst'
                clear hst' e1 e2 hst hgt hbr hbig
                go_wp2
                go_round
                case rel => exact ⟨qn, rn, rfl, rfl, HST.out⟩
                case measure => simp [intOf]; omega
              · have hd := hst.leave hgt hy0 (by omega)
                rw [← e1, ← EYY.out] at hd
                have hrn : decide ((4294967296 : Int) ≤ (rn : Int)) = true := decide_eq_true (by omega)
                clear e1 e2 hst hgt hbr hbig
                have HD1 := HD1
                obtain ⟨c1, c2, c3, R0, k1, k2, k3, k4, kR0, kR0l⟩ := left_ex hd hYb
                obtain ⟨b1, b2, cc, j1, j2, j3, j4, j5⟩ := fin_ex HD1.out HR1E.out hd hU hu1 hu0 EY.out HN.out R0 kR0
                obtain rfl : b2 = Q := j3.trans HQ.out
                obtain rfl : cc = RR := j5.trans HRR.out
                clear hd kR0 j3 j5
                go_wp2
                go_ret2
                exact ⟨rfl, rfl⟩
            · have hbI : decide ((4294967296 : Int) ≤ (q2 : Int)) = false := decide_eq_false (by omega)
              obtain ⟨z1, z2, z3, t1, t2, t3, t4⟩ := test_ex q2 y0 r2 u0 (by omega) hy0 hrl2 hu0
              by_cases htest : z3 < z1
              · have hgt := hst.test.1 (t4.1 htest)
                clear t4
                obtain ⟨qn, rn, d1, d2, e1, e2⟩ := down_ex q2 r2 y1 (DigSt.pos hgt) hql2 hrl2 hy1
                have hlt : qn < q2 := by have := DigSt.pos hgt; omega
                by_cases hbr : r2 + y1 < 4294967296
                · have hst' := hst.step hgt hbr
                  rw [← e1, ← e2] at hst'
                  have hrn : decide ((4294967296 : Int) ≤ (rn : Int)) = false := decide_eq_false (by omega)
                  have HST := Lib.hid hst'
                  clear hst' e1 e2 hst hgt hbr hbig
                  go_wp2
                  go_round
                  case rel => exact ⟨qn, rn, rfl, rfl, HST.out⟩
                  case measure => simp [intOf]; omega
                · have hd := hst.leave hgt hy0 (by omega)
                  rw [← e1, ← EYY.out] at hd
                  have hrn : decide ((4294967296 : Int) ≤ (rn : Int)) = true := decide_eq_true (by omega)
                  clear e1 e2 hst hgt hbr hbig
                  have HD1 := HD1
                  obtain ⟨c1, c2, c3, R0, k1, k2, k3, k4, kR0, kR0l⟩ := left_ex hd hYb
                  obtain ⟨b1, b2, cc, j1, j2, j3, j4, j5⟩ := fin_ex HD1.out HR1E.out hd hU hu1 hu0 EY.out HN.out R0 kR0
                  obtain rfl : b2 = Q := j3.trans HQ.out
                  obtain rfl : cc = RR := j5.trans HRR.out
                  clear hd kR0 j3 j5
                  go_wp2
                  go_ret2
                  exact ⟨rfl, rfl⟩
              · have hd := hst.good (fun h => htest (t4.2 (hst.test.2 h)))
                rw [← EYY.out] at hd
                clear t4 hst hbig
                have HD1 := HD1
                obtain ⟨c1, c2, c3, R0, k1, k2, k3, k4, kR0, kR0l⟩ := left_ex hd hYb
                obtain ⟨b1, b2, cc, j1, j2, j3, j4, j5⟩ := fin_ex HD1.out HR1E.out hd hU hu1 hu0 EY.out HN.out R0 kR0
                obtain rfl : b2 = Q := j3.trans HQ.out
                obtain rfl : cc = RR := j5.trans HRR.out
                clear hd kR0 j3 j5
                go_wp2
                go_ret2
                exact ⟨rfl, rfl⟩
      · have hd := hst.good (fun h => htest (t4.2 (hst.test.2 h)))
        rw [← EYY.out] at hd
        clear t4 hst hbig
        obtain ⟨a1, a2, a3, R1, i1, i2, i3, i4, iR, hR1⟩ := left_ex hd hYb
        obtain ⟨g', r', p', f1, f2, f3, f4, f5, fg, fr, f6⟩ := guess_ex R1 y1 (Nat.lt_trans hR1 hYb) (by omega)
        have hst1 := DigSt.start (K := 4294967296) (y0 := y0) (U := R1) (u := u0) hn1 hy1 hy0 (by rw [← EYY.out]; exact hR1) hu0
        rw [← fg, ← fr] at hst1
        have HD1 := Lib.hid hd
        have HR1E := Lib.hid iR
        have HS1 := Lib.hid hst1
        clear hd iR hst1 fg fr
        go_wp2
        go_loop [16, 18] (fun b a => ∃ q r : Nat, a = .int .u64 (q : Int) ∧ b = .int .u64 (r : Int) ∧ DigSt 4294967296 y1 y0 R1 u0 q r) (fun _ a => (intOf a).toNat)
        case atStart => exact ⟨g', r', rfl, rfl, HS1.out⟩
        case round =>
          clear HS1
          obtain ⟨q2, r2, rfl, rfl, hst⟩ := hrel
          have hrl2 := hst.rl
          have hql2 := hst.ql
          by_cases hbig : 4294967296 ≤ q2
          · have hgt := DigSt.big (y1 := y1) (y0 := y0) (by rw [← EYY.out]; exact hR1) hu0 hbig
            have hbI : decide ((4294967296 : Int) ≤ (q2 : Int)) = true := decide_eq_true (by omega)
            obtain ⟨qn, rn, d1, d2, e1, e2⟩ := down_ex q2 r2 y1 (DigSt.pos hgt) hql2 hrl2 hy1
            have hlt : qn < q2 := by have := DigSt.pos hgt; omega
            by_cases hbr : r2 + y1 < 4294967296
            · have hst' := hst.step hgt hbr
              rw [← e1, ← e2] at hst'
              have hrn : decide ((4294967296 : Int) ≤ (rn : Int)) = false := decide_eq_false (by omega)
              have HST := Lib.hid hst'
              clear hst' e1 e2 hst hgt hbr hbig
              go_wp2
              go_round
              case rel => exact ⟨qn, rn, rfl, rfl, HST.out⟩
              case measure => simp [intOf]; omega
            · have hd := hst.leave hgt hy0 (by omega)
              rw [← e1, ← EYY.out] at hd
              have hrn : decide ((4294967296 : Int) ≤ (rn : Int)) = true := decide_eq_true (by omega)
              clear e1 e2 hst hgt hbr hbig
              have HD1 := HD1
              obtain ⟨c1, c2, c3, R0, k1, k2, k3, k4, kR0, kR0l⟩ := left_ex hd hYb
              obtain ⟨b1, b2, cc, j1, j2, j3, j4, j5⟩ := fin_ex HD1.out HR1E.out hd hU hu1 hu0 EY.out HN.out R0 kR0
              obtain rfl : b2 = Q := j3.trans HQ.out
              obtain rfl : cc = RR := j5.trans HRR.out
              clear hd kR0 j3 j5
              go_wp2
              go_ret2
              exact ⟨rfl, rfl⟩
          · have hbI : decide ((4294967296 : Int) ≤ (q2 : Int)) = false := decide_eq_false (by omega)
            obtain ⟨z1, z2, z3, t1, t2, t3, t4⟩ := test_ex q2 y0 r2 u0 (by omega) hy0 hrl2 hu0
            by_cases htest : z3 < z1
            · have hgt := hst.test.1 (t4.1 htest)
              clear t4
              obtain ⟨qn, rn, d1, d2, e1, e2⟩ := down_ex q2 r2 y1 (DigSt.pos hgt) hql2 hrl2 hy1
              have hlt : qn < q2 := by have := DigSt.pos hgt; omega
              by_cases hbr : r2 + y1 < 4294967296
              · have hst' := hst.step hgt hbr
                rw [← e1, ← e2] at hst'
                have hrn : decide ((4294967296 : Int) ≤ (rn : Int)) = false := decide_eq_false (by omega)
                have HST := Lib.hid hst'
                clear hst' e1 e2 hst hgt hbr hbig
                go_wp2
                go_round
                case rel => exact ⟨qn, rn, rfl, rfl, HST.out⟩
                case measure => simp [intOf]; omega
              · have hd := hst.leave hgt hy0 (by omega)
                rw [← e1, ← EYY.out] at hd
                have hrn : decide ((4294967296 : Int) ≤ (rn : Int)) = true := decide_eq_true (by omega)
                clear e1 e2 hst hgt hbr hbig
                have HD1 := HD1
                obtain ⟨c1, c2, c3, R0, k1, k2, k3, k4, kR0, kR0l⟩ := left_ex hd hYb
                obtain ⟨b1, b2, cc, j1, j2, j3, j4, j5⟩ := fin_ex HD1.out HR1E.out hd hU hu1 hu0 EY.out HN.out R0 kR0
                obtain rfl : b2 = Q := j3.trans HQ.out
                obtain rfl : cc = RR := j5.trans HRR.out
                clear hd kR0 j3 j5
                go_wp2
                go_ret2
                exact ⟨rfl, rfl⟩
            · have hd := hst.good (fun h => htest (t4.2 (hst.test.2 h)))
              rw [← EYY.out] at hd
              clear t4 hst hbig
              have HD1 := HD1
              obtain ⟨c1, c2, c3, R0, k1, k2, k3, k4, kR0, kR0l⟩ := left_ex hd hYb
              obtain ⟨b1, b2, cc, j1, j2, j3, j4, j5⟩ := fin_ex HD1.out HR1E.out hd hU hu1 hu0 EY.out HN.out R0 kR0
              obtain rfl : b2 = Q := j3.trans HQ.out
              obtain rfl : cc = RR := j5.trans HRR.out
              clear hd kR0 j3 j5
              go_wp2
              go_ret2
              exact ⟨rfl, rfl⟩

/-- Div64: the quotient and the remainder of two words by one that is above the first. -/
theorem div64_any (hi lo y : Nat) (hhi : hi < y) (hlo : lo < B64) (hy : y < B64) (w : World) :
    Calls Tryz.prog 125 #[.int .u64 (hi : Int), .int .u64 (lo : Int), .int .u64 (y : Int)] w fun e w' => e = .returned (.tuple #[.int .u64 (((hi * B64 + lo) / y : Nat) : Int), .int .u64 (((hi * B64 + lo) % y : Nat) : Int)]) ∧ ∃ m, w' = w.drewN m := by
  rcases Nat.eq_zero_or_pos hi with h | h
  · subst h
    have := div64_small lo y hlo hhi w
    rw [Nat.zero_mul, Nat.zero_add]
    exact this
  · exact (div64_big hi lo y hhi h hlo hy w).mono fun e w' ⟨h1, h2⟩ => ⟨h1, 0, h2.symm⟩
end Go.Proofs.YthgekjkgfccnaaaGreat

namespace Go.Proofs.Num
/-- The first k digits from off on, without m times xs; c is borrowed. -/
structure SubScSt (b : Nat) (zs xs : List Nat) (m off k : Nat) (zs' : List Nat) (c : Nat) : Prop where
  len : zs'.length = zs.length
  low : Low b zs'
  le : c < b
  far : ∀ i, i < off ∨ off + k ≤ i → zs'[i]? = zs[i]?
  eq : val b (seg zs' off k) + val b (xs.take k) * m = val b (seg zs off k) + b ^ k * c
theorem SubScSt.start {b : Nat} (hb : 2 ≤ b) {zs xs : List Nat} {m off : Nat} (hz : Low b zs) : SubScSt b zs xs m off 0 zs 0 :=
  ⟨rfl, hz, by omega, fun _ _ => rfl, by simp [seg_zero, val]⟩
theorem SubScSt.step {b : Nat} {zs xs zs' : List Nat} {m off k c v x lo hi : Nat} (h : SubScSt b zs xs m off k zs' c)
    (hv : zs'[off + k]? = some v) (hx : xs[k]? = some x) (hs : lo + x * m + c = v + b * hi) (hlo : lo < b) (hhi : hi < b) :
    SubScSt b zs xs m off (k + 1) (zs'.set (off + k) lo) hi := by
  have hk : off + k < zs'.length := (List.getElem?_eq_some_iff.1 hv).1
  have hz : zs[off + k]? = some v := by rw [← h.far (off + k) (by omega)]; exact hv
  refine ⟨by rw [List.length_set]; exact h.len, h.low.set hlo, hhi, fun i hi' => ?_, ?_⟩
  · rw [List.getElem?_set, if_neg (by omega)]; exact h.far i (by omega)
  · have h1 : (zs'.set (off + k) lo)[off + k]? = some lo := by rw [List.getElem?_set, if_pos rfl, if_pos hk]
    have hxk : k < xs.length := (List.getElem?_eq_some_iff.1 hx).1
    rw [val_seg_succ b h1, seg_set_far (by omega), val_seg_succ b hz, val_take_succ b xs k hxk, (List.getElem?_eq_some_iff.1 hx).2]
    have e := h.eq
    have e2 : b ^ k * (lo + x * m + c) = b ^ k * (v + b * hi) := by rw [hs]
    rw [Nat.pow_succ]
    grind
theorem sub_word_bound {b v x m c hi lo : Nat} (hlo : lo < b) (hx : x < b) (hm : m < b) (hc : c < b) (h : lo + x * m + c = v + b * hi) : hi < b := by
  have h1 : x * m ≤ (b - 1) * (b - 1) := Nat.mul_le_mul (by omega) (by omega)
  have h2 : (b - 1) * (b - 1) + 2 * (b - 1) + 1 = b * b := by
    obtain ⟨d, rfl⟩ : ∃ d, b = d + 1 := ⟨b - 1, by omega⟩
    simp only [Nat.add_sub_cancel]; grind
  rcases Nat.lt_or_ge hi b with h3 | h3
  · exact h3
  · have := Nat.mul_le_mul_left b h3
    omega
end Go.Proofs.Num
namespace Go.Proofs.YthgekjkgfccnaaaGreat
open Go.RowKit Num

/-- One step of a scaled difference: what the calls give. -/
theorem subScale_ex (v x m c : Nat) (hv : v < B64) (hx : x < B64) (hm : m < B64) (hc : c < B64) : ∃ hi lo low c1 h2 lo2 c2 over : Nat,
    (∀ w, Calls Tryz.prog 123 #[.int .u64 (x : Int), .int .u64 (m : Int)] w fun e w' => e = .returned (.tuple #[.int .u64 (hi : Int), .int .u64 (lo : Int)]) ∧ w = w') ∧
    (∀ w, (callFunc 145 #[.int .u64 (v : Int), .int .u64 (lo : Int), .int .u64 0]).run Tryz.prog w = .ok (.value (.tuple #[.int .u64 (low : Int), .int .u64 (c1 : Int)])) w) ∧
    IntKind.u64.wrap ((hi : Int) + (c1 : Int)) = (h2 : Int) ∧
    (∀ w, (callFunc 145 #[.int .u64 (low : Int), .int .u64 (c : Int), .int .u64 0]).run Tryz.prog w = .ok (.value (.tuple #[.int .u64 (lo2 : Int), .int .u64 (c2 : Int)])) w) ∧
    IntKind.u64.wrap ((h2 : Int) + (c2 : Int)) = (over : Int) ∧
    lo2 + x * m + c = v + B64 * over ∧ lo2 < B64 ∧ over < B64 := by
  obtain ⟨hi, lo, h1, e1, l1, g1⟩ := mul64_ex x m hx hm
  obtain ⟨low, c1, h2, e2, l2, g2⟩ := sub64_ex0 v lo hv l1
  obtain ⟨lo2, c2, h3, e3, l3, g3⟩ := sub64_ex0 low c l2 hc
  have e : lo2 + x * m + c = v + B64 * (hi + c1 + c2) := by
    rw [Nat.mul_add, Nat.mul_add]; omega
  have hb := sub_word_bound l3 hx hm hc e
  exact ⟨hi, lo, low, c1, hi + c1, lo2, c2, hi + c1 + c2, h1, h2, wrap_in _ _ (by omega), h3, wrap_in _ _ hb, e, l3, hb⟩

def SubScPost (zs xs : List Nat) (m g off : Nat) (w : World) (e : Ending) (w' : World) : Prop :=
  ∃ zs' c, e = .returned (.int .u64 ((c : Nat) : Int)) ∧ SubScSt B64 zs xs m off xs.length zs' c ∧ Row .u64 67 w' g zs' ∧ w.grownBy w' (some g)

set_option maxHeartbeats 1000000 in
set_option maxRecDepth 100000 in
theorem subScaled_any (g off n c d L m : Nat) (zs xs : List Nat) (A : Option Addr) (w : World) (hr : Row .u64 67 w g zs) (hz : Low B64 zs) (hA : Nums .u64 w A xs) (hx : Low B64 xs)
    (hAg : 0 < xs.length → ∀ a, A = some a → a.block ≠ g) (hL : L = xs.length) (hn : off + L ≤ zs.length) (hm : m < B64) (hle : L ≤ n) (hnc : n ≤ c) (hbig : n ≤ 1000000000000) :
    Calls Tryz.prog 138 #[.slice (some ⟨g, off, none⟩) n c, .slice A L d, .int .u64 (m : Int)] w (SubScPost zs xs m g off w) := by
  have HL := Lib.hid hL
  clear hL
  go_enter Tryz.func138, Tryz.ntmps138
  go_wp2
  go_loopw [7, 20] (fun q t wr => ∃ (k ov : Nat) (zs' : List Nat), k ≤ L ∧ q = .int .u64 (ov : Int) ∧ t = .int .i64 (k : Int) ∧ SubScSt B64 zs xs m off k zs' ov ∧ Row .u64 67 wr g zs' ∧ w.grownBy wr (some g)) (fun _ t _ => L - (intOf t).toNat)
  case atStart => exact ⟨0, 0, zs, Nat.zero_le _, rfl, rfl, SubScSt.start b64_two hz, hr, World.grownBy.refl w _⟩
  case round =>
    obtain ⟨k, ov, zs', hk, rfl, rfl, hst, hrow, hgr⟩ := hrel
    by_cases hlt : k < L
    · obtain ⟨q, qo, x, rfl, hq, hxk, hcx⟩ := (hA.grown hAg hgr).at_ (i := k) (by have := HL.out; omega)
      obtain ⟨v, hv⟩ : ∃ v, zs'[off + k]? = some v := ⟨zs'[off + k]'(by have := hst.len; omega), List.getElem?_eq_getElem _⟩
      have hcv := hrow.cell hv
      have hfv := hrow.frozen (off + k)
      have hvl : v < B64 := by have := hst.low v (List.mem_of_getElem? hv); exact this
      have hxl : x < B64 := hx x (List.mem_of_getElem? hxk)
      obtain ⟨hi, lo, low, c1, h2, lo2, c2, over, e1, e2, e3, e4, e5, e6, hlo, hov⟩ := subScale_ex v x m ov hvl hxl hm hst.le
      have hst' := hst.step hv hxk e6 hlo hov
      have hrow' := hrow.set (off + k) lo2
      have HE := Lib.hid e6
      have HV := Lib.hid hv
      have HX := Lib.hid hxk
      have H1 := Lib.hid e1
      clear e6 hv hxk hA hvl hxl hlo hov e1
      go_wp2_with (go_at_call 123; refine (H1.out _).mono ?_; rintro e w' ⟨rfl, rfl⟩)
      go_roundw
      case rel => exact ⟨k + 1, over, _, by omega, rfl, by go_num, hst', hrow', grown_set hgr _ _⟩
      case measure => simp [intOf]; omega
    · have hkL : k = L := by omega
      subst hkL
      clear hlt
      go_wp2
      go_ret
      exact ⟨zs', ov, rfl, by rw [← HL.out]; exact hst, hrow, hgr⟩
end Go.Proofs.YthgekjkgfccnaaaGreat

namespace Go.Proofs.YthgekjkgfccnaaaGreat
open Go.RowKit Num

/-- What estimate gives. -/
def EstPost (a2 a1 a0 b1 b0 : Nat) (w : World) (e : Ending) (w' : World) : Prop :=
  ∃ d : Nat, e = .returned (.int .u64 (d : Int)) ∧ d < B64 ∧ (b1 ≤ a2 → d = B64 - 1) ∧ (a2 < b1 → IsDig (b1 * B64 + b0) ((a2 * B64 + a1) * B64 + a0) d) ∧ ∃ m, w' = w.drewN m

theorem est_test {d b0 hi lo r a0 : Nat} (h : lo + B64 * hi = d * b0) (hl : lo < B64) (ha : a0 < B64) : (hi < r ∨ hi = r ∧ lo ≤ a0) ↔ ¬ r * B64 + a0 < d * b0 := by
  rw [← h, Nat.mul_comm B64 hi]
  constructor
  · rintro (h1 | ⟨h1, h2⟩)
    · have := Nat.mul_le_mul_right B64 (show hi + 1 ≤ r from h1)
      rw [Nat.add_mul] at this; omega
    · subst h1; omega
  · intro h1
    rcases Nat.lt_trichotomy hi r with h2 | h2 | h2
    · exact .inl h2
    · subst h2; exact .inr ⟨rfl, by omega⟩
    · exfalso
      have := Nat.mul_le_mul_right B64 (show r + 1 ≤ hi from h2)
      rw [Nat.add_mul] at this; omega
theorem down64_ex (d r b1 : Nat) (h0 : 0 < d) (hd : d < B64) (hr : r < B64) (hb : b1 < B64) : ∃ d' r' : Nat, IntKind.u64.wrap ((d : Int) - 1) = (d' : Int) ∧ IntKind.u64.wrap ((r : Int) + (b1 : Int)) = (r' : Int) ∧ d' = d - 1 ∧
    (r + b1 < B64 → r' = r + b1 ∧ ¬ r' < b1) ∧ (B64 ≤ r + b1 → r' < b1) := by
  unfold B64 at *
  refine ⟨d - 1, (r + b1) % 18446744073709551616, ?_, ?_, rfl, by omega, by omega⟩
  · rw [IntKind.wrap_u64]; omega
  · rw [IntKind.wrap_u64]; omega

set_option maxHeartbeats 1000000 in
set_option maxRecDepth 100000 in
theorem estimate_top (a2 a1 a0 b1 b0 : Nat) (h : b1 ≤ a2) (w : World) :
    Calls Tryz.prog 137 #[.int .u64 (a2 : Int), .int .u64 (a1 : Int), .int .u64 (a0 : Int), .int .u64 (b1 : Int), .int .u64 (b0 : Int)] w (EstPost a2 a1 a0 b1 b0 w) := by
  go_enter Tryz.func137, Tryz.ntmps137
  go_wp2
  go_ret
  exact ⟨B64 - 1, by unfold B64; rfl, by unfold B64; omega, fun _ => rfl, fun h2 => by omega, 0, rfl⟩

set_option maxHeartbeats 2000000 in
set_option maxRecDepth 100000 in
theorem estimate_low (a2 a1 a0 b1 b0 : Nat) (h : a2 < b1) (h1 : a1 < B64) (h0 : a0 < B64) (hb1 : b1 < B64) (hb0 : b0 < B64) (hn : B64 ≤ 2 * b1) (w : World) :
    Calls Tryz.prog 137 #[.int .u64 (a2 : Int), .int .u64 (a1 : Int), .int .u64 (a0 : Int), .int .u64 (b1 : Int), .int .u64 (b0 : Int)] w (EstPost a2 a1 a0 b1 b0 w) := by
  have hU : a2 * B64 + a1 < b1 * B64 + b0 := by
    have := Nat.mul_le_mul_right B64 (show a2 + 1 ≤ b1 from h)
    rw [Nat.add_mul] at this; omega
  have hst0 := DigSt.start (K := B64) (y0 := b0) (U := a2 * B64 + a1) (u := a0) hn hb1 hb0 hU h0
  have hdl : (a2 * B64 + a1) / b1 < B64 := by
    refine Nat.div_lt_of_lt_mul ?_
    have := Nat.mul_le_mul_right B64 (show a2 + 1 ≤ b1 from h)
    rw [Nat.add_mul] at this; omega
  have hdv := fun w => div64_any a2 a1 b1 h h1 hb1 w
  generalize (a2 * B64 + a1) / b1 = d0 at *
  generalize (a2 * B64 + a1) % b1 = r0 at *
  have hne : ¬ b1 ≤ a2 := by omega
  have HS0 := Lib.hid hst0
  have HDL := Lib.hid hdl
  have HDV := Lib.hid hdv
  clear hst0 hdl hdv hU
  go_enter Tryz.func137, Tryz.ntmps137
  go_wp2_with (go_at_call 125; refine (HDV.out _).mono ?_; rintro e w1 ⟨rfl, m, rfl⟩)
  go_loop [11, 12] (fun a b => ∃ d r : Nat, a = .int .u64 (d : Int) ∧ b = .int .u64 (r : Int) ∧ d < B64 ∧ DigSt B64 b1 b0 (a2 * B64 + a1) a0 d r) (fun a _ => (intOf a).toNat)
  case atStart => exact ⟨d0, r0, rfl, rfl, HDL.out, HS0.out⟩
  case round =>
    clear HS0 HDL HDV
    obtain ⟨d, r, rfl, rfl, hd, hst⟩ := hrel
    have hrl := hst.rl
    obtain ⟨hi, lo, hm, he, hlo, _⟩ := mul64_ex d b0 hd hb0
    have ht := est_test (r := r) (a0 := a0) he hlo h0
    have HM := Lib.hid hm
    by_cases hok : hi < r ∨ hi = r ∧ lo ≤ a0
    · have hdig := hst.good (fun hc => ht.1 hok (hst.test.2 hc))
      have HDIG := Lib.hid hdig
      clear hm he ht hst hdig
      rcases hok with hok | ⟨hok, hok2⟩
      · go_wp2_with (go_at_call 123; refine (HM.out _).mono ?_; rintro e w' ⟨rfl, rfl⟩)
        go_ret
        exact ⟨d, rfl, hd, fun h2 => absurd h2 hne, fun _ => HDIG.out, _, rfl⟩
      · subst hok
        have hlt : ¬ hi < hi := by omega
        have heq : ((hi : Int) == (hi : Int)) = true := by simp
        go_wp2_with (go_at_call 123; refine (HM.out _).mono ?_; rintro e w' ⟨rfl, rfl⟩)
        go_ret
        exact ⟨d, rfl, hd, fun h2 => absurd h2 hne, fun _ => HDIG.out, _, rfl⟩
    · have hgt : (a2 * B64 + a1) * B64 + a0 < d * (b1 * B64 + b0) := by
        apply Classical.byContradiction
        intro hc
        exact hok (ht.2 (fun h3 => hc (hst.test.1 h3)))
      have hpos := DigSt.pos hgt
      obtain ⟨d', r', e1, e2, ed, er, er2⟩ := down64_ex d r b1 hpos hd hrl hb1
      have hltd : d' < d := by omega
      have hd' : d' < B64 := by omega
      have hcases : r < hi ∨ (hi = r ∧ a0 < lo) := by
        rcases Nat.lt_trichotomy hi r with h2 | h2 | h2
        · exact absurd (.inl h2) hok
        · exact .inr ⟨h2, by rcases Nat.lt_or_ge a0 lo with h3 | h3; exact h3; exact absurd (.inr ⟨h2, h3⟩) hok⟩
        · exact .inl h2
      by_cases hbr : r + b1 < B64
      · obtain ⟨er1, er3⟩ := er hbr
        have hst' := hst.step hgt hbr
        rw [← ed, ← er1] at hst'
        have HST := Lib.hid hst'
        clear hm he ht hst hst' hgt er er2 er1 ed hok hbr hpos
        rcases hcases with hc | ⟨hc, hc2⟩
        · have hlt : ¬ hi < r := by omega
          have heq : ((hi : Int) == (r : Int)) = false := by simp; omega
          go_wp2_with (go_at_call 123; refine (HM.out _).mono ?_; rintro e w' ⟨rfl, rfl⟩)
          go_round
          case rel => exact ⟨d', r', rfl, rfl, hd', HST.out⟩
          case measure => simp [intOf]; omega
        · subst hc
          have hlt : ¬ hi < hi := by omega
          have heq : ((hi : Int) == (hi : Int)) = true := by simp
          have hle : ¬ lo ≤ a0 := by omega
          go_wp2_with (go_at_call 123; refine (HM.out _).mono ?_; rintro e w' ⟨rfl, rfl⟩)
          go_round
          case rel => exact ⟨d', r', rfl, rfl, hd', HST.out⟩
          case measure => simp [intOf]; omega
      · have er3 := er2 (by omega)
        have hdig := hst.leave hgt hb0 (by omega)
        rw [← ed] at hdig
        have HDIG := Lib.hid hdig
        clear hm he ht hst hdig hgt er er2 ed hok hbr hpos
        rcases hcases with hc | ⟨hc, hc2⟩
        · have hlt : ¬ hi < r := by omega
          have heq : ((hi : Int) == (r : Int)) = false := by simp; omega
          go_wp2_with (go_at_call 123; refine (HM.out _).mono ?_; rintro e w' ⟨rfl, rfl⟩)
          go_ret
          exact ⟨d', rfl, hd', fun h2 => absurd h2 hne, fun _ => HDIG.out, _, rfl⟩
        · subst hc
          have hlt : ¬ hi < hi := by omega
          have heq : ((hi : Int) == (hi : Int)) = true := by simp
          have hle : ¬ lo ≤ a0 := by omega
          go_wp2_with (go_at_call 123; refine (HM.out _).mono ?_; rintro e w' ⟨rfl, rfl⟩)
          go_ret
          exact ⟨d', rfl, hd', fun h2 => absurd h2 hne, fun _ => HDIG.out, _, rfl⟩

theorem estimate_any (a2 a1 a0 b1 b0 : Nat) (h1 : a1 < B64) (h0 : a0 < B64) (hb1 : b1 < B64) (hb0 : b0 < B64) (hn : B64 ≤ 2 * b1) (w : World) :
    Calls Tryz.prog 137 #[.int .u64 (a2 : Int), .int .u64 (a1 : Int), .int .u64 (a0 : Int), .int .u64 (b1 : Int), .int .u64 (b0 : Int)] w (EstPost a2 a1 a0 b1 b0 w) := by
  rcases Nat.lt_or_ge a2 b1 with h | h
  · exact estimate_low a2 a1 a0 b1 b0 h h1 h0 hb1 hb0 hn w
  · exact estimate_top a2 a1 a0 b1 b0 h w
end Go.Proofs.YthgekjkgfccnaaaGreat

/- Plain laws: long division (Knuth's D): what a round leaves. -/
namespace Go.Proofs.Num

theorem val_cons (b x : Nat) (xs : List Nat) : val b (x :: xs) = x + b * val b xs := rfl
theorem val_drop_at (b : Nat) {zs : List Nat} {j v : Nat} (h : zs[j]? = some v) : val b (zs.drop j) = v + b * val b (zs.drop (j + 1)) := by
  obtain ⟨hj, he⟩ := List.getElem?_eq_some_iff.1 h
  rw [List.drop_eq_getElem_cons hj, he]; rfl
theorem val_drop_seg (b : Nat) {zs : List Nat} {j n : Nat} (h : j + n ≤ zs.length) : val b (zs.drop j) = val b (seg zs j n) + b ^ n * val b (zs.drop (j + n)) := by
  have := val_take_drop b (zs.drop j) n (by rw [List.length_drop]; omega)
  rw [List.drop_drop] at this
  exact this
theorem drop_congr {zs ys : List Nat} {k : Nat} (h : ∀ i, k ≤ i → zs[i]? = ys[i]?) : zs.drop k = ys.drop k := by
  apply List.ext_getElem?
  intro i
  rw [List.getElem?_drop, List.getElem?_drop]
  exact h _ (by omega)
theorem take_congr {zs ys : List Nat} {k : Nat} (h : ∀ i, i < k → zs[i]? = ys[i]?) : zs.take k = ys.take k := by
  apply List.ext_getElem?
  intro i
  rw [List.getElem?_take, List.getElem?_take]
  split
  · exact h _ (by omega)
  · rfl
theorem same_rest {P a c x y : Nat} (ha : a < P) (hc : c < P) (h : a + P * x = c + P * y) : a = c ∧ x = y := by
  rcases Nat.lt_trichotomy x y with h1 | h1 | h1
  · have := Nat.mul_le_mul_left P (show x + 1 ≤ y from h1); rw [Nat.mul_add] at this; omega
  · subst h1; omega
  · have := Nat.mul_le_mul_left P (show y + 1 ≤ x from h1); rw [Nat.mul_add] at this; omega

/-- The quotient's digits from k on are found; what is left of a is in rs. -/
structure LongSt (b : Nat) (us bs : List Nat) (k : Nat) (rs qs : List Nat) : Prop where
  rlen : rs.length = us.length + 1
  qlen : qs.length + bs.length = us.length + 1
  rlow : Low b rs
  qlow : Low b qs
  zero : ∀ (i v : Nat), i < k → qs[i]? = some v → v = 0
  eq : val b us = val b qs * val b bs + val b rs
  top : val b (rs.drop k) < val b bs

theorem LongSt.start {b : Nat} (hb : 2 ≤ b) {us bs : List Nat} {K : Nat} (ha : Low b us) (hbs : Neat bs) (hn : 0 < bs.length) (hK : K + bs.length = us.length + 1) : LongSt b us bs K (us ++ [0]) (List.replicate K 0) := by
  refine ⟨by simp, by simpa using hK, ha.append (Low.cons (by omega) (Low.nil _)), Low.replicate (by omega) _, fun i v _ hv => List.eq_of_mem_replicate (List.mem_of_getElem? hv), ?_, ?_⟩
  · rw [val_replicate, val_snoc]; simp
  · rw [List.drop_append_of_le_length (by omega), val_snoc, Nat.mul_zero, Nat.add_zero]
    have h1 := val_lt b _ (ha.drop K)
    have h2 := neat_ge (b := b) hbs hn
    rw [List.length_drop, show us.length - K = bs.length - 1 by omega] at h1
    omega

/-- What is taken from the words from j on, and the word above. -/
theorem LongSt.part {b : Nat} {us bs rs qs : List Nat} {j n t : Nat} (h : LongSt b us bs (j + 1) rs qs) (hbl : Low b bs) (hn : bs.length = n) (ht : rs[j + n]? = some t) (hj : j < qs.length) :
    val b (rs.drop j) = val b (seg rs j n) + b ^ n * t ∧ val b (rs.drop (j + n + 1)) = 0 ∧ val b (rs.drop j) < b * val b bs := by
  have hl := h.rlen
  have hq := h.qlen
  obtain ⟨v, hv⟩ : ∃ v, rs[j]? = some v := ⟨rs[j]'(by omega), List.getElem?_eq_getElem _⟩
  have hvl := h.rlow v (List.mem_of_getElem? hv)
  have h1 := val_drop_at b hv
  have h2 := h.top
  have h3 : val b (rs.drop j) < b * val b bs := by
    have := Nat.mul_le_mul_left b (show val b (rs.drop (j + 1)) + 1 ≤ val b bs from h2)
    rw [Nat.mul_add] at this
    omega
  have h4 := val_drop_seg b (zs := rs) (j := j) (n := n) (by omega)
  have h5 := val_drop_at b ht
  have h6 := val_lt b bs hbl
  rw [hn] at h6
  have h7 : val b (rs.drop (j + n + 1)) = 0 := by
    rcases Nat.eq_zero_or_pos (val b (rs.drop (j + n + 1))) with h0 | h0
    · exact h0
    · exfalso
      have e1 : b * 1 ≤ b * val b (rs.drop (j + n + 1)) := Nat.mul_le_mul_left _ h0
      have e2 : b ^ n * b ≤ b ^ n * val b (rs.drop (j + n)) := Nat.mul_le_mul_left _ (by omega)
      have e3 : b * val b bs ≤ b * b ^ n := Nat.mul_le_mul_left _ (by omega)
      rw [Nat.mul_comm b (b ^ n)] at e3
      omega
  refine ⟨?_, h7, h3⟩
  rw [h4, h5, h7]; simp

theorem LongSt.close {b : Nat} (hb : 2 ≤ b) {us bs rs qs zs : List Nat} {j n t q : Nat} (h : LongSt b us bs (j + 1) rs qs) (hbl : Low b bs) (hn : bs.length = n) (ht : rs[j + n]? = some t) (hj : j < qs.length)
    (hzl : zs.length = rs.length) (hzlow : Low b zs) (far : ∀ i, i < j ∨ j + n ≤ i → zs[i]? = rs[i]?) (hX : val b (rs.drop j) = q * val b bs + val b (seg zs j n)) (hS : val b (seg zs j n) < val b bs) (hq : q < b) :
    LongSt b us bs j (zs.set (j + n) 0) (qs.set j q) := by
  obtain ⟨_, p2, _⟩ := h.part hbl hn ht hj
  have hl := h.rlen
  have hql := h.qlen
  have hjn : j + n < zs.length := by omega
  have ht' : (zs.set (j + n) 0)[j + n]? = some 0 := by rw [List.getElem?_set_self hjn]
  have hd : val b ((zs.set (j + n) 0).drop j) = val b (seg zs j n) := by
    rw [val_drop_seg b (n := n) (by rw [List.length_set]; omega), seg_set_far (by omega), val_drop_at b ht']
    have : (zs.set (j + n) 0).drop (j + n + 1) = rs.drop (j + n + 1) := drop_congr fun i hi => by
      rw [List.getElem?_set, if_neg (by omega)]; exact far i (by omega)
    rw [this, p2]; simp
  have htk : (zs.set (j + n) 0).take j = rs.take j := take_congr fun i hi => by
    rw [List.getElem?_set, if_neg (by omega)]; exact far i (by omega)
  refine ⟨by rw [List.length_set]; omega, by rw [List.length_set]; omega, hzlow.set (by omega), h.qlow.set hq, fun i v hi hv => ?_, ?_, by rw [hd]; exact hS⟩
  · rw [List.getElem?_set, if_neg (by omega)] at hv
    exact h.zero i v (by omega) hv
  · have e1 := val_take_drop b (zs.set (j + n) 0) j (by rw [List.length_set]; omega)
    have e2 := val_take_drop b rs j (by omega)
    have e3 := val_set b qs j q hj
    have hz : qs[j] = 0 := h.zero j _ (by omega) (List.getElem?_eq_getElem hj)
    rw [hz, Nat.mul_zero, Nat.add_zero] at e3
    rw [hd, htk] at e1
    rw [hX] at e2
    rw [h.eq, e1, e2, e3]
    grind

/-- The digit was right. -/
theorem LongSt.right {b : Nat} (hb : 2 ≤ b) {us bs rs qs zs : List Nat} {j n t d ov : Nat} (h : LongSt b us bs (j + 1) rs qs) (hbl : Low b bs) (hn : bs.length = n) (ht : rs[j + n]? = some t) (hj : j < qs.length)
    (hs : SubScSt b rs bs d j n zs ov) (hd : val b (rs.drop j) < d * val b bs + val b bs) (hdb : d < b) (ho : ov ≤ t) : LongSt b us bs j (zs.set (j + n) 0) (qs.set j d) := by
  obtain ⟨p1, _, _⟩ := h.part hbl hn ht hj
  have hl := h.rlen
  have hql := h.qlen
  have e := hs.eq
  rw [List.take_of_length_le (by omega), Nat.mul_comm] at e
  have hvb := val_lt b bs hbl
  rw [hn] at hvb
  have hX : val b (rs.drop j) = d * val b bs + val b (seg zs j n) := by
    have h1 : b ^ n * ov ≤ b ^ n * t := Nat.mul_le_mul_left _ ho
    rcases Nat.lt_or_ge ov t with h2 | h2
    · have h3 := Nat.mul_le_mul_left (b ^ n) (show ov + 1 ≤ t from h2)
      rw [Nat.mul_add] at h3
      omega
    · obtain rfl : ov = t := by omega
      omega
  exact h.close hb hbl hn ht hj hs.len hs.low hs.far hX (by omega) hdb

/-- The digit was one too great. -/
theorem LongSt.less {b : Nat} (hb : 2 ≤ b) {us bs rs qs zs ys : List Nat} {j n t d ov c : Nat} (h : LongSt b us bs (j + 1) rs qs) (hbl : Low b bs) (hn : bs.length = n) (ht : rs[j + n]? = some t) (hj : j < qs.length)
    (hs : SubScSt b rs bs d j n zs ov) (ha : AddSt b zs bs j n ys c) (hd : d * val b bs ≤ val b (rs.drop j) + val b bs) (hdb : d < b) (ho : t < ov) : 0 < d ∧ LongSt b us bs j (ys.set (j + n) 0) (qs.set j (d - 1)) := by
  obtain ⟨p1, _, _⟩ := h.part hbl hn ht hj
  have hl := h.rlen
  have hql := h.qlen
  have e := hs.eq
  have e2 := ha.eq
  rw [List.take_of_length_le (by omega), Nat.mul_comm] at e
  rw [List.take_of_length_le (by omega)] at e2
  have hvb := val_lt b bs hbl
  rw [hn] at hvb
  have hz1 := val_lt b _ (seg_low hs.low j n)
  rw [seg_len (by rw [hs.len]; omega)] at hz1
  have hy1 := val_lt b _ (seg_low ha.low j n)
  rw [seg_len (by rw [ha.len, hs.len]; omega)] at hy1
  have h1 := Nat.mul_le_mul_left (b ^ n) (show t + 1 ≤ ov from ho)
  rw [Nat.mul_add] at h1
  have hlt : val b (rs.drop j) < d * val b bs := by omega
  have hpos : 0 < d := by
    rcases Nat.eq_zero_or_pos d with h0 | h0
    · subst h0; simp at hlt
    · exact h0
  obtain ⟨q, rfl⟩ : ∃ q, d = q + 1 := ⟨d - 1, by omega⟩
  rw [Nat.add_mul, Nat.one_mul] at hd hlt e
  obtain ⟨r, hr⟩ : ∃ r, val b (rs.drop j) = q * val b bs + r := ⟨val b (rs.drop j) - q * val b bs, by omega⟩
  have hrl : r < val b bs := by omega
  have key : val b (seg ys j n) + b ^ n * (c + t) = r + b ^ n * ov := by rw [Nat.mul_add]; omega
  obtain ⟨k1, _⟩ := same_rest hy1 (by omega) key
  refine ⟨hpos, h.close hb hbl hn ht hj (ha.len.trans hs.len) ha.low (fun i hi => (ha.far i hi).trans (hs.far i hi)) (by rw [hr, k1]; rfl) (by omega) (by omega)⟩

/-- The estimate by the first words. -/
theorem LongSt.est {b : Nat} {us bs rs qs : List Nat} {j n t r1 r0 b1 b0 d : Nat} (h : LongSt b us bs (j + 1) rs qs) (hbl : Low b bs) (hn : bs.length = n + 2) (ht : rs[j + (n + 2)]? = some t) (hj : j < qs.length)
    (h1 : rs[j + n + 1]? = some r1) (h0 : rs[j + n]? = some r0) (hb1 : bs[n + 1]? = some b1) (hb0 : bs[n]? = some b0) (hh : b ≤ 2 * b1) (hbb : b ≤ b1 * b + b0 + 1) (hd : d < b)
    (hd1 : b1 ≤ t → d = b - 1) (hd2 : t < b1 → IsDig (b1 * b + b0) ((t * b + r1) * b + r0) d) :
    val b (rs.drop j) < d * val b bs + val b bs ∧ d * val b bs ≤ val b (rs.drop j) + val b bs := by
  obtain ⟨p1, _, p3⟩ := h.part hbl hn ht hj
  have hl := h.rlen
  have hql := h.qlen
  have e1 : val b (seg rs j (n + 2)) = val b (seg rs j n) + b ^ n * r0 + b ^ (n + 1) * r1 := by
    rw [val_seg_succ b (k := n + 1) (by rw [← Nat.add_assoc]; exact h1), val_seg_succ b h0]
  have e2 : val b bs = val b (bs.take n) + b ^ n * b0 + b ^ (n + 1) * b1 := by
    have := val_take_succ b bs (n + 1) (by omega)
    rw [List.take_of_length_le (by omega), val_take_succ b bs n (by omega), (List.getElem?_eq_some_iff.1 hb1).2, (List.getElem?_eq_some_iff.1 hb0).2] at this
    exact this
  have s1 := val_lt b _ (seg_low h.rlow j n)
  rw [seg_len (by omega)] at s1
  have s2 := val_lt b _ (hbl.take n)
  rw [List.length_take, Nat.min_eq_left (by omega)] at s2
  have hE : 0 < b ^ n := Nat.pow_pos (by omega)
  have hA : val b (rs.drop j) = ((t * b + r1) * b + r0) * b ^ n + val b (seg rs j n) := by
    rw [p1, e1]; grind
  have hB : val b bs = (b1 * b + b0) * b ^ n + val b (bs.take n) := by
    rw [e2]; grind
  have hpos : 0 < val b bs := by
    rcases Nat.eq_zero_or_pos (val b bs) with h2 | h2
    · rw [h2] at p3; simp at p3
    · exact h2
  have q1 := Nat.div_mul_le_self (val b (rs.drop j)) (val b bs)
  have q2 := Nat.lt_div_mul_add (a := val b (rs.drop j)) hpos
  have q3 : val b (rs.drop j) / val b bs < b := Nat.div_lt_of_lt_mul (by rw [Nat.mul_comm]; exact p3)
  generalize val b (rs.drop j) / val b bs = q at *
  have hqd : q ≤ d ∧ d ≤ q + 1 := by
    rcases Nat.lt_or_ge t b1 with h2 | h2
    · obtain ⟨k1, k2⟩ := hd2 h2
      exact ⟨est_le hA hB s1 q1 (by rw [Nat.add_mul d 1, Nat.one_mul]; exact k2), est_ge hA hB s2 q2 k1 (by omega)⟩
    · rw [hd1 h2]
      refine est_top (b1 := b1) (E := b ^ (n + 1)) ?_ ?_ hh q2 q3
      · rw [p1]
        have : b ^ (n + 2) * b1 ≤ b ^ (n + 2) * t := Nat.mul_le_mul_left _ h2
        have e : b1 * b * b ^ (n + 1) = b ^ (n + 2) * b1 := by grind
        omega
      · rw [e2, Nat.add_mul, Nat.one_mul, Nat.mul_comm b1]
        have hb0l := hbl b0 (List.mem_of_getElem? hb0)
        have : b ^ n * (b0 + 1) ≤ b ^ n * b := Nat.mul_le_mul_left _ hb0l
        rw [Nat.mul_add] at this
        rw [Nat.pow_succ] at *
        omega
  have m1 := Nat.mul_le_mul_right (val b bs) hqd.1
  have m2 := Nat.mul_le_mul_right (val b bs) hqd.2
  rw [Nat.add_mul] at m2
  omega
theorem LongSt.fin {b : Nat} {us bs rs qs : List Nat} (h : LongSt b us bs 0 rs qs) : val b qs = val b us / val b bs ∧ val b rs = val b us % val b bs := by
  have e := h.eq
  have t := h.top
  rw [List.drop_zero] at t
  have hp : 0 < val b bs := by omega
  rw [e, Nat.mul_comm, Nat.mul_add_div hp, Nat.div_eq_of_lt t, Nat.mul_add_mod, Nat.mod_eq_of_lt t]
  simp
end Go.Proofs.Num

namespace Go.Proofs.YthgekjkgfccnaaaGreat
open Go.RowKit Num

def estD (a2 a1 a0 b1 b0 : Nat) : Nat := if b1 ≤ a2 then B64 - 1 else ((a2 * B64 + a1) * B64 + a0) / (b1 * B64 + b0)
theorem estimate_fix (a2 a1 a0 b1 b0 : Nat) (h1 : a1 < B64) (h0 : a0 < B64) (hb1 : b1 < B64) (hb0 : b0 < B64) (hn : B64 ≤ 2 * b1) (w : World) :
    Calls Tryz.prog 137 #[.int .u64 (a2 : Int), .int .u64 (a1 : Int), .int .u64 (a0 : Int), .int .u64 (b1 : Int), .int .u64 (b0 : Int)] w fun e w' => e = .returned (.int .u64 ((estD a2 a1 a0 b1 b0 : Nat) : Int)) ∧ ∃ m, w' = w.drewN m := by
  refine (estimate_any a2 a1 a0 b1 b0 h1 h0 hb1 hb0 hn w).mono fun e w' ⟨d, he, hd, t1, t2, hm⟩ => ⟨?_, hm⟩
  rw [he]
  congr 3
  unfold estD
  split
  · rename_i h; exact t1 h
  · rename_i h; exact ((t2 (by omega)).div.1).symm
theorem estD_ok {a2 a1 a0 b1 b0 : Nat} (h1 : a1 < B64) (h0 : a0 < B64) (hn : B64 ≤ 2 * b1) :
    estD a2 a1 a0 b1 b0 < B64 ∧ (b1 ≤ a2 → estD a2 a1 a0 b1 b0 = B64 - 1) ∧ (a2 < b1 → IsDig (b1 * B64 + b0) ((a2 * B64 + a1) * B64 + a0) (estD a2 a1 a0 b1 b0)) := by
  have hp : 0 < b1 * B64 + b0 := by
    have : 0 < b1 * B64 := Nat.mul_pos (by unfold B64 at hn; omega) b64_pos
    omega
  refine ⟨?_, fun h => by unfold estD; rw [if_pos h], fun h => ?_⟩
  · unfold estD
    split
    · unfold B64; omega
    · rename_i h
      refine Nat.div_lt_of_lt_mul ?_
      have h2 := Nat.mul_le_mul_right B64 (show a2 + 1 ≤ b1 by omega)
      rw [Nat.add_mul] at h2
      have h3 := Nat.mul_le_mul_right B64 (show a2 * B64 + a1 + 1 ≤ b1 * B64 by omega)
      rw [Nat.add_mul] at h3
      have h4 : b1 * B64 * B64 ≤ (b1 * B64 + b0) * B64 := Nat.mul_le_mul_right _ (Nat.le_add_right _ _)
      omega
  · unfold estD
    rw [if_neg (by omega)]
    exact ⟨Nat.div_mul_le_self _ _, Nat.lt_div_mul_add hp⟩

theorem lay_end (K : Nat) (us : List Nat) (h : K = us.length + 1) : lay (List.replicate K 0) 0 us = us ++ [0] := by
  subst h
  unfold lay
  simp

theorem subSc_pos {b : Nat} {zs bs zs' : List Nat} {d j n ov : Nat} (h : Num.SubScSt b zs bs d j n zs' ov) (hj : j + n ≤ zs.length) (ho : 0 < ov) : 0 < d := by
  rcases Nat.eq_zero_or_pos d with h0 | h0
  · exfalso
    subst h0
    have e := h.eq
    have h1 := val_lt b _ (seg_low h.low j n)
    rw [seg_len (by rw [h.len]; exact hj)] at h1
    have h2 : b ^ n * 1 ≤ b ^ n * ov := Nat.mul_le_mul_left _ ho
    omega
  · exact h0
/-- Quotient and remainder, both of the call's own. -/
def DivPost (w : World) (q r : Nat) (e : Ending) (w' : World) : Prop := ∃ v u, e = .returned (.tuple #[v, u]) ∧ W64 w' v q ∧ W64 w' u r ∧ Below w.heap.size w w'

set_option maxHeartbeats 4000000 in
set_option maxRecDepth 100000 in
theorem longDivide_any (A A' : Option Addr) (c c' L n : Nat) (us bs : List Nat) (w : World) (hA : Nums .u64 w A us) (hB : Nums .u64 w A' bs) (hu : Low B64 us) (hb : Low B64 bs) (hnb : Neat bs)
    (hL : L = us.length) (hn : n = bs.length) (h2 : 2 ≤ n) (hle : n ≤ L) (hbig : L ≤ 100000000000) (hh : ∀ t, bs[n - 1]? = some t → B64 ≤ 2 * t) :
    Calls Tryz.prog 126 #[.slice A L c, .slice A' n c'] w (DivPost w (val B64 us / val B64 bs) (val B64 us % val B64 bs)) := by
  obtain ⟨K, hK⟩ : ∃ K, K + n = L + 1 := ⟨L + 1 - n, by omega⟩
  have hne : 0 < bs.length → ∀ a, A' = some a → a.block ≠ w.heap.size := nums_ne hB (Nat.le_refl _)
  have HNE := Lib.hid hne
  clear hne
  have hmk := make64 (L + 1) (by omega) w
  push_cast at hmk
  have hr0 := Row.made w .u64 (L + 1) 67
  have hbA : Below w.heap.size w (w.alloc (.cells (madeCells #[.int .u64 0] (L + 1)) 67)) := (Below.refl _ _).alloc (Nat.le_refl _) _
  have hA0 := hA.keep hbA
  have eK : (L : Int) - (n : Int) + 1 = (K : Int) := by omega
  have hmk2 := fun w => make64 K (by omega) w
  have hst0 := LongSt.start b64_two (K := K) hu hnb (by omega) (by omega)
  have HL := Lib.hid hL
  have HN := Lib.hid hn
  have HR0 := Lib.hid hr0
  have HS0 := Lib.hid hst0
  have HK := Lib.hid hK
  clear hL hn hr0 hst0 hA hK
  go_enter Tryz.func126, Tryz.ntmps126
  go_wp2_with (first
    | (refine wpList_copy_row rfl (.tmp 17) (.tmp 18) rfl _ _ _ _ _ _ rfl rfl _ 0 _ _ HR0.out hA0 HL.out (by omega) (fun _ => rfl) (by simp) ?_
       intro w1 hr1 hg1
       have hb1 : Below w.heap.size w w1 := hbA.grown hg1 hbA.size (fun k hk => by injection hk with hk; omega)))
  have hr2 := Row.made w1 .u64 K 67
  have hbB : Below w.heap.size w (w1.alloc (.cells (madeCells #[.int .u64 0] K) 67)) := hb1.alloc hb1.size _
  have hr1' := hr1.alloc (.cells (madeCells #[.int .u64 0] K) 67)
  rw [lay_end _ _ (by have := HL.out; omega)] at hr1'
  have hlt1 := hr1.lt
  obtain ⟨G, hG⟩ : ∃ G, w1.heap.size = G := ⟨_, rfl⟩
  rw [hG] at hr2 hlt1 ⊢
  have HG := Lib.hid hG
  have R1 := Lib.hid hr1'
  have R2 := Lib.hid hr2
  clear hr1' hr2 hr1 hG hA0 hmk hbA hg1
  go_loopw [7] (fun t wr => ∃ (k : Nat) (rs qs : List Nat), k ≤ K ∧ t = .int .i64 ((k : Int) - 1) ∧ LongSt B64 us bs k rs qs ∧ Row .u64 67 wr w.heap.size rs ∧ Row .u64 67 wr G qs ∧ Below w.heap.size w wr) (fun t _ => (intOf t + 1).toNat)
  case atStart => exact ⟨K, _, _, Nat.le_refl _, by congr 1; omega, HS0.out, R1.out, R2.out, hbB⟩
  case round =>
    clear R1 R2 hbB HS0 hb1 HG
    obtain ⟨k, rs, qs, hk, rfl, hst, hrow, hrow2, hbl⟩ := hrel
    have hrl := hst.rlen
    have hql := hst.qlen
    by_cases h0 : k = 0
    · subst h0
      obtain ⟨f1, f2⟩ := hst.fin
      have hq0 := hrow2.nums0 qs.length
      rw [List.take_length] at hq0
      have hqK : K = qs.length := by have := HN.out; have := HL.out; have := HK.out; omega
      have hr0 := hrow.nums0 n
      have hv0 : val B64 (rs.take n) = val B64 rs := by
        have e1 := val_take_drop B64 rs n (by have := HL.out; omega)
        have e2 := hst.top
        rw [List.drop_zero] at e2
        have e3 := val_lt B64 bs hb
        rw [← HN.out] at e3
        rcases Nat.eq_zero_or_pos (val B64 (rs.drop n)) with h0 | h0
        · rw [h0] at e1; omega
        · have := Nat.mul_le_mul_left (B64 ^ n) (show 1 ≤ val B64 (rs.drop n) from h0); omega
      have hnl : n = (rs.take n).length := by rw [List.length_take]; have := HL.out; omega
      have ht1 : ∀ (m : Nat), Calls Tryz.prog 93 #[.slice (some ⟨G, 0, none⟩) K K] (wr.drewN m) fun e w'' => e = .returned (.slice (some ⟨G, 0, none⟩) (dig B64 (val B64 qs)).length K) ∧ ∃ m', w'' = wr.drewN m' := fun m =>
        (trim_any _ K K qs (wr.drewN m) (hq0.keep (below_drewN (Below.refl _ _) _)) hst.qlow hqK (Nat.le_refl _) (by omega)).mono fun e w' ⟨he, hm⟩ => ⟨he, m, hm.symm⟩
      have ht2 : ∀ (m : Nat), Calls Tryz.prog 93 #[.slice (some ⟨w.heap.size, 0, none⟩) n (L + 1)] (wr.drewN m) fun e w'' => e = .returned (.slice (some ⟨w.heap.size, 0, none⟩) (dig B64 (val B64 (rs.take n))).length (L + 1)) ∧ ∃ m', w'' = wr.drewN m' := fun m =>
        (trim_any _ (L + 1) n (rs.take n) (wr.drewN m) (hr0.keep (below_drewN (Below.refl _ _) _)) (hst.rlow.take n) hnl (by omega) (by omega)).mono fun e w' ⟨he, hm⟩ => ⟨he, m, hm.symm⟩
      rw [hv0, f2] at ht2
      rw [f1] at ht1
      have k1 : ∀ m, W64 (wr.drewN m) (.slice (some ⟨G, 0, none⟩) (dig B64 (val B64 us / val B64 bs)).length K) (val B64 us / val B64 bs) := fun m => by
        refine ⟨_, _, rfl, ?_, ?_⟩
        · rw [← f1, hqK]; exact trim_le b64_two hst.qlow
        · have := (hq0.take (dig B64 (val B64 qs)).length).keep (below_drewN (Below.refl _ wr) m)
          rw [trim_take b64_two hst.qlow, f1] at this
          exact this
      have k2 : ∀ m, W64 (wr.drewN m) (.slice (some ⟨w.heap.size, 0, none⟩) (dig B64 (val B64 us % val B64 bs)).length (L + 1)) (val B64 us % val B64 bs) := fun m => by
        refine ⟨_, _, rfl, ?_, ?_⟩
        · rw [← f2]; exact Nat.le_trans (trim_le b64_two hst.rlow) (by have := HL.out; omega)
        · have := (hr0.take (dig B64 (val B64 (rs.take n))).length).keep (below_drewN (Below.refl _ wr) m)
          rw [trim_take b64_two (hst.rlow.take n), hv0, f2] at this
          exact this
      generalize val B64 us / val B64 bs = Q at *
      generalize val B64 us % val B64 bs = R at *
      have HT1 := Lib.hid ht1
      have HT2 := Lib.hid ht2
      have K1 := Lib.hid k1
      have K2 := Lib.hid k2
      clear ht1 ht2 k1 k2 f1 f2 hv0 hnl hqK hq0 hr0 hst hrl hql hh hB
      go_wp2_with (fail)
      go_quiet (first | (go_at_call 93; with_reducible exact HT1.out _) | (go_at_call 93; with_reducible exact HT2.out _))
      go_wp2
      go_ret2
      exact ⟨_, _, rfl, K1.out _, K2.out _, below_drewN hbl _⟩
    · obtain ⟨j, rfl⟩ : ∃ j, k = j + 1 := ⟨k - 1, by omega⟩
      have hB1 := hB.keep hbl
      obtain ⟨gb, ob, b1, rfl, hgb, hb1, hcb1⟩ := hB1.at_ (i := n - 1) (by have := HN.out; omega)
      obtain ⟨gb', ob', b0, e0, hgb', hb0, hcb0⟩ := hB1.at_ (i := n - 2) (by have := HN.out; omega)
      injection e0 with e0
      injection e0 with e0 e0'
      subst e0 e0'
      have hjn : j + n < rs.length := by have := HL.out; have := HK.out; omega
      obtain ⟨t, ht⟩ : ∃ t, rs[j + n]? = some t := ⟨rs[j + n], List.getElem?_eq_getElem _⟩
      obtain ⟨r1, hr1⟩ : ∃ t, rs[j + n - 1]? = some t := ⟨rs[j + n - 1], List.getElem?_eq_getElem _⟩
      obtain ⟨r0, hr0⟩ : ∃ t, rs[j + n - 2]? = some t := ⟨rs[j + n - 2], List.getElem?_eq_getElem _⟩
      have ct := hrow.cell ht
      have c1 := hrow.cell hr1
      have c0 := hrow.cell hr0
      have lt1 : r1 < B64 := hst.rlow r1 (List.mem_of_getElem? hr1)
      have lt0 : r0 < B64 := hst.rlow r0 (List.mem_of_getElem? hr0)
      have lb1 : b1 < B64 := hb b1 (List.mem_of_getElem? hb1)
      have lb0 : b0 < B64 := hb b0 (List.mem_of_getElem? hb0)
      have hnorm := hh b1 hb1
      have hest : ∀ (w : World) (m : Nat), Calls Tryz.prog 137 #[.int .u64 (t : Int), .int .u64 (r1 : Int), .int .u64 (r0 : Int), .int .u64 (b1 : Int), .int .u64 (b0 : Int)] (w.drewN m) fun e w'' => e = .returned (.int .u64 ((estD t r1 r0 b1 b0 : Nat) : Int)) ∧ ∃ m', w'' = w.drewN m' := fun w m =>
        (estimate_fix t r1 r0 b1 b0 lt1 lt0 lb1 lb0 hnorm (w.drewN m)).mono fun e w' ⟨he, m', hm⟩ => ⟨he, m + m', by rw [hm, World.drewN_drewN]⟩
      obtain ⟨d1, d2, d3⟩ := estD_ok (a2 := t) (a0 := r0) (b0 := b0) lt1 lt0 hnorm
      generalize estD t r1 r0 b1 b0 = d at *
      have x1 : ((j : Int) + (n : Int) - 1).toNat = j + n - 1 := by omega
      have x2 : ((j : Int) + (n : Int) - 2).toNat = j + n - 2 := by omega
      have x3 : ((n : Int) - 1).toNat = n - 1 := by omega
      have x4 : ((n : Int) - 2).toNat = n - 2 := by omega
      have hjL : j + n ≤ L := by have := HL.out; omega
      have y1 : (j : Int) ≤ (L : Int) + 1 := by omega
      have y2 : ¬ L + 1 = j := by omega
      have HEST := Lib.hid hest
      have HT := Lib.hid ht
      have HR1 := Lib.hid hr1
      have HR0' := Lib.hid hr0
      have HB1 := Lib.hid hb1
      have HB0 := Lib.hid hb0
      have HD2 := Lib.hid d2
      have HD3 := Lib.hid d3
      have HST := Lib.hid hst
      have HQL := Lib.hid hql
      have HRL := Lib.hid hrl
      have hB2 : Nums .u64 wr (some ⟨gb, ob, none⟩) bs := hB1
      clear hest ht hr1 hr0 hb1 hb0 d2 d3 hst hB1 hB hh hql hrl
      go_wp2_with (fail)
      go_quiet ((go_at_call 137; exact HEST.out _ _))
      go_wp2_with (fail)
      refine (subScaled_any w.heap.size j _ _ c' n d rs bs _ _ (Row.of_block hrow (by rfl)) HST.out.rlow (hB2.keep (below_drewN (Below.refl _ _) _)) hb HNE.out HN.out (by have := HRL.out; omega) d1 (by omega) (by omega) (by omega)).mono ?_
      rintro e w2 ⟨zs1, ov, rfl, hs1, hrz, hgz⟩
      rw [← HN.out] at hs1
      have hB3 := (hB2.keep (below_drewN (Below.refl _ _) _)).grown HNE.out hgz
      have hrg1 : Row .u64 67 w2 G qs := Row.grown (Row.of_block hrow2 (by rfl)) hgz (by intro h; injection h with h; omega)
      have hb2 : Below w.heap.size w w2 := (below_drewN hbl _).grown hgz hbl.size (fun k hk => by injection hk with hk; omega)
      have hjq : j < qs.length := by have := HQL.out; have := HN.out; have := HL.out; have := HK.out; omega
      obtain ⟨es1, es2⟩ := HST.out.est (n := n - 2) (b1 := b1) (b0 := b0) (t := t) (r1 := r1) (r0 := r0) (d := d) hb (by have := HN.out; omega) (by rw [show j + (n - 2 + 2) = j + n by omega]; exact HT.out) hjq (by rw [show j + (n - 2) + 1 = j + n - 1 by omega]; exact HR1.out) (by rw [show j + (n - 2) = j + n - 2 by omega]; exact HR0'.out) (by rw [show n - 2 + 1 = n - 1 by omega]; exact HB1.out) HB0.out hnorm (by unfold B64 at *; omega) d1 HD2.out HD3.out
      have ES1 := Lib.hid es1
      have ES2 := Lib.hid es2
      clear es1 es2
      have hzl1 : zs1.length = rs.length := hs1.len
      obtain ⟨o1, hx1⟩ : ∃ o, zs1[j + n]? = some o := ⟨zs1[j + n]'(by omega), List.getElem?_eq_getElem _⟩
      have cz1 := hrz.cell hx1
      have fz1 := hrz.frozen (j + n)
      obtain ⟨oq, hq1⟩ : ∃ o, qs[j]? = some o := ⟨qs[j], List.getElem?_eq_getElem _⟩
      have hrq1 := hrg1.setOther (a := ⟨w.heap.size, j + n, none⟩) (by show G ≠ w.heap.size; omega) (.int .u64 0)
      have cq1 := hrq1.cell hq1
      have fq1 := hrq1.frozen j
      have HS1 := Lib.hid hs1
      have HX1 := Lib.hid hx1
      have HQ1 := Lib.hid hq1
      have HZL1 := Lib.hid hzl1
      clear hs1 hx1 hq1 hzl1
      by_cases hov : ov ≤ t
      · have hnew := HST.out.right b64_two hb HN.out.symm HT.out hjq HS1.out ES1.out d1 hov
        have HNEW := Lib.hid hnew
        clear hnew
        go_wp2
        go_roundw
        case rel => exact ⟨j, _, _, by omega, by first | rfl | go_num, HNEW.out, (hrz.set (j + n) 0).setOther (by show w.heap.size ≠ G; omega) _, hrq1.set j d, below_set (below_set hb2 (Nat.le_refl _) _) (by omega) _⟩
        case measure => simp [intOf]
      · have hov' : t < ov := by omega
        have hdp := subSc_pos HS1.out (by have := HN.out; have := HRL.out; omega) (by omega)
        obtain ⟨d', hd'⟩ : ∃ d', d - 1 = d' := ⟨_, rfl⟩
        have wd : IntKind.u64.wrap ((d : Int) - 1) = (d' : Int) := by unfold B64 at d1; rw [IntKind.wrap_u64]; omega
        have HD' := Lib.hid hd'
        clear hd'
        go_wp2_with (fail)
        refine (addTo_any w.heap.size j _ _ c' n zs1 bs _ _ hrz HS1.out.low (by have := HZL1.out; omega) hB3 hb HNE.out HN.out (by omega) (by omega)).mono ?_
        rintro e w3 ⟨ys, cy, rfl, ha1, hry, hgy⟩
        have hb3 : Below w.heap.size w w3 := hb2.grown hgy hb2.size (fun k hk => by injection hk with hk; omega)
        have hrg2 := hrg1.grown hgy (by intro h; injection h with h; omega)
        obtain ⟨_, hnew⟩ := HST.out.less b64_two hb HN.out.symm HT.out hjq HS1.out ha1 ES2.out d1 hov'
        rw [HD'.out] at hnew
        have hzl2 := ha1.len
        obtain ⟨o2, hx2⟩ : ∃ o, ys[j + n]? = some o := ⟨ys[j + n]'(by have := HZL1.out; omega), List.getElem?_eq_getElem _⟩
        have cz2 := hry.cell hx2
        have fz2 := hry.frozen (j + n)
        have hrq2 := hrg2.setOther (a := ⟨w.heap.size, j + n, none⟩) (by show G ≠ w.heap.size; omega) (.int .u64 0)
        have cq2 := hrq2.cell HQ1.out
        have fq2 := hrq2.frozen j
        have HNEW := Lib.hid hnew
        have HA1 := Lib.hid ha1
        have HX2 := Lib.hid hx2
        have HZL2 := Lib.hid hzl2
        clear hnew ha1 hx2 hzl2
        go_wp2
        go_roundw
        case rel => exact ⟨j, _, _, by omega, by first | rfl | go_num, HNEW.out, (hry.set (j + n) 0).setOther (by show w.heap.size ≠ G; omega) _, hrq2.set j d', below_set (below_set hb3 (Nat.le_refl _) _) (by omega) _⟩
        case measure => simp [intOf]
end Go.Proofs.YthgekjkgfccnaaaGreat
