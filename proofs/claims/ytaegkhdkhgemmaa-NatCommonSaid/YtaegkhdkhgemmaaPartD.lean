/- Part of the proof of NatCommon: MulSub, GcdLaws, Lead, Sub, Adds, U64, BitsR, RefS, RefOf, ChecksW, Subs, RefC, RefAdd. -/
import Derived.Test.YtaegkhdkhgemmaaPartC
import Derived.Test.YtaegkhdkhgemmaaPartB
import Derived.Laws.Rows
namespace Go.Proofs.Ytaegkhdkhgemmaa
open Go.RowKit Num

/-- A word that is read with a sign. -/
structure SgnW (o : Int) (ov : Nat) : Prop where
  lt : ov < B64
  le : -4611686018427387904 ≤ o ∧ o ≤ 4611686018427387904
  is : (0 ≤ o ∧ (ov : Int) = o) ∨ (o < 0 ∧ (ov : Int) = o + 18446744073709551616)
theorem SgnW.zero : SgnW 0 0 := ⟨b64_pos, by omega, .inl ⟨by omega, rfl⟩⟩

def MulSubPost (p v q x : Nat) (o : Int) (w : World) (e : Ending) (w' : World) : Prop :=
  ∃ (lo hi : Nat) (o' : Int), e = .returned (.tuple #[.int .u64 (lo : Int), .int .u64 (hi : Int)]) ∧ lo < B64 ∧ SgnW o' hi ∧ (p : Int) * v - (q : Int) * x + o = lo + 18446744073709551616 * o' ∧ w' = w

theorem mulSub_ex (p v q x : Nat) (o : Int) (ov : Nat) (hp : p ≤ 4611686018427387904) (hq : q ≤ 4611686018427387904) (hv : v < B64) (hx : x < B64) (ho : SgnW o ov) :
    ∃ hi lo hi2 lo2 lo3 b3 h3 c3 lo4 c4 h5 sg h6 : Nat, ∃ si : Int,
    (∀ w, Calls Try.prog 121 #[.int .u64 (p : Int), .int .u64 (v : Int)] w fun e w' => e = .returned (.tuple #[.int .u64 (hi : Int), .int .u64 (lo : Int)]) ∧ w = w') ∧
    (∀ w, Calls Try.prog 121 #[.int .u64 (q : Int), .int .u64 (x : Int)] w fun e w' => e = .returned (.tuple #[.int .u64 (hi2 : Int), .int .u64 (lo2 : Int)]) ∧ w = w') ∧
    (∀ w, (callFunc 126 #[.int .u64 (lo : Int), .int .u64 (lo2 : Int), .int .u64 0]).run Try.prog w = .ok (.value (.tuple #[.int .u64 (lo3 : Int), .int .u64 (b3 : Int)])) w) ∧
    (∀ w, (callFunc 126 #[.int .u64 (hi : Int), .int .u64 (hi2 : Int), .int .u64 (b3 : Int)]).run Try.prog w = .ok (.value (.tuple #[.int .u64 (h3 : Int), .int .u64 (c3 : Int)])) w) ∧
    (∀ w, (callFunc 122 #[.int .u64 (lo3 : Int), .int .u64 (ov : Int), .int .u64 0]).run Try.prog w = .ok (.value (.tuple #[.int .u64 (lo4 : Int), .int .u64 (c4 : Int)])) w) ∧
    IntKind.u64.wrap ((h3 : Int) + (c4 : Int)) = (h5 : Int) ∧
    IntKind.i64.wrap (ov : Int) = o ∧
    o / 9223372036854775808 = si ∧ IntKind.i64.wrap si = si ∧ IntKind.u64.wrap si = (sg : Int) ∧
    IntKind.u64.wrap ((h5 : Int) + (sg : Int)) = (h6 : Int) ∧
    lo4 < B64 ∧ ∃ o' : Int, SgnW o' h6 ∧ (p : Int) * v - (q : Int) * x + o = lo4 + 18446744073709551616 * o' := by
  obtain ⟨hi, lo, m1, e1, l1, _⟩ := mul64_ex p v (by unfold B64; omega) hv
  obtain ⟨hi2, lo2, m2, e2, l2, _⟩ := mul64_ex q x (by unfold B64; omega) hx
  obtain ⟨lo3, b3, m3, e3, l3, g3⟩ := sub64_ex0 lo lo2 l1 l2
  obtain ⟨h3, c3, m4, e4, l4, g4⟩ := sub64_ex hi hi2 b3 (by omega) (by omega) g3
  obtain ⟨lo4, c4, m5, e5, l5, g5⟩ := add64_ex0 lo3 ov l3 ho.lt
  have f1 : p * v ≤ 4611686018427387904 * 18446744073709551615 := Nat.mul_le_mul hp (by unfold B64 at hv; omega)
  have f2 : q * x ≤ 4611686018427387904 * 18446744073709551615 := Nat.mul_le_mul hq (by unfold B64 at hx; omega)
  have n1 : (p : Int) * v = ((p * v : Nat) : Int) := (Int.natCast_mul _ _).symm
  have n2 : (q : Int) * x = ((q * x : Nat) : Int) := (Int.natCast_mul _ _).symm
  obtain ⟨hlt, hle, his⟩ := ho
  rw [n1, n2]
  clear n1 n2
  generalize p * v = P at *
  generalize q * x = Q at *
  obtain ⟨n, hn⟩ : ∃ n : Nat, (n = 0 ∧ 0 ≤ o ∧ (ov : Int) = o) ∨ (n = 1 ∧ o < 0 ∧ (ov : Int) = o + 18446744073709551616) := by
    rcases his with h | h
    · exact ⟨0, .inl ⟨rfl, h⟩⟩
    · exact ⟨1, .inr ⟨rfl, h⟩⟩
  clear his
  refine ⟨hi, lo, hi2, lo2, lo3, b3, h3, c3, lo4, c4, (h3 + c4) % B64, n * 18446744073709551615, ((h3 + c4) % B64 + n * 18446744073709551615) % B64, -(n : Int), m1, m2, m3, m4, m5, ?_, ?_, ?_, ?_, ?_, ?_, l5, (hi : Int) - hi2 - b3 + c4 - n, ⟨Nat.mod_lt _ b64_pos, ?_, ?_⟩, ?_⟩
  all_goals clear m1 m2 m3 m4 m5
  all_goals unfold B64 at *
  · rw [IntKind.wrap_u64]; omega
  · rw [IntKind.wrap_i64]; omega
  · omega
  · rw [IntKind.wrap_i64]; omega
  · rw [IntKind.wrap_u64]; omega
  · rw [IntKind.wrap_u64]; omega
  · omega
  · rcases hn with ⟨rfl, hn, hn'⟩ | ⟨rfl, hn, hn'⟩
    · omega
    · omega
  · omega

set_option maxHeartbeats 1000000 in
set_option maxRecDepth 100000 in
theorem mulSub_any (p v q x : Nat) (o : Int) (ov : Nat) (hp : p ≤ 4611686018427387904) (hq : q ≤ 4611686018427387904) (hv : v < B64) (hx : x < B64) (ho : SgnW o ov) (w : World) :
    Calls Try.prog 137 #[.int .u64 (p : Int), .int .u64 (v : Int), .int .u64 (q : Int), .int .u64 (x : Int), .int .u64 (ov : Int)] w (MulSubPost p v q x o w) := by
  obtain ⟨hi, lo, hi2, lo2, lo3, b3, h3, c3, lo4, c4, h5, sg, h6, si, m1, m2, m3, m4, m5, k5, ki, ks, kj, kg, k6, hl, o', hs, he⟩ := mulSub_ex p v q x o ov hp hq hv hx ho
  have M1 := Lib.hid m1
  have M2 := Lib.hid m2
  have HE := Lib.hid he
  have HS := Lib.hid hs
  clear m1 m2 he hs ho hp hq hv hx
  go_enter Try.func137, Try.ntmps137
  go_wp2_with (fail)
  refine (M1.out _).mono ?_
  rintro e w' ⟨rfl, rfl⟩
  go_wp2_with (fail)
  refine (M2.out _).mono ?_
  rintro e w' ⟨rfl, rfl⟩
  go_wp2
  go_ret2
  exact ⟨lo4, h6, o', by go_num, hl, HS.out, HE.out, rfl⟩
end Go.Proofs.Ytaegkhdkhgemmaa

namespace Go.Proofs.Num

/-- Steps of Euclid that leading places decide: a, b the present pair, (p, q, s, t) how it is made of A, B, and x, y the leading places' own pair;
whatever places follow, a lies between (x+p)F and (x+q)F. M bounds all that is reckoned with. -/
structure Leh (A B : Nat) (F M x y p q s t : Int) (a b : Nat) : Prop where
  F0 : 0 < F
  xp : 0 ≤ x + p ∧ x + p ≤ M
  xq : 0 ≤ x + q ∧ x + q ≤ M
  ys : 0 ≤ y + s ∧ y + s ≤ M
  yt : 0 ≤ y + t ∧ y + t ≤ M
  isA : (a : Int) = p * A + q * B
  isB : (b : Int) = s * A + t * B
  gcd : Nat.gcd a b = Nat.gcd A B
  le : b ≤ a
  aA : a ≤ A
  bB : b ≤ B
  lt : (p = 1 ∧ q = 0 ∧ s = 0 ∧ t = 1) ∨ b < B
  side : (0 ≤ p ∧ q ≤ 0 ∧ s ≤ 0 ∧ 0 ≤ t ∧ (x + q) * F ≤ a ∧ (a : Int) ≤ (x + p) * F ∧ (y + s) * F ≤ b ∧ (b : Int) ≤ (y + t) * F) ∨
    (p ≤ 0 ∧ 0 ≤ q ∧ 0 ≤ s ∧ t ≤ 0 ∧ (x + p) * F ≤ a ∧ (a : Int) ≤ (x + q) * F ∧ (y + t) * F ≤ b ∧ (b : Int) ≤ (y + s) * F)

theorem Leh.start {A B F : Nat} (hF : 0 < F) (h : B ≤ A) : Leh A B F ((A / F : Nat) + 1) (A / F : Nat) (B / F : Nat) 1 0 0 1 A B := by
  have h1 := Nat.div_add_mod A F
  have h2 := Nat.div_add_mod B F
  have h3 := Nat.mod_lt A hF
  have h4 := Nat.mod_lt B hF
  have h5 : B / F ≤ A / F := Nat.div_le_div_right h
  rw [Nat.mul_comm] at h1 h2
  generalize A / F = X at *
  generalize B / F = Y at *
  generalize A % F = u at *
  generalize B % F = v at *
  refine ⟨by omega, by omega, by omega, by omega, by omega, by omega, by omega, rfl, h, Nat.le_refl _, Nat.le_refl _, .inl ⟨rfl, rfl, rfl, rfl⟩, .inl ⟨by omega, by omega, by omega, by omega, ?_, ?_, ?_, ?_⟩⟩
  · rw [Int.add_zero]; omega
  · rw [Int.add_mul]; omega
  · rw [Int.add_zero]; omega
  · rw [Int.add_mul]; omega

/-- One step, where both bounds give the same quotient. -/
theorem Leh.step {A B : Nat} {F M x y p q s t : Int} {a b : Nat} (h : Leh A B F M x y p q s t a b) (h1 : y + s ≠ 0) (h2 : y + t ≠ 0) {d : Int}
    (hd1 : d = (x + p) / (y + s)) (hd2 : d = (x + q) / (y + t)) :
    Leh A B F M y (x - d * y) s t (p - d * s) (q - d * t) b (a % b) ∧ 0 < b ∧ x - d * y < y := by
  obtain ⟨F0, xp, xq, ys, yt, isA, isB, gcd, le, aA, bB, lt, side⟩ := h
  have e1 := Int.emod_add_mul_ediv (x + p) (y + s)
  have e2 := Int.emod_add_mul_ediv (x + q) (y + t)
  rw [← hd1] at e1
  rw [← hd2] at e2
  have m1 := Int.emod_nonneg (x + p) h1
  have m2 := Int.emod_nonneg (x + q) h2
  have m3 := Int.emod_lt_of_pos (x + p) (show 0 < y + s by omega)
  have m4 := Int.emod_lt_of_pos (x + q) (show 0 < y + t by omega)
  have d0 : 0 ≤ d := by rw [hd1]; exact Int.ediv_nonneg xp.1 (by omega)
  generalize (x + p) % (y + s) = r1 at *
  generalize (x + q) % (y + t) = r2 at *
  clear hd1 hd2
  -- the bounds of b, times d
  have hb0 : 0 < b := by
    rcases side with ⟨_, _, _, _, _, _, h7, _⟩ | ⟨_, _, _, _, _, _, h7, _⟩
    · have := Int.mul_le_mul_of_nonneg_right (show 1 ≤ y + s by omega) (Int.le_of_lt F0); omega
    · have := Int.mul_le_mul_of_nonneg_right (show 1 ≤ y + t by omega) (Int.le_of_lt F0); omega
  have hdiv : (a : Int) = d * b + (a % b : Nat) := by
    have key : d * (b : Int) ≤ a ∧ (a : Int) < (d + 1) * b := by
      rcases side with ⟨_, _, _, _, h5, h6, h7, h8⟩ | ⟨_, _, _, _, h5, h6, h7, h8⟩
      · have k1 := Int.mul_le_mul_of_nonneg_left h8 d0
        have k2 := Int.mul_le_mul_of_nonneg_left h7 (show 0 ≤ d + 1 by omega)
        have k3 := Int.mul_le_mul_of_nonneg_right (show d * (y + t) ≤ x + q by rw [Int.mul_comm]; omega) (Int.le_of_lt F0)
        have k4 := Int.mul_lt_mul_of_pos_right (show x + p < (d + 1) * (y + s) by rw [Int.add_mul, Int.mul_comm d]; omega) F0
        rw [Int.mul_assoc] at k3 k4
        omega
      · have k1 := Int.mul_le_mul_of_nonneg_left h8 d0
        have k2 := Int.mul_le_mul_of_nonneg_left h7 (show 0 ≤ d + 1 by omega)
        have k3 := Int.mul_le_mul_of_nonneg_right (show d * (y + s) ≤ x + p by rw [Int.mul_comm]; omega) (Int.le_of_lt F0)
        have k4 := Int.mul_lt_mul_of_pos_right (show x + q < (d + 1) * (y + t) by rw [Int.add_mul, Int.mul_comm d]; omega) F0
        rw [Int.mul_assoc] at k3 k4
        omega
    have hq : (a : Int) / (b : Int) = d := by
      refine Int.le_antisymm ?_ ?_
      · exact Int.le_of_lt_add_one ((Int.ediv_lt_iff_lt_mul (by omega)).2 key.2)
      · exact (Int.le_ediv_iff_mul_le (by omega)).2 key.1
    have := Int.emod_add_mul_ediv (a : Int) (b : Int)
    rw [hq] at this
    rw [Int.natCast_emod]
    rw [Int.mul_comm] at this
    omega
  have hrb : a % b < b := Nat.mod_lt _ hb0
  have hg : Nat.gcd b (a % b) = Nat.gcd A B := by
    rw [← gcd, Nat.gcd_comm b, ← Nat.gcd_rec, Nat.gcd_comm]
  generalize a % b = c at *
  have n1 : (c : Int) = a - d * b := by omega
  have f1 : d * (y + s) = d * y + d * s := by rw [Int.mul_add]
  have f2 : d * (y + t) = d * y + d * t := by rw [Int.mul_add]
  rw [Int.mul_comm] at e1 e2
  refine ⟨⟨F0, ys, yt, by omega, by omega, isB, ?_, hg, by omega, by omega, by omega, .inr (by omega), ?_⟩, hb0, ?_⟩
  · rw [n1, isA, isB]; grind
  · have g1 : (x - d * y + (p - d * s)) = r1 := by omega
    have g2 : (x - d * y + (q - d * t)) = r2 := by omega
    rw [g1, g2]
    have g3 : r1 * F = (x + p) * F - d * ((y + s) * F) := by rw [show r1 = (x + p) - d * (y + s) by omega, Int.sub_mul, Int.mul_assoc]
    have g4 : r2 * F = (x + q) * F - d * ((y + t) * F) := by rw [show r2 = (x + q) - d * (y + t) by omega, Int.sub_mul, Int.mul_assoc]
    rw [g3, g4]
    rcases side with ⟨i1, i2, i3, i4, h5, h6, h7, h8⟩ | ⟨i1, i2, i3, i4, h5, h6, h7, h8⟩
    · have k1 := Int.mul_le_mul_of_nonneg_left h8 d0
      have k2 := Int.mul_le_mul_of_nonneg_left h7 d0
      have z1 : d * s ≤ 0 := Int.mul_nonpos_of_nonneg_of_nonpos d0 i3
      have z2 : 0 ≤ d * t := Int.mul_nonneg d0 i4
      exact .inr ⟨i3, i4, by omega, by omega, h7, h8, by omega, by omega⟩
    · have k1 := Int.mul_le_mul_of_nonneg_left h8 d0
      have k2 := Int.mul_le_mul_of_nonneg_left h7 d0
      have z1 : 0 ≤ d * s := Int.mul_nonneg d0 i3
      have z2 : d * t ≤ 0 := Int.mul_nonpos_of_nonneg_of_nonpos d0 i4
      exact .inl ⟨i3, i4, by omega, by omega, h7, h8, by omega, by omega⟩
  · rcases side with ⟨i1, i2, i3, i4, _⟩ | ⟨i1, i2, i3, i4, _⟩
    · have z1 : d * s ≤ 0 := Int.mul_nonpos_of_nonneg_of_nonpos d0 i3
      omega
    · have z2 : d * t ≤ 0 := Int.mul_nonpos_of_nonneg_of_nonpos d0 i4
      omega

/-- What is reckoned with stays small: with M at most 2^62 nothing leaves the 64 bits. -/
theorem Leh.small {A B : Nat} {F M x y p q s t : Int} {a b : Nat} (h : Leh A B F M x y p q s t a b) :
    (0 ≤ x ∧ x ≤ M) ∧ (0 ≤ y ∧ y ≤ M) ∧ (-M ≤ p ∧ p ≤ M) ∧ (-M ≤ q ∧ q ≤ M) ∧ (-M ≤ s ∧ s ≤ M) ∧ (-M ≤ t ∧ t ≤ M) ∧ ((0 ≤ p ∧ q ≤ 0 ∧ s ≤ 0 ∧ 0 ≤ t) ∨ (p ≤ 0 ∧ 0 ≤ q ∧ 0 ≤ s ∧ t ≤ 0)) := by
  obtain ⟨F0, xp, xq, ys, yt, isA, isB, gcd, le, aA, bB, lt, side⟩ := h
  rcases side with ⟨i1, i2, i3, i4, _⟩ | ⟨i1, i2, i3, i4, _⟩
  · exact ⟨by omega, by omega, by omega, by omega, by omega, by omega, .inl ⟨i1, i2, i3, i4⟩⟩
  · exact ⟨by omega, by omega, by omega, by omega, by omega, by omega, .inr ⟨i1, i2, i3, i4⟩⟩

/-- What some steps of Euclid make of two numbers: what is left of Leh when the leading places are forgotten. -/
structure Steps (A B : Nat) (p q s t : Int) (a b : Nat) : Prop where
  isA : (a : Int) = p * A + q * B
  isB : (b : Int) = s * A + t * B
  gcd : Nat.gcd a b = Nat.gcd A B
  le : b ≤ a
  aA : a ≤ A
  bB : b ≤ B
  lt : q = 0 ∨ b < B
  bp : -4611686018427387904 ≤ p ∧ p ≤ 4611686018427387904
  bq : -4611686018427387904 ≤ q ∧ q ≤ 4611686018427387904
  bs : -4611686018427387904 ≤ s ∧ s ≤ 4611686018427387904
  bt : -4611686018427387904 ≤ t ∧ t ≤ 4611686018427387904
  side : (0 ≤ p ∧ q ≤ 0 ∧ s ≤ 0 ∧ 0 ≤ t) ∨ (p ≤ 0 ∧ 0 ≤ q ∧ 0 ≤ s ∧ t ≤ 0)
theorem Leh.steps {A B : Nat} {F M x y p q s t : Int} {a b : Nat} (h : Leh A B F M x y p q s t a b) (hM : M ≤ 4611686018427387904) : Steps A B p q s t a b := by
  obtain ⟨_, _, h1, h2, h3, h4, h5⟩ := h.small
  refine ⟨h.isA, h.isB, h.gcd, h.le, h.aA, h.bB, ?_, by omega, by omega, by omega, by omega, h5⟩
  rcases h.lt with ⟨_, h6, _⟩ | h6
  · exact .inl h6
  · exact .inr h6
/-- The places that are cut off leave 62. -/
theorem lead_places {m f nb : Nat} (hm : m < 2 ^ nb) (hf : nb ≤ f + 62) : m / 2 ^ f < 4611686018427387904 := by
  rw [Nat.div_lt_iff_lt_mul (Nat.two_pow_pos f)]
  have h1 : 2 ^ nb ≤ 2 ^ (f + 62) := Nat.pow_le_pow_right (by omega) hf
  rw [Nat.pow_add, Nat.mul_comm] at h1
  have h2 : (2 : Nat) ^ 62 = 4611686018427387904 := by decide
  rw [h2] at h1
  omega

end Go.Proofs.Num

namespace Go.Proofs.Ytaegkhdkhgemmaa
open Go.RowKit Num

/-- A structure of four numbers in a block of the call's own. -/
def Four (w : World) (g : Nat) (p q s t : Int) : Prop := w.heap[g]? = some (.cells #[.int .i64 p, .int .i64 q, .int .i64 s, .int .i64 t] 129 (0, 0))
theorem Four.c0 {w : World} {g : Nat} {p q s t : Int} (h : Four w g p q s t) : w.cell? ⟨g, 0, none⟩ = some (.int .i64 p) := by unfold Four at h; simp [World.cell?, h]
theorem Four.c1 {w : World} {g : Nat} {p q s t : Int} (h : Four w g p q s t) : w.cell? ⟨g, 1, none⟩ = some (.int .i64 q) := by unfold Four at h; simp [World.cell?, h]
theorem Four.c2 {w : World} {g : Nat} {p q s t : Int} (h : Four w g p q s t) : w.cell? ⟨g, 2, none⟩ = some (.int .i64 s) := by unfold Four at h; simp [World.cell?, h]
theorem Four.c3 {w : World} {g : Nat} {p q s t : Int} (h : Four w g p q s t) : w.cell? ⟨g, 3, none⟩ = some (.int .i64 t) := by unfold Four at h; simp [World.cell?, h]
theorem Four.frozen {w : World} {g : Nat} {p q s t : Int} (h : Four w g p q s t) (i : Nat) : w.frozen? ⟨g, i, none⟩ = false := by unfold Four at h; simp [World.frozen?, h]
theorem Four.set {w : World} {g : Nat} {p q s t : Int} (h : Four w g p q s t) (p' q' s' t' : Int) :
    Four ((((w.setCell ⟨g, 0, none⟩ (.int .i64 p')).setCell ⟨g, 1, none⟩ (.int .i64 q')).setCell ⟨g, 2, none⟩ (.int .i64 s')).setCell ⟨g, 3, none⟩ (.int .i64 t')) g p' q' s' t' := by
  unfold Four at *
  simp [World.setCell, Array.getElem?_modify, h]
theorem Four.other {w : World} {g g' : Nat} {p q s t : Int} (h : Four w g p q s t) (hg : g ≠ g') (a b c d : Value) :
    Four ((((w.setCell ⟨g', 0, none⟩ a).setCell ⟨g', 1, none⟩ b).setCell ⟨g', 2, none⟩ c).setCell ⟨g', 3, none⟩ d) g p q s t := by
  unfold Four at *
  simp [World.setCell, Array.getElem?_modify, h, hg.symm]

theorem und129 : (Try.prog.underlying 129).map (fun d => match d with | .struct _ | .array _ _ => true | _ => false) = some true := by kernel_rfl
theorem size129 : (Try.prog.info? 129).map (·.size) = some 4 := by kernel_rfl
theorem Four.results {fn : Func} {w : World} {g : Nat} {p q s t : Int} (h : Four w g p q s t) {k : Nat} (hr : fn.results = #[.cell k 129]) (tmps : Array Value) (hp : tmps.getD k undef = .pointer (some ⟨g, 0, none⟩)) :
    (results fn tmps).run Try.prog w = .ok (.agg #[.int .i64 p, .int .i64 q, .int .i64 s, .int .i64 t]) w := by
  obtain ⟨d, hd, hm⟩ := Option.map_eq_some_iff.1 und129
  cases d <;> first | exact results_cell_row hr tmps w g 129 _ (0, 0) _ hp h hd rfl size129 | exact absurd hm (by simp)

/-- What leadingSteps gives. -/
def LeadPost (m n : Nat) (M : Int) (w : World) (e : Ending) (w' : World) : Prop :=
  ∃ (F x y p q s t : Int) (a b : Nat), e = .returned (.agg #[.int .i64 p, .int .i64 q, .int .i64 s, .int .i64 t]) ∧ Num.Leh m n F M x y p q s t a b ∧ Below w.heap.size w w'

set_option maxHeartbeats 4000000 in
set_option maxRecDepth 100000 in
theorem lead_core (A A' : Option Addr) (c c' L L' m n nb f x y : Nat) (F M : Int) (hM : M ≤ 4611686018427387904) (w : World)
   (hl0 : Num.Leh m n F M x y 1 0 0 1 m n)
   (hf : max (wrap64 ((nb : Int) - 62)) 0 = (f : Int)) (x1 : IntKind.i64.wrap (x : Int) = x) (y1 : IntKind.i64.wrap (y : Int) = y) (hb : ∀ w1 : World, Below w.heap.size w w1 → Calls Try.prog 91 #[.slice A L c] w1 fun e w' => e = .returned (.int .i64 (nb : Nat)) ∧ w1 = w')
   (hx : ∀ w1 : World, Below w.heap.size w w1 → Calls Try.prog 77 #[.slice A L c, .int .i64 (f : Int)] w1 fun e w' => e = .returned (.int .u64 (x : Nat)) ∧ w1 = w')
   (hy : ∀ w1 : World, Below w.heap.size w w1 → Calls Try.prog 77 #[.slice A' L' c', .int .i64 (f : Int)] w1 fun e w' => e = .returned (.int .u64 (y : Nat)) ∧ w1 = w') :
    Calls Try.prog 119 #[.slice A L c, .slice A' L' c'] w (LeadPost m n M w) := by
  have HB := Lib.hid hb
  have HX := Lib.hid hx
  have HY := Lib.hid hy
  have HL0 := Lib.hid hl0
  have HM := Lib.hid hM
  clear hb hx hy hl0 hM
  have hbA := below_new w (Obj.cells #[.int .i64 0, .int .i64 0, .int .i64 0, .int .i64 0] 129)
  go_enter Try.func119, Try.ntmps119
  go_wp2_with (fail)
  refine (HB.out _ hbA).mono ?_
  rintro e w1 ⟨rfl, rfl⟩
  go_wp2_with (fail)
  refine (HX.out _ hbA).mono ?_
  rintro e w1 ⟨rfl, rfl⟩
  go_wp2_with (fail)
  refine (HY.out _ hbA).mono ?_
  rintro e w1 ⟨rfl, rfl⟩
  go_wp2
  clear hf x1 y1
  go_loopw [6, 7] (fun xv yv wr => ∃ (X Y p q s t : Int) (a b : Nat), xv = .int .i64 X ∧ yv = .int .i64 Y ∧ Num.Leh m n F M X Y p q s t a b ∧ Four wr (w.heap.size + 1) p q s t ∧ Four wr w.heap.size 0 0 0 0 ∧ Below w.heap.size w wr) (fun _ yv _ => (intOf yv).toNat)
  case atStart =>
    refine ⟨_, _, 1, 0, 0, 1, m, n, rfl, rfl, HL0.out, ?_, ?_, ?_⟩
    · have := heap_alloc_new (w.alloc (Obj.cells #[.int .i64 0, .int .i64 0, .int .i64 0, .int .i64 0] 129)) (Obj.cells #[.int .i64 1, .int .i64 0, .int .i64 0, .int .i64 1] 129)
      simpa [Four] using this
    · unfold Four
      rw [(below_new (w.alloc (Obj.cells #[.int .i64 0, .int .i64 0, .int .i64 0, .int .i64 0] 129)) (Obj.cells #[.int .i64 1, .int .i64 0, .int .i64 0, .int .i64 1] 129)).block _ (by simp)]
      exact heap_alloc_new w _
    · exact ((Below.refl _ w).alloc (Nat.le_refl _) _).alloc (by simp) _
  case round =>
    obtain ⟨X, Y, p, q, s, t, a, b, rfl, rfl, hl, h4, h0, hbl⟩ := hrel
    have c0 := h4.c0
    have c1 := h4.c1
    have c2 := h4.c2
    have c3 := h4.c3
    have fr := h4.frozen
    have z0 := h0.c0
    have z1 := h0.c1
    have z2 := h0.c2
    have z3 := h0.c3
    have zr := h0.frozen
    obtain ⟨hX, hY, hp, hq, hs, ht, _⟩ := hl.small
    have hl' := hl
    obtain ⟨F0, xp, xq, ys, yt, _⟩ := hl'
    have hM := HM.out
    obtain ⟨YS, hYS⟩ : ∃ v, Y + s = v := ⟨_, rfl⟩
    obtain ⟨YT, hYT⟩ : ∃ v, Y + t = v := ⟨_, rfl⟩
    obtain ⟨XP, hXP⟩ : ∃ v, X + p = v := ⟨_, rfl⟩
    obtain ⟨XQ, hXQ⟩ : ∃ v, X + q = v := ⟨_, rfl⟩
    have w1 : IntKind.i64.wrap (Y + s) = YS := by rw [← hYS]; exact IntWalk.i64_in _ (by omega)
    have w2 : IntKind.i64.wrap (Y + t) = YT := by rw [← hYT]; exact IntWalk.i64_in _ (by omega)
    have w3 : IntKind.i64.wrap (X + p) = XP := by rw [← hXP]; exact IntWalk.i64_in _ (by omega)
    have w4 : IntKind.i64.wrap (X + q) = XQ := by rw [← hXQ]; exact IntWalk.i64_in _ (by omega)
    by_cases e1 : YS = 0
    · have k1 : (YS != 0) = false := by simpa using e1
      have HL := Lib.hid hl
      clear hl xp xq ys yt hYS hYT hXP hXQ hX hY hp hq hs ht hM
      go_wp2
      (try simp only [Exit.inBlock, Exit.then])
      refine bodyPost_ret (Four.results (h0.set p q s t) rfl _ rfl) rfl ?_
      exact ⟨F, X, Y, p, q, s, t, a, b, rfl, HL.out, (below_set (below_set (below_set (below_set hbl (Nat.le_refl _) _) (Nat.le_refl _) _) (Nat.le_refl _) _) (Nat.le_refl _) _)⟩
    · have k1 : (YS != 0) = true := by simpa using e1
      have k1' : (YS == 0) = false := by simpa using e1
      by_cases e2 : YT = 0
      · have k2 : (YT != 0) = false := by simpa using e2
        have HL := Lib.hid hl
        clear hl xp xq ys yt hYS hYT hXP hXQ hX hY hp hq hs ht hM
        go_wp2
        (try simp only [Exit.inBlock, Exit.then])
        refine bodyPost_ret (Four.results (h0.set p q s t) rfl _ rfl) rfl ?_
        exact ⟨F, X, Y, p, q, s, t, a, b, rfl, HL.out, (below_set (below_set (below_set (below_set hbl (Nat.le_refl _) _) (Nat.le_refl _) _) (Nat.le_refl _) _) (Nat.le_refl _) _)⟩
      · have k2 : (YT != 0) = true := by simpa using e2
        have k2' : (YT == 0) = false := by simpa using e2
        obtain ⟨d, hd⟩ : ∃ d, XP / YS = d := ⟨_, rfl⟩
        obtain ⟨d2, hd2⟩ : ∃ d, XQ / YT = d := ⟨_, rfl⟩
        have hdb := IntWalk.tdiv_le XP YS (by omega) (by omega)
        have hdb2 := IntWalk.tdiv_le XQ YT (by omega) (by omega)
        rw [hd] at hdb
        rw [hd2] at hdb2
        have t1 : XP.tdiv YS = d := by rw [Int.tdiv_eq_ediv_of_nonneg (by omega)]; exact hd
        have t2 : XQ.tdiv YT = d2 := by rw [Int.tdiv_eq_ediv_of_nonneg (by omega)]; exact hd2
        have u1 : IntKind.i64.wrap d = d := IntWalk.i64_in _ (by omega)
        have u2 : IntKind.i64.wrap d2 = d2 := IntWalk.i64_in _ (by omega)
        by_cases e3 : d = d2
        · subst e3
          have hst := hl.step (d := d) (by omega) (by omega) (by rw [hXP, hYS, hd]) (by rw [hXQ, hYT, hd2])
          obtain ⟨hst, hb0, hdec⟩ := hst
          obtain ⟨hX', hY', hp', hq', hs', ht', hsg'⟩ := hst.small
          obtain ⟨_, _, _, _, _, _, hsg⟩ := hl.small
          have zs : s = 0 → d * s = 0 := fun h => by rw [h, Int.mul_zero]
          have zt : t = 0 → d * t = 0 := fun h => by rw [h, Int.mul_zero]
          have v1 : IntKind.i64.wrap (d * s) = d * s := IntWalk.i64_in _ (by omega)
          have v2 : IntKind.i64.wrap (d * t) = d * t := IntWalk.i64_in _ (by omega)
          have v3 : IntKind.i64.wrap (d * Y) = d * Y := IntWalk.i64_in _ (by omega)
          obtain ⟨s', hs'e⟩ : ∃ v, p - d * s = v := ⟨_, rfl⟩
          obtain ⟨t', ht'e⟩ : ∃ v, q - d * t = v := ⟨_, rfl⟩
          obtain ⟨y', hy'e⟩ : ∃ v, X - d * Y = v := ⟨_, rfl⟩
          have v4 : IntKind.i64.wrap (p - d * s) = s' := by rw [← hs'e]; exact IntWalk.i64_in _ (by omega)
          have v5 : IntKind.i64.wrap (q - d * t) = t' := by rw [← ht'e]; exact IntWalk.i64_in _ (by omega)
          have v6 : IntKind.i64.wrap (X - d * Y) = y' := by rw [← hy'e]; exact IntWalk.i64_in _ (by omega)
          rw [hs'e, ht'e, hy'e] at hst
          rw [hy'e] at hdec
          have hfour := h4.set s t s' t'
          have hfour0 := h0.other (g' := w.heap.size + 1) (by omega) (.int .i64 s) (.int .i64 t) (.int .i64 s') (.int .i64 t')
          have HST := Lib.hid hst
          have HDC := Lib.hid (And.intro (show 0 ≤ y' by omega) hdec)
          clear zs zt hst hl xp xq ys yt hYS hYT hXP hXQ hX hY hp hq hs ht hM hX' hY' hp' hq' hs' ht' hsg' hsg hd hd2 hdb hdb2 hs'e ht'e hy'e hdec
          go_wp2
          go_roundw
          case rel => exact ⟨Y, y', s, t, s', t', b, a % b, rfl, rfl, HST.out, hfour, hfour0, (below_set (below_set (below_set (below_set hbl (Nat.le_succ _) _) (Nat.le_succ _) _) (Nat.le_succ _) _) (Nat.le_succ _) _)⟩
          case measure => have := HDC.out; simp only [intOf]; omega
        · have k3 : (d != d2) = true := by simpa using e3
          have HL := Lib.hid hl
          clear hl xp xq ys yt hYS hYT hXP hXQ hX hY hp hq hs ht e3 hM hd hd2 hdb hdb2
          go_wp2
          (try simp only [Exit.inBlock, Exit.then])
          refine bodyPost_ret (Four.results (h0.set p q s t) rfl _ rfl) rfl ?_
          exact ⟨F, X, Y, p, q, s, t, a, b, rfl, HL.out, (below_set (below_set (below_set (below_set hbl (Nat.le_refl _) _) (Nat.le_refl _) _) (Nat.le_refl _) _) (Nat.le_refl _) _)⟩

theorem i64_nat {k : Nat} (h : k < 4611686018427387904) : IntKind.i64.wrap (k : Int) = (k : Int) := IntWalk.i64_in _ (by omega)
/-- What leadingSteps gives, in numbers. -/
def StepsPost (m n : Nat) (w : World) (e : Ending) (w' : World) : Prop :=
  ∃ (p q s t : Int) (a b : Nat), e = .returned (.agg #[.int .i64 p, .int .i64 q, .int .i64 s, .int .i64 t]) ∧ Num.Steps m n p q s t a b ∧ Below w.heap.size w w'
theorem lead_any (a b : Value) (m n : Nat) (w : World) (ha : W64 w a m) (hb : W64 w b n) (hm : (dig B64 m).length ≤ 1000000) (hle : n ≤ m) :
    Calls Try.prog 119 #[a, b] w (StepsPost m n w) := by
  have hmono := dig_len_le b64_two (n := n) (k := (dig B64 m).length) (Nat.lt_of_le_of_lt hle (dig_len_lt b64_two))
  have hnb : nbits m ≤ 64 * (dig B64 m).length := nbits_le (by
    have h1 := dig_len_lt b64_two (n := m)
    have e : B64 ^ (dig B64 m).length = 2 ^ (64 * (dig B64 m).length) := by rw [Nat.pow_mul]; rfl
    omega)
  have hlt := nbits_lt m
  obtain ⟨f, hfe⟩ : ∃ f, nbits m - 62 = f := ⟨_, rfl⟩
  have hx : m / 2 ^ f < 4611686018427387904 := lead_places hlt (by omega)
  have hy : n / 2 ^ f ≤ m / 2 ^ f := Nat.div_le_div_right hle
  have hst := Num.Leh.start (F := 2 ^ f) (Nat.two_pow_pos f) hle
  obtain ⟨A, c, rfl, _, hA⟩ := ha
  obtain ⟨A', c', rfl, _, hB⟩ := hb
  have key := lead_core A A' c c' _ _ m n (nbits m) f (m / 2 ^ f) (n / 2 ^ f) ((2 ^ f : Nat) : Int) ((m / 2 ^ f : Nat) + 1) (by omega) w hst
    (by simp only [wrap64]; omega) (i64_nat hx) (i64_nat (Nat.lt_of_le_of_lt hy hx))
    (fun w1 hw => bits_any A c _ m w1 (hA.keep hw) rfl (by omega))
    (fun w1 hw => by
      have := window_any A c _ m f w1 (hA.keep hw) rfl (by omega) (by omega)
      rwa [Nat.mod_eq_of_lt (by unfold B64; omega)] at this)
    (fun w1 hw => by
      have := window_any A' c' _ n f w1 (hB.keep hw) rfl (by omega) (by omega)
      rwa [Nat.mod_eq_of_lt (by unfold B64; omega)] at this)
  refine key.mono ?_
  rintro e w' ⟨F, x, y, p, q, s, t, a, b, rfl, hl, hb⟩
  exact ⟨p, q, s, t, a, b, rfl, hl.steps (by omega), hb⟩
end Go.Proofs.Ytaegkhdkhgemmaa

namespace Go.Proofs.Ytaegkhdkhgemmaa
open Go.RowKit Num

/-- z[off ..] without x: what subFrom leaves. -/
def SubPost (zs xs : List Nat) (g off n : Nat) (w : World) (e : Ending) (w' : World) : Prop :=
  ∃ zs' c, e = .returned (.tuple #[]) ∧ SubSt B64 zs xs off n zs' c ∧ Row .u64 24 w' g zs' ∧ w.grownBy w' (some g)

set_option maxHeartbeats 1000000 in
theorem subFrom_any (g off n c d L : Nat) (zs xs : List Nat) (A : Option Addr) (w : World) (hr : Row .u64 24 w g zs) (hz : Low B64 zs) (hn : off + n ≤ zs.length) (hA : Nums .u64 w A xs) (hx : Low B64 xs)
    (hAg : 0 < xs.length → ∀ a, A = some a → a.block ≠ g) (hL : L = xs.length) (hle : L ≤ n) (hbig : n ≤ 1000000000000) :
    Calls Try.prog 109 #[.slice (some ⟨g, off, none⟩) n c, .slice A L d] w (SubPost zs xs g off n w) := by
  have HL := Lib.hid hL
  clear hL
  go_enter Try.func109, Try.ntmps109
  go_wp2
  go_loopw [4, 10] (fun q t wr => ∃ (k cy : Nat) (zs' : List Nat), k ≤ L ∧ q = .int .u64 (cy : Int) ∧ t = .int .i64 (k : Int) ∧ SubSt B64 zs xs off k zs' cy ∧ Row .u64 24 wr g zs' ∧ w.grownBy wr (some g)) (fun _ t _ => L - (intOf t).toNat)
  case atStart => exact ⟨0, 0, zs, Nat.zero_le _, rfl, rfl, SubSt.start hz, hr, World.grownBy.refl w _⟩
  case round =>
    obtain ⟨k, cy, zs', hk, rfl, rfl, hst, hrow, hgr⟩ := hrel
    by_cases hlt : k < L
    · obtain ⟨q, qo, x, rfl, hq, hxk, hcx⟩ := (hA.grown hAg hgr).at_ (i := k) (by have := HL.out; omega)
      obtain ⟨v, hv⟩ : ∃ v, zs'[off + k]? = some v := ⟨zs'[off + k]'(by have := hst.len; omega), List.getElem?_eq_getElem _⟩
      have hcv := hrow.cell hv
      have hfv := hrow.frozen (off + k)
      have hvl : v < B64 := by have := hst.low v (List.mem_of_getElem? hv); exact this
      have hxl : x < B64 := hx x (List.mem_of_getElem? hxk)
      obtain ⟨lo, hi, hsub, he, hlo, hhi⟩ := sub64_ex v x cy hvl hxl hst.le
      have hst' := hst.step hv (x := x) (by simp [List.getD_eq_getElem?_getD, hxk]) he hlo hhi
      have hrow' := hrow.set (off + k) lo
      have HE := Lib.hid he
      have HV := Lib.hid hv
      have HX := Lib.hid hxk
      clear he hv hxk hA hvl hxl hlo
      go_wp2
      go_roundw
      case rel => exact ⟨k + 1, hi, _, by omega, rfl, by go_num, hst', hrow', grown_set hgr _ _⟩
      case measure => simp [intOf]; omega
    · have hkL : k = L := by omega
      subst hkL
      clear hlt
      have hxL : xs.length ≤ k := by have := HL.out; omega
      clear hA
      go_wp2
      go_loopw [4, 7] (fun q t wr => ∃ (j cy : Nat) (zs' : List Nat), k ≤ j ∧ j ≤ n ∧ q = .int .u64 (cy : Int) ∧ t = .int .i64 (j : Int) ∧ SubSt B64 zs xs off j zs' cy ∧ Row .u64 24 wr g zs' ∧ w.grownBy wr (some g)) (fun _ t _ => n - (intOf t).toNat)
      case atStart => exact ⟨k, cy, zs', Nat.le_refl _, hle, rfl, rfl, hst, hrow, hgr⟩
      case round =>
        clear hst hrow hgr
        obtain ⟨j, cy, zs', hkj, hjn, rfl, rfl, hst, hrow, hgr⟩ := hrel
        have hcle := hst.le
        by_cases hc0 : cy = 0
        · have hq : ((cy : Int) != 0) = false := by simp [hc0]
          have H0 := Lib.hid hc0
          clear hc0
          go_wp2
          go_end0
          exact ⟨zs', cy, rfl, by have h0 := H0.out; subst h0; exact hst.rest hjn (by omega) hn, hrow, hgr⟩
        · have hq : ((cy : Int) != 0) = true := by simp; omega
          clear hc0
          by_cases hjl : j < n
          · obtain ⟨v, hv⟩ : ∃ v, zs'[off + j]? = some v := ⟨zs'[off + j]'(by have := hst.len; omega), List.getElem?_eq_getElem _⟩
            have hcv := hrow.cell hv
            have hfv := hrow.frozen (off + j)
            have hvl : v < B64 := by have := hst.low v (List.mem_of_getElem? hv); exact this
            obtain ⟨lo, hi, hsub, he, hlo, hhi⟩ := sub64_exm v cy hvl hcle
            have hx0 : xs.getD j 0 = 0 := by simp [List.getD_eq_getElem?_getD, List.getElem?_eq_none (show xs.length ≤ j by omega)]
            have hst' := hst.step hv (x := 0) hx0 (by omega) hlo hhi
            have hrow' := hrow.set (off + j) lo
            have HE := Lib.hid he
            have HV := Lib.hid hv
            clear he hv hvl hlo hx0
            go_wp2
            go_roundw
            case rel => exact ⟨j + 1, hi, _, by omega, by omega, rfl, by go_num, hst', hrow', grown_set hgr _ _⟩
            case measure => simp [intOf]; omega
          · have hjn' : j = n := by omega
            subst hjn'
            go_wp2
            go_end0
            exact ⟨zs', cy, rfl, hst, hrow, hgr⟩

theorem sub_fin {b L c : Nat} {xs ys zs' : List Nat} (hb : 2 ≤ b) (hL : xs.length = L) (hL' : ys.length ≤ L) (hy : Low b ys) (hle : val b ys ≤ val b xs)
    (h : SubSt b (lay (List.replicate L 0) 0 xs) ys 0 L zs' c) : val b zs' = val b xs - val b ys := by
  have hlen : (lay (List.replicate L 0) 0 xs).length = L := by rw [lay_len (by simp; omega)]; simp
  have e := h.eq
  have l' : zs'.length = L := h.len.trans hlen
  rw [seg0 l', seg0 hlen, val_lay0, List.take_of_length_le (by omega)] at e
  have h1 := val_lt b zs' h.low
  rw [l'] at h1
  have h5 : c = 0 := by
    rcases Nat.eq_zero_or_pos c with h0 | h0
    · exact h0
    · have : b ^ L * 1 ≤ b ^ L * c := Nat.mul_le_mul_left _ h0
      have h2 := val_lt b ys hy
      have h3 : b ^ ys.length ≤ b ^ L := Nat.pow_le_pow_right (by omega) hL'
      omega
  subst h5
  simp at e
  omega

set_option maxHeartbeats 1000000 in
set_option maxRecDepth 100000 in
theorem diff_core (A A' : Option Addr) (c c' L L' : Nat) (xs ys : List Nat) (w : World) (hA : Nums .u64 w A xs) (hA' : Nums .u64 w A' ys) (hx : Low B64 xs) (hy : Low B64 ys)
    (hL : L = xs.length) (hL' : L' = ys.length) (hle : L' ≤ L) (hbig : L ≤ 100000000000) (hval : val B64 ys ≤ val B64 xs) :
    Calls Try.prog 84 #[.slice A L c, .slice A' L' c'] w (SumPost w (val B64 xs - val B64 ys)) := by
  have hmk := make64 L (by omega)
  have hr0 := Row.made w .u64 L 24
  have hbA : Below w.heap.size w (w.alloc (.cells (madeCells #[.int .u64 0] L) 24)) := (Below.refl _ _).alloc (Nat.le_refl _) _
  have hA0 := hA.keep hbA
  have hlow0 : Low B64 (lay (List.replicate L 0) 0 xs) := lay_low (Low.replicate b64_pos _) hx
  have hlen0 : (lay (List.replicate L 0) 0 xs).length = L := by rw [lay_len (by simp; omega)]; simp
  have hne : 0 < ys.length → ∀ a, A' = some a → a.block ≠ w.heap.size := nums_ne hA' (Nat.le_refl _)
  have hlen1 : 0 + L ≤ (lay (List.replicate L 0) 0 xs).length := by rw [hlen0]; omega
  have HL := Lib.hid hL
  have HL' := Lib.hid hL'
  have HN := Lib.hid hlen0
  have HNE := Lib.hid hne
  have HR0 := Lib.hid hr0
  have HV := Lib.hid hval
  clear hL hL' hlen0 hne hr0 hval
  go_enter Try.func84, Try.ntmps84
  go_wp2_with (first
    | (refine wpList_copy_row rfl (.tmp 9) (.tmp 10) rfl _ _ _ _ _ _ rfl rfl _ 0 _ _ HR0.out hA0 HL.out (by omega) (fun _ => rfl) (by simp) ?_
       intro w1 hr1 hg1
       have hb1 : Below w.heap.size w w1 := hbA.grown hg1 hbA.size (by simp))
    | (go_at_call 109
       refine (subFrom_any w.heap.size 0 L L c' L' _ ys A' _ (by assumption) hlow0 hlen1 (hA'.keep (by assumption)) hy HNE.out HL'.out (by omega) (by omega)).mono ?_
       rintro e w2 ⟨zs', cy, rfl, hst, hr2, hg2⟩
       have hb2 : Below w.heap.size w w2 := hb1.grown hg2 hb1.size (by simp)
       have hl2 : zs'.length = L := hst.len.trans HN.out
       have hn2 : Nums .u64 w2 (some ⟨w.heap.size, 0, none⟩) zs' := by have := hr2.nums0 zs'.length; rwa [List.take_length] at this
       have HL2 := Lib.hid hl2
       clear hl2)
    | (go_at_call 78
       refine (trim_any _ L L zs' _ (by assumption) hst.low HL2.out.symm (Nat.le_refl _) (by omega)).mono ?_
       rintro e w3 ⟨rfl, rfl⟩))
  go_ret
  have hv := sub_fin b64_two HL.out.symm (by rw [← HL'.out]; exact hle) hy HV.out hst
  rw [← hv]
  refine ⟨_, rfl, ?_, hb2⟩
  have := own_of_trim b64_two hr2 hst.low (Nat.le_refl w.heap.size)
  rw [HL2.out] at this
  exact this

/-- difference, of two numbers. -/
theorem diff_any (a b : Value) (m n : Nat) (w : World) (ha : W64 w a m) (hb : W64 w b n) (hm : (dig B64 m).length ≤ 100000000000) (hle : n ≤ m) :
    Calls Try.prog 84 #[a, b] w (SumPost w (m - n)) := by
  obtain ⟨A, c, rfl, _, hA⟩ := ha
  obtain ⟨A', c', rfl, _, hA'⟩ := hb
  have em := val_dig b64_two m
  have en := val_dig b64_two n
  have hlen : (dig B64 n).length ≤ (dig B64 m).length := dig_len_le b64_two (Nat.lt_of_le_of_lt hle (dig_len_lt b64_two))
  have := diff_core A A' c c' _ _ _ _ w hA hA' (dig_low64 m) (dig_low64 n) rfl rfl hlen hm (by rw [em, en]; exact hle)
  rw [em, en] at this
  exact this

end Go.Proofs.Ytaegkhdkhgemmaa

namespace Go.Proofs.Ytaegkhdkhgemmaa
open Go.RowKit Num

set_option maxHeartbeats 1000000 in
set_option maxRecDepth 100000 in
theorem add_bad (a b : Value) (xs ys : List Nat) (w : World) (ha : Limbs w a xs) (hb : Limbs w b ys) (h0 : chk2 xs ys ≠ 0) : Calls Try.prog 37 #[a, b] w (NatErr w (chk2 xs ys)) := by
  have hc := checkAll_any w.heap.size 2 2 _ _ (nats2 ha hb) rfl (by omega)
  rw [chkAll2] at hc
  generalize chk2 xs ys = r at *
  have hbA := below_new w (.cells #[a, b] 23)
  have hq : (r != 0) = true := by simp [h0]
  have HC := Lib.hid hc
  have H0 := Lib.hid h0
  obtain ⟨A, c, rfl, _⟩ := ha
  obtain ⟨A', c', rfl, _⟩ := hb
  clear hc h0
  generalize xs.length = L at *
  generalize ys.length = L' at *
  go_enter Try.func37, Try.ntmps37
  go_wp2_with (go_at_call 75; refine HC.out.mono ?_; rintro e w1 ⟨rfl, rfl⟩)
  go_ret2
  exact ⟨rfl, hbA⟩

set_option maxHeartbeats 1000000 in
set_option maxRecDepth 100000 in
theorem sub_bad (a b : Value) (xs ys : List Nat) (w : World) (ha : Limbs w a xs) (hb : Limbs w b ys) (h0 : chk2 xs ys ≠ 0) : Calls Try.prog 38 #[a, b] w (NatErr w (chk2 xs ys)) := by
  have hc := checkAll_any w.heap.size 2 2 _ _ (nats2 ha hb) rfl (by omega)
  rw [chkAll2] at hc
  generalize chk2 xs ys = r at *
  have hbA := below_new w (.cells #[a, b] 23)
  have hq : (r != 0) = true := by simp [h0]
  have HC := Lib.hid hc
  have H0 := Lib.hid h0
  obtain ⟨A, c, rfl, _⟩ := ha
  obtain ⟨A', c', rfl, _⟩ := hb
  clear hc h0
  generalize xs.length = L at *
  generalize ys.length = L' at *
  go_enter Try.func38, Try.ntmps38
  go_wp2_with (go_at_call 75; refine HC.out.mono ?_; rintro e w1 ⟨rfl, rfl⟩)
  go_ret2
  exact ⟨rfl, hbA⟩

/-- Two plain results; nothing that was there has turned. -/
def Two (w : World) (a b : Value) (e : Ending) (w' : World) : Prop := e = .returned (.tuple #[a, b]) ∧ Below w.heap.size w w'

set_option maxHeartbeats 1000000 in
set_option maxRecDepth 100000 in
theorem cmp_bad (a b : Value) (xs ys : List Nat) (w : World) (ha : Limbs w a xs) (hb : Limbs w b ys) (h0 : chk2 xs ys ≠ 0) : Calls Try.prog 39 #[a, b] w (Two w (.int .i64 0) (.int .i64 (chk2 xs ys))) := by
  have hc := checkAll_any w.heap.size 2 2 _ _ (nats2 ha hb) rfl (by omega)
  rw [chkAll2] at hc
  generalize chk2 xs ys = r at *
  have hbA := below_new w (.cells #[a, b] 23)
  have hq : (r != 0) = true := by simp [h0]
  have HC := Lib.hid hc
  have H0 := Lib.hid h0
  obtain ⟨A, c, rfl, _⟩ := ha
  obtain ⟨A', c', rfl, _⟩ := hb
  clear hc h0
  generalize xs.length = L at *
  generalize ys.length = L' at *
  go_enter Try.func39, Try.ntmps39
  go_wp2_with (go_at_call 75; refine HC.out.mono ?_; rintro e w1 ⟨rfl, rfl⟩)
  go_ret2
  exact ⟨rfl, hbA⟩

set_option maxHeartbeats 1000000 in
set_option maxRecDepth 100000 in
theorem add_ok (a b : Value) (m n : Nat) (w : World) (ha : N32 w a m) (hb : N32 w b n) (hm : (dig B32 m).length ≤ 262144) (hn : (dig B32 n).length ≤ 262144) (hp : nbits (m + n) ≤ 8388608) : Calls Try.prog 37 #[a, b] w (NatOk w (m + n)) := by
  have hc := checkAll_any w.heap.size 2 2 _ _ (nats2 (Limbs.num ha (by omega)) (Limbs.num hb (by omega))) rfl (by omega)
  rw [chkAll2, chk2, if_pos (chk_dig hm), chk_dig hn] at hc
  have hbA := below_new w (.cells #[a, b] 23)
  have ha1 := ha.keep hbA
  have hb1 := hb.keep hbA
  have hf1 := fun w' (h : N32 w' a m) => fromNat_any a m w' h (by omega)
  have hf2 := fun w' (h : N32 w' b n) => fromNat_any b n w' h (by omega)
  have lm := words_le (n := m) (K := 131072) hm
  have ln := words_le (n := n) (K := 131072) hn
  have hpr := fun v u w' (h : W64 w' v m) (k : W64 w' u n) => sum_any v u m n w' h k (by omega) (by omega)
  have hft := fun v w' (h : W64 w' v (m + n)) => fit_ok v (m + n) w' h hp
  have HC := Lib.hid hc
  have HA := Lib.hid ha1
  have HB := Lib.hid hb1
  have HF1 := Lib.hid hf1
  have HF2 := Lib.hid hf2
  have HP := Lib.hid hpr
  have HFT := Lib.hid hft
  obtain ⟨A, c, rfl, _⟩ := ha
  obtain ⟨A', c', rfl, _⟩ := hb
  clear hc ha1 hb1 hf1 hf2 hpr hp hft lm ln
  generalize (dig B32 m).length = L at *
  generalize (dig B32 n).length = L' at *
  go_enter Try.func37, Try.ntmps37
  go_wp2_with (go_at_call 75; refine HC.out.mono ?_; rintro e w1 ⟨rfl, rfl⟩)
  go_wp2_with (fail)
  refine (HF1.out _ HA.out).mono ?_
  rintro e w1 ⟨v1, rfl, hv1, hb1⟩
  go_wp2_with (fail)
  refine (HF2.out _ (HB.out.keep hb1)).mono ?_
  rintro e w2 ⟨v2, rfl, hv2, hb2⟩
  go_wp2_with (fail)
  refine (HP.out _ _ _ (hv1.is.keep hb2) hv2.is).mono ?_
  rintro e w3 ⟨v3, rfl, hv3, hb3⟩
  go_wp2_with (fail)
  refine (HFT.out _ _ hv3.is).mono ?_
  rintro e w4 ⟨v4, rfl, hv4, hb4⟩
  go_wp2
  go_ret2
  have b1 := below_at hbA (Nat.le_refl _) hb1
  have b2 := below_at b1 (Nat.le_refl _) hb2
  have b3 := below_at b2 (Nat.le_refl _) hb3
  exact ⟨_, rfl, hv4.mono b3.size, below_at b3 (Nat.le_refl _) hb4⟩

set_option maxHeartbeats 1000000 in
set_option maxRecDepth 100000 in
theorem cmp_ok (a b : Value) (m n : Nat) (w : World) (ha : N32 w a m) (hb : N32 w b n) (hm : (dig B32 m).length ≤ 262144) (hn : (dig B32 n).length ≤ 262144) : Calls Try.prog 39 #[a, b] w (Two w (.int .i64 (cmpN m n)) (.int .i64 0)) := by
  have hc := checkAll_any w.heap.size 2 2 _ _ (nats2 (Limbs.num ha (by omega)) (Limbs.num hb (by omega))) rfl (by omega)
  rw [chkAll2, chk2, if_pos (chk_dig hm), chk_dig hn] at hc
  have hbA := below_new w (.cells #[a, b] 23)
  have hcmp : ∀ w', N32 w' a m → N32 w' b n → Calls Try.prog 85 #[a, b] w' fun e w'' => e = .returned (.int .i64 (cmpN m n)) ∧ Below w'.heap.size w' w'' := fun w' h k => by
    obtain ⟨A, c, rfl, _, hA⟩ := h
    obtain ⟨A', c', rfl, _, hA'⟩ := k
    exact compare85 A A' c c' _ _ m n w' hA hA' rfl rfl (by omega) (by omega)
  have hc2 := hcmp _ (ha.keep hbA) (hb.keep hbA)
  generalize cmpN m n = r at *
  have HC := Lib.hid hc
  have HP := Lib.hid hc2
  obtain ⟨A, c, rfl, _⟩ := ha
  obtain ⟨A', c', rfl, _⟩ := hb
  clear hc hc2 hcmp
  generalize (dig B32 m).length = L at *
  generalize (dig B32 n).length = L' at *
  go_enter Try.func39, Try.ntmps39
  go_wp2_with (first
    | (go_at_call 75; refine HC.out.mono ?_; rintro e w1 ⟨rfl, rfl⟩)
    | (go_at_call 85; refine HP.out.mono ?_; rintro e w2 ⟨rfl, hb2⟩))
  go_ret2
  exact ⟨rfl, below_at hbA (Nat.le_refl _) hb2⟩
end Go.Proofs.Ytaegkhdkhgemmaa

namespace Go.Proofs.Ytaegkhdkhgemmaa
open Go.RowKit Num

set_option maxHeartbeats 400000 in
theorem refCheck_any (A : Option Addr) (c L : Nat) (xs : List Nat) (w : World) (hA : Nums .u32 w A xs) (hL : L = xs.length) (hl : L ≤ 1000000000000) :
    Calls Try.prog 27 #[.slice A L c] w fun e w' => e = .returned (.int .i64 (chk xs)) ∧ w = w' := by
  obtain ⟨r, hr⟩ : ∃ r, chk xs = r := ⟨_, rfl⟩
  rw [hr]
  unfold chk at hr
  rw [← hL] at hr
  by_cases h1 : 262144 < L
  · rw [if_pos h1] at hr
    subst hr
    clear hL hA
    go_enter Try.func27, Try.ntmps27
    go_wp2
    go_ret
    exact ⟨rfl, rfl⟩
  · rw [if_neg h1] at hr
    by_cases h2 : 0 < L
    · obtain ⟨g, off, v, rfl, hg, hv, hcv⟩ := hA.at_ (i := L - 1) (by omega)
      have hvd : xs.getD (L - 1) 0 = v := by simp [List.getD_eq_getElem?_getD, hv]
      rw [hvd] at hr
      by_cases h3 : v = 0
      · rw [if_pos ⟨h2, h3⟩] at hr
        subst hr
        have hq : ((v : Int) == 0) = true := by simp [h3]
        have H3 := Lib.hid h3
        clear hL hA hv hvd h3
        go_enter Try.func27, Try.ntmps27
        go_wp2
        go_ret
        exact ⟨rfl, rfl⟩
      · rw [if_neg (fun h => h3 h.2)] at hr
        subst hr
        have hq : ((v : Int) == 0) = false := by simp [h3]
        have H3 := Lib.hid h3
        clear hL hA hv hvd h3
        go_enter Try.func27, Try.ntmps27
        go_wp2
        go_ret
        exact ⟨rfl, rfl⟩
    · rw [if_neg (fun h => h2 h.1)] at hr
      subst hr
      clear hL hA
      go_enter Try.func27, Try.ntmps27
      go_wp2
      go_ret
      exact ⟨rfl, rfl⟩


def Ret2 (w : World) (a b : Value) (e : Ending) (w' : World) : Prop := e = .returned (.tuple #[a, b]) ∧ Below w.heap.size w w'

set_option maxHeartbeats 1000000 in
set_option maxRecDepth 100000 in
theorem bits_bad (a : Value) (xs : List Nat) (w : World) (ha : Limbs w a xs) (h0 : chk xs ≠ 0) : Calls Try.prog 28 #[a] w (Ret2 w (.int .i64 0) (.int .i64 (chk xs))) := by
  have hc := checkAll_any w.heap.size 1 1 _ _ (nats1 ha) rfl (by omega)
  rw [chkAll1] at hc
  generalize chk xs = r at *
  have hbA := below_new w (.cells #[a] 23)
  have hq : (r != 0) = true := by simp [h0]
  have HC := Lib.hid hc
  have H0 := Lib.hid h0
  obtain ⟨A, c, rfl, _⟩ := ha
  clear hc h0
  generalize xs.length = L at *
  go_enter Try.func28, Try.ntmps28
  go_wp2_with (go_at_call 75; refine HC.out.mono ?_; rintro e w1 ⟨rfl, rfl⟩)
  go_ret2
  exact ⟨rfl, hbA⟩

set_option maxHeartbeats 1000000 in
set_option maxRecDepth 100000 in
theorem uint64_bad (a : Value) (xs : List Nat) (w : World) (ha : Limbs w a xs) (h0 : chk xs ≠ 0) : Calls Try.prog 29 #[a] w (Ret2 w (.int .u64 0) (.int .i64 (chk xs))) := by
  have hc := checkAll_any w.heap.size 1 1 _ _ (nats1 ha) rfl (by omega)
  rw [chkAll1] at hc
  generalize chk xs = r at *
  have hbA := below_new w (.cells #[a] 23)
  have hq : (r != 0) = true := by simp [h0]
  have HC := Lib.hid hc
  have H0 := Lib.hid h0
  obtain ⟨A, c, rfl, _⟩ := ha
  clear hc h0
  generalize xs.length = L at *
  go_enter Try.func29, Try.ntmps29
  go_wp2_with (go_at_call 75; refine HC.out.mono ?_; rintro e w1 ⟨rfl, rfl⟩)
  go_ret2
  exact ⟨rfl, hbA⟩

set_option maxHeartbeats 1000000 in
set_option maxRecDepth 100000 in
theorem uint64_range (a : Value) (n : Nat) (w : World) (ha : N32 w a n) (hl : (dig B32 n).length ≤ 262144) (h2 : 2 < (dig B32 n).length) : Calls Try.prog 29 #[a] w (Ret2 w (.int .u64 0) (.int .i64 5)) := by
  have hc := checkAll_any w.heap.size 1 1 _ _ (nats1 (Limbs.num ha (by omega))) rfl (by omega)
  rw [chkAll1, chk_dig hl] at hc
  have hbA := below_new w (.cells #[a] 23)
  have HC := Lib.hid hc
  obtain ⟨A, c, rfl, _⟩ := ha
  clear hc
  generalize (dig B32 n).length = L at *
  go_enter Try.func29, Try.ntmps29
  go_wp2_with (go_at_call 75; refine HC.out.mono ?_; rintro e w1 ⟨rfl, rfl⟩)
  go_ret2
  exact ⟨rfl, hbA⟩

set_option maxHeartbeats 1000000 in
set_option maxRecDepth 100000 in
theorem uint64_ok (a : Value) (n : Nat) (w : World) (ha : N32 w a n) (hl : (dig B32 n).length ≤ 2) : Calls Try.prog 29 #[a] w (Ret2 w (.int .u64 (n : Nat)) (.int .i64 0)) := by
  have hc := checkAll_any w.heap.size 1 1 _ _ (nats1 (Limbs.num ha (by omega))) rfl (by omega)
  rw [chkAll1, chk_dig (by omega)] at hc
  have hbA := below_new w (.cells #[a] 23)
  have hf := fromNat_any a n _ (ha.keep hbA) (by omega)
  have hlt : n < B64 := by
    have h1 := dig_len_lt b32_two (n := n)
    have h2 := Nat.pow_le_pow_right b32_pos hl
    have : B32 ^ 2 = B64 := by decide
    omega
  have hwin : ∀ v w', W64 w' v n → Calls Try.prog 77 #[v, .int .i64 0] w' fun e w'' => e = .returned (.int .u64 (n : Nat)) ∧ w' = w'' := fun v w' h => by
    obtain ⟨A, c, rfl, _, hA⟩ := h
    have := window_any A c _ n 0 w' hA rfl (Nat.le_trans (words_le (K := 1) (by omega)) (by omega)) (by omega)
    rw [Nat.pow_zero, Nat.div_one, Nat.mod_eq_of_lt hlt] at this
    exact this
  have HC := Lib.hid hc
  have HF := Lib.hid hf
  have HW := Lib.hid hwin
  obtain ⟨A, c, rfl, _⟩ := ha
  clear hc hf hwin hlt
  generalize (dig B32 n).length = L at *
  go_enter Try.func29, Try.ntmps29
  go_wp2_with (first
    | (go_at_call 75; refine HC.out.mono ?_; rintro e w1 ⟨rfl, rfl⟩)
    | (go_at_call 76; refine HF.out.mono ?_; rintro e w1 ⟨v1, rfl, hv1, hb1⟩)
    | (go_at_call 77; refine (HW.out _ _ hv1.is).mono ?_; rintro e w2 ⟨rfl, rfl⟩))
  go_ret2
  exact ⟨rfl, below_at hbA (Nat.le_refl _) hb1⟩
end Go.Proofs.Ytaegkhdkhgemmaa

namespace Go.Proofs.Ytaegkhdkhgemmaa
open Go.RowKit Num

set_option maxHeartbeats 1000000 in
set_option maxRecDepth 100000 in
theorem bits_ok (a : Value) (n : Nat) (w : World) (ha : N32 w a n) (hl : (dig B32 n).length ≤ 262144) : Calls Try.prog 28 #[a] w (Ret2 w (.int .i64 (nbits n : Nat)) (.int .i64 0)) := by
  have hc := checkAll_any w.heap.size 1 1 _ _ (nats1 (Limbs.num ha (by omega))) rfl (by omega)
  rw [chkAll1, chk_dig hl] at hc
  have hbA := below_new w (.cells #[a] 23)
  have HC := Lib.hid hc
  have hpost := fun L v => @nbits_limbs n L v
  obtain ⟨A, c, rfl, _, hA⟩ := ha
  clear hc hbA
  obtain ⟨xs, hxs⟩ : ∃ xs, dig B32 n = xs := ⟨_, rfl⟩
  have hlow := low_dig b32_two n
  have hz : xs.length = 0 → n = 0 := fun h => (dig_nil_iff b32_two).1 (by rw [hxs]; exact List.eq_nil_of_length_eq_zero h)
  have hpost' : ∀ L v, xs.length = L + 1 → xs[L]? = some v → nbits n = 32 * L + nbits v := fun L v h1 h2 => hpost L v (by rw [← h1, ← hxs]; rfl) (by rw [← h2, ← hxs]; rfl)
  rw [hxs] at hlow hl hA HC ⊢
  clear hxs hpost
  obtain ⟨L, hL⟩ : ∃ L, xs.length = L := ⟨_, rfl⟩
  rw [hL] at hz hl HC ⊢
  have HP := Lib.hid hpost'
  have HL := Lib.hid hL
  clear hpost' hL
  by_cases h0 : L = 0
  · have hn0 := hz h0
    subst hn0
    subst h0
    clear hz hA hlow
    rw [nbits_zero]
    go_enter Try.func28, Try.ntmps28
    go_wp2_with (go_at_call 75; refine HC.out.mono ?_; rintro e w1 ⟨rfl, rfl⟩)
    go_ret2
    exact ⟨rfl, below_new _ _⟩
  · obtain ⟨K, rfl⟩ : ∃ K, L = K + 1 := ⟨L - 1, by omega⟩
    obtain ⟨g, off, v, rfl, hg, hv, hcv⟩ := hA.at_ (i := K) (by have := HL.out; omega)
    have hvl : v < B32 := hlow v (List.mem_of_getElem? hv)
    have hb32 : nbits v ≤ 32 := nbits_le (k := 32) hvl
    have hres := HP.out K v HL.out hv
    obtain ⟨r, hr⟩ : ∃ r, nbits n = r := ⟨_, rfl⟩
    rw [hr] at hres ⊢
    have hsh : ∀ i, (v : Int) / 2 ^ i = ((v / 2 ^ i : Nat) : Int) := fun i => by push_cast; rfl
    have hne : ∀ i, v / 2 ^ i ≠ 0 ↔ i < nbits v := fun i => shr_ne
    have HR := Lib.hid hres
    have HSH := Lib.hid hsh
    have HNE := Lib.hid hne
    have HV := Lib.hid hv
    have HRR := Lib.hid hr
    have hk0 : ((K : Int) + 1 == 0) = false := by simp; omega
    clear hres hsh hne hv hr hA hlow hz h0 hvl
    generalize nbits v = q at *
    go_enter Try.func28, Try.ntmps28
    go_wp2_with (go_at_call 75; refine HC.out.mono ?_; rintro e w1 ⟨rfl, rfl⟩)
    go_loop [6, 20] (fun ct t => ∃ i ct' : Nat, i ≤ 32 ∧ t = .int .i64 (i : Int) ∧ ct = .int .i64 (ct' : Int) ∧ Hid (ct' = min i q)) (fun _ t => 32 - (intOf t).toNat)
    case atStart => exact ⟨0, 0, by omega, rfl, rfl, Lib.hid (by simp)⟩
    case round =>
      obtain ⟨i, ct, hi, rfl, rfl, hct⟩ := hrel
      by_cases hlt : i < 32
      · have hs := HSH.out i
        by_cases hq : i < q
        · have hnz : v / 2 ^ i ≠ 0 := (HNE.out i).2 hq
          have hb : (((v / 2 ^ i : Nat) : Int) != 0) = true := by simp; omega
          rw [← hs] at hb
          have HNZ := Lib.hid hnz
          clear hnz hs
          go_wp2
          go_round
          case rel => exact ⟨i + 1, i + 1, by omega, by go_num, by go_num, Lib.hid (by omega)⟩
          case measure => simp [intOf]; omega
        · have hnz : v / 2 ^ i = 0 := by
            rcases Nat.eq_zero_or_pos (v / 2 ^ i) with h | h
            · exact h
            · exact absurd ((HNE.out i).1 (by omega)) hq
          have hb : (((v / 2 ^ i : Nat) : Int) != 0) = false := by rw [hnz]; rfl
          rw [← hs] at hb
          have HNZ := Lib.hid hnz
          clear hnz hs
          go_wp2
          go_round
          case rel => exact ⟨i + 1, ct, by omega, by go_num, rfl, Lib.hid (by have := hct.out; omega)⟩
          case measure => simp [intOf]; omega
      · have hct' : ct ≤ 32 := by have := hct.out; omega
        go_wp2
        go_ret2
        have e : (32 * (K : Int) + (ct : Int)) = (r : Int) := by have h1 := HR.out; have h2 := hct.out; omega
        refine ⟨?_, below_new _ _⟩
        rw [← e]
        rfl

set_option maxHeartbeats 1000000 in
set_option maxRecDepth 100000 in
theorem refBits_any (a : Value) (n : Nat) (w : World) (ha : N32 w a n) (hl : (dig B32 n).length ≤ 1000000000) : Calls Try.prog 36 #[a] w fun e w' => e = .returned (.int .i64 (nbits n : Nat)) ∧ w = w' := by
  have hpost := fun L v => @nbits_limbs n L v
  obtain ⟨A, c, rfl, _, hA⟩ := ha
  obtain ⟨xs, hxs⟩ : ∃ xs, dig B32 n = xs := ⟨_, rfl⟩
  have hlow := low_dig b32_two n
  have hz : xs.length = 0 → n = 0 := fun h => (dig_nil_iff b32_two).1 (by rw [hxs]; exact List.eq_nil_of_length_eq_zero h)
  have hpost' : ∀ L v, xs.length = L + 1 → xs[L]? = some v → nbits n = 32 * L + nbits v := fun L v h1 h2 => hpost L v (by rw [← h1, ← hxs]; rfl) (by rw [← h2, ← hxs]; rfl)
  rw [hxs] at hlow hl hA ⊢
  clear hxs hpost
  obtain ⟨L, hL⟩ : ∃ L, xs.length = L := ⟨_, rfl⟩
  rw [hL] at hz hl ⊢
  have HP := Lib.hid hpost'
  have HL := Lib.hid hL
  clear hpost' hL
  by_cases h0 : L = 0
  · have hn0 := hz h0
    subst hn0
    subst h0
    clear hz hA hlow
    rw [nbits_zero]
    go_enter Try.func36, Try.ntmps36
    go_wp2
    go_ret
    exact ⟨rfl, rfl⟩
  · obtain ⟨K, rfl⟩ : ∃ K, L = K + 1 := ⟨L - 1, by omega⟩
    obtain ⟨g, off, v, rfl, hg, hv, hcv⟩ := hA.at_ (i := K) (by have := HL.out; omega)
    have hvl : v < B32 := hlow v (List.mem_of_getElem? hv)
    have hb32 : nbits v ≤ 32 := nbits_le (k := 32) hvl
    have hres := HP.out K v HL.out hv
    obtain ⟨r, hr⟩ : ∃ r, nbits n = r := ⟨_, rfl⟩
    rw [hr] at hres ⊢
    have HR := Lib.hid hres
    have HV := Lib.hid hv
    have HRR := Lib.hid hr
    have HVL := Lib.hid hvl
    have hk0 : ((K : Int) + 1 == 0) = false := by simp; omega
    clear hres hv hr hA hlow hz h0 hvl
    obtain ⟨q, hq⟩ : ∃ q, nbits v = q := ⟨_, rfl⟩
    rw [hq] at hb32
    have HQ := Lib.hid hq
    clear hq
    go_enter Try.func36, Try.ntmps36
    go_wp2
    go_loop [3, 4] (fun ct t => ∃ u ct' : Nat, t = .int .u32 (u : Int) ∧ ct = .int .i64 (ct' : Int) ∧ ct' ≤ 32 ∧ Hid (u < B32) ∧ Hid (ct' + nbits u = q)) (fun _ t => (intOf t).toNat)
    case atStart => exact ⟨v, 0, rfl, rfl, by omega, HVL, Lib.hid (by rw [HQ.out]; omega)⟩
    case round =>
      obtain ⟨u, ct, rfl, rfl, hct32, hu32, hct⟩ := hrel
      by_cases hu : 0 < u
      · have hh := nbits_half (v := u) (by omega)
        have hc2 : ct + 1 + nbits (u / 2) = q := by have := hct.out; omega
        have hc3 : ct + 1 ≤ 32 := by omega
        have HC2 := Lib.hid hc2
        clear hh hc2
        go_wp2
        go_round
        case rel => exact ⟨u / 2, ct + 1, by congr 1; have := hu32.out; unfold B32 at this; omega, by go_num, hc3, Lib.hid (by have := hu32.out; omega), HC2⟩
        case measure => simp [intOf]; omega
      · have hu0 : u = 0 := by omega
        subst hu0
        have hq' : ct = q := by have := hct.out; rw [nbits_zero] at this; omega
        have HQ' := Lib.hid hq'
        clear hq' hct hu
        go_wp2
        go_ret
        have e : (32 * (K : Int) + (ct : Int)) = (r : Int) := by have h1 := HR.out; have h2 := HQ'.out; have h3 := HQ.out; omega
        exact ⟨ret_i e, rfl⟩
end Go.Proofs.Ytaegkhdkhgemmaa

namespace Go.Proofs.Ytaegkhdkhgemmaa
open Go.RowKit Num

theorem div_step {n k x : Nat} (hx : (dig B32 n)[k]? = some x) : n / B32 ^ (k + 1) * 4294967296 + x = n / B32 ^ k := by
  have e := dig_getElem? b32_two hx
  rw [Nat.pow_succ, ← Nat.div_div_eq_div_mul]
  have := Nat.mod_add_div (n / B32 ^ k) B32
  rw [← e] at this
  unfold B32 at *
  omega

set_option maxHeartbeats 1000000 in
set_option maxRecDepth 100000 in
theorem small_no (a : Value) (n : Nat) (w : World) (ha : N32 w a n) (hl : (dig B32 n).length ≤ 1000000000) (h2 : 2 < (dig B32 n).length) : Calls Try.prog 35 #[a] w (Ret2 w (.int .u64 0) (.bool false)) := by
  obtain ⟨A, c, rfl, _, hA⟩ := ha
  clear hA
  generalize (dig B32 n).length = L at *
  go_enter Try.func35, Try.ntmps35
  go_wp2
  go_ret2
  exact ⟨rfl, Below.refl _ _⟩

set_option maxHeartbeats 1000000 in
set_option maxRecDepth 100000 in
theorem small_ok (a : Value) (n : Nat) (w : World) (ha : N32 w a n) (hl : (dig B32 n).length ≤ 2) : Calls Try.prog 35 #[a] w (Ret2 w (.int .u64 (n : Nat)) (.bool true)) := by
  have hlt : n < B64 := by
    have h1 := dig_len_lt b32_two (n := n)
    have h2 := Nat.pow_le_pow_right b32_pos hl
    have : B32 ^ 2 = B64 := by decide
    omega
  obtain ⟨A, c, rfl, _, hA⟩ := ha
  have hstep := @div_step n
  have htop : n / B32 ^ (dig B32 n).length = 0 := div_pow_len b32_two (Nat.le_refl _)
  have hlow := low_dig b32_two n
  have HST : Hid (∀ k x, (dig B32 n)[k]? = some x → n / B32 ^ (k + 1) * 4294967296 + x = n / B32 ^ k) := fun k x h => hstep h
  have HTOP := Lib.hid htop
  have HLT := Lib.hid hlt
  clear hstep htop hlt
  obtain ⟨L, hL⟩ : ∃ L, (dig B32 n).length = L := ⟨_, rfl⟩
  rw [hL] at hl HTOP ⊢
  have HL := Lib.hid hL
  clear hL
  go_enter Try.func35, Try.ntmps35
  go_wp2
  go_loop [4, 5] (fun q t => ∃ k v : Nat, k ≤ L ∧ t = .int .i64 ((k : Int) - 1) ∧ q = .int .u64 (v : Int) ∧ Hid (v = n / B32 ^ k)) (fun _ t => (intOf t + 1).toNat)
  case atStart => exact ⟨L, 0, Nat.le_refl _, rfl, rfl, Lib.hid HTOP.out.symm⟩
  case round =>
    obtain ⟨k, v, hk, rfl, rfl, hv⟩ := hrel
    by_cases h0 : k = 0
    · subst h0
      go_wp2
      go_ret2
      have e : v = n := by have := hv.out; simpa using this
      subst e
      exact ⟨rfl, Below.refl _ _⟩
    · obtain ⟨j, rfl⟩ : ∃ j, k = j + 1 := ⟨k - 1, by omega⟩
      obtain ⟨g, off, x, rfl, hg, hx, hcx⟩ := hA.at_ (i := j) (by have := HL.out; omega)
      have hxl : x < B32 := hlow x (List.mem_of_getElem? hx)
      have he := HST.out j x hx
      rw [← hv.out] at he
      have hle : v * 4294967296 + x < B64 := by rw [he]; exact Nat.lt_of_le_of_lt (Nat.div_le_self _ _) HLT.out
      obtain ⟨p, hp⟩ : ∃ p, v * 4294967296 = p := ⟨_, rfl⟩
      have w1 : IntKind.u64.wrap ((v : Int) * 4294967296) = (p : Int) := by rw [IntKind.wrap_u64]; unfold B64 at hle; omega
      have w2 : IntKind.u64.wrap (x : Int) = (x : Int) := by rw [IntKind.wrap_u64]; unfold B32 at hxl; omega
      obtain ⟨s, hs⟩ : ∃ s, p + x = s := ⟨_, rfl⟩
      have w3 : IntKind.u64.wrap ((p : Int) + (x : Int)) = (s : Int) := by rw [IntKind.wrap_u64]; unfold B64 at hle; omega
      have hs2 : s = n / B32 ^ j := by rw [← he]; omega
      have HS2 := Lib.hid hs2
      have HX := Lib.hid hx
      have HP := Lib.hid hp
      have HS := Lib.hid hs
      have HE := Lib.hid he
      clear hs2 hx hp hs he hle hxl hA hlow
      go_wp2
      go_round
      case rel => exact ⟨j, s, by omega, by congr 1, rfl, HS2⟩
      case measure => simp [intOf]

set_option maxHeartbeats 1000000 in
set_option maxRecDepth 100000 in
theorem refTrim_any (A : Option Addr) (c n : Nat) (xs : List Nat) (w : World) (h : Nums .u32 w A xs) (hlow : Low B32 xs) (hn : n = xs.length) (hc : n ≤ 1000000000) :
    Calls Try.prog 80 #[.slice A n c] w (LsPost w (dig B32 (val B32 xs))) := by
  subst hn
  have fin : ∀ k, k ≤ xs.length → ZeroFrom xs k → (∀ v, 0 < k → xs[k - 1]? = some v → v ≠ 0) → xs.take k = dig B32 (val B32 xs) := fun k hk hz hn => trim_val b32_two hlow hk hz hn
  have FIN := Lib.hid fin
  clear fin
  obtain ⟨ds, hds⟩ : ∃ ds, dig B32 (val B32 xs) = ds := ⟨_, rfl⟩
  rw [hds] at FIN ⊢
  have HDS := Lib.hid hds
  clear hds hlow
  obtain ⟨i0, hi, hz0, hz1, hz2⟩ := info_parts info56
  have ho := own_empty w 56
  have hbA := below_new w (.cells #[] 56)
  have HO := Lib.hid ho
  have H := Lib.hid h
  clear ho
  go_enter Try.func80, Try.ntmps80
  go_wp2
  go_loop [3] (fun t => ∃ k : Nat, k ≤ xs.length ∧ t = .int .i64 k ∧ ZeroFrom xs k) (fun t => (intOf t).toNat)
  case atStart => exact ⟨xs.length, Nat.le_refl _, rfl, fun i v hv hi => by have := (List.getElem?_eq_some_iff.1 hv).1; omega⟩
  case round =>
    obtain ⟨k, hk, rfl, hz⟩ := hrel
    have hex : (∃ v, 0 < k ∧ xs[k - 1]? = some v ∧ v = 0) ∨ (∀ v, 0 < k → xs[k - 1]? = some v → v ≠ 0) := by
      by_cases hh : ∃ v, 0 < k ∧ xs[k - 1]? = some v ∧ v = 0
      · exact .inl hh
      · exact .inr fun v h1 h2 h3 => hh ⟨v, h1, h2, h3⟩
    rcases hex with ⟨v, hp, hv, hv0⟩ | hfin
    · obtain ⟨g, off, v', rfl, hg, hv', hc1⟩ := h.at_ (i := k - 1) (by omega)
      have e : v' = v := by rw [hv] at hv'; injection hv' with hv'; exact hv'.symm
      subst e
      have hq : ((v' : Int) == 0) = true := by simp [hv0]
      have HV := Lib.hid hv
      have H0 := Lib.hid hv0
      clear hv hv' hv0 h
      go_wp2
      go_round
      case rel =>
        refine ⟨k - 1, by omega, by congr 1; omega, fun i u hu hi => ?_⟩
        by_cases e : i = k - 1
        · have := HV.out; rw [e] at hu; rw [hu] at this; injection this with this; rw [this]; exact H0.out
        · exact hz i u hu (by omega)
      case measure => simp [intOf]; omega
    · have htk := FIN.out k hk hz hfin
      have HT := Lib.hid htk
      clear htk
      by_cases hp : 0 < k
      · obtain ⟨g, off, v, rfl, hg, hv, hc1⟩ := h.at_ (i := k - 1) (by omega)
        have hq : ((v : Int) == 0) = false := by have := hfin v hp hv; simp; omega
        have HV := Lib.hid hv
        clear hv h hfin
        go_wp2
        go_loopw [4, 5] (fun out t wr => ∃ m : Nat, m ≤ k ∧ t = .int .i64 (m : Int) ∧ wr.ownsRow w.heap.size 56 1 out m (ints .u32 (xs.take m)) ∧ Below w.heap.size w wr) (fun _ t _ => k - (intOf t).toNat)
        case atStart => exact ⟨0, Nat.zero_le _, rfl, HO.out, hbA⟩
        case round =>
          clear hbA HO
          obtain ⟨m, hm, rfl, hown, hbl⟩ := hrel
          by_cases hlt : m < k
          · obtain ⟨q, qo, u, e0, hq', hu, hcu⟩ := (H.out.keep hbl).at_ (i := m) (by omega)
            first | (injection e0 with e0; injection e0 with e1 e2 e3; subst e1; subst e2) | subst e0
            have htk2 : ints .u32 (xs.take m) ++ [.int .u32 (u : Int)] = ints .u32 (xs.take (m + 1)) := by
              have hml : m < xs.length := by omega
              rw [List.take_succ_eq_append_getElem hml, (List.getElem?_eq_some_iff.1 hu).2]; simp [ints]
            have HT2 := Lib.hid htk2
            have HU := Lib.hid hu
            clear htk2 hu
            go_wp2_with (at_builtin
                         refine wpList_append_own _ rfl _ _ 35 rfl w.heap.size 56 i0 (.int .u32 0) 1 4 Try.underlying35 hi hz0 hz1 hz2 rfl (by decide) _ m _ rfl (hown.alloc _) ⟨wr.heap.size, 0, none⟩ 1 1 [.int .u32 (u : Int)] rfl rfl (cell_one_new _ _ _) (ints_one .u32 [u]) ?c4 ?c5 (Nat.le_trans hbl.size (by simp)) ?_)
            case c4 => unfold maxLen; omega
            case c5 => omega
            intro v' w1 hown1 hgr1 _
            have hb1 : Below w.heap.size w w1 := (hbl.alloc hbl.size _).grown hgr1 (Nat.le_trans hbl.size (by simp)) (fun g' hg' => by
              rcases hown.2 with ⟨rfl, _⟩ | ⟨g2, cap, cur, rfl, hg2, _⟩
              · simp [Value.ownBlock] at hg'
              · simp [Value.ownBlock] at hg'; omega)
            rw [HT2.out] at hown1
            have H1 := Lib.hid hown1
            clear hown1 hown
            go_wp2
            go_roundw
            case rel => exact ⟨m + 1, by omega, by go_num, H1.out, hb1⟩
            case measure => simp [intOf]; omega
          · have hmk : m = k := by omega
            subst hmk
            clear hlt
            rw [HT.out] at hown
            have hlen : ds.length = m := by rw [← HT.out, List.length_take]; omega
            have HLEN := Lib.hid hlen
            have HOW := Lib.hid hown
            clear hlen hown
            go_wp2
            go_ret
            have := HOW.out
            rw [← HLEN.out] at this
            exact ⟨_, rfl, this, hbl⟩
      · clear h hfin
        go_wp2
        go_loopw [4, 5] (fun out t wr => ∃ m : Nat, m ≤ k ∧ t = .int .i64 (m : Int) ∧ wr.ownsRow w.heap.size 56 1 out m (ints .u32 (xs.take m)) ∧ Below w.heap.size w wr) (fun _ t _ => k - (intOf t).toNat)
        case atStart => exact ⟨0, Nat.zero_le _, rfl, HO.out, hbA⟩
        case round =>
          clear hbA HO
          obtain ⟨m, hm, rfl, hown, hbl⟩ := hrel
          by_cases hlt : m < k
          · exfalso; omega
          · have hmk : m = k := by omega
            subst hmk
            clear hlt
            rw [HT.out] at hown
            have hlen : ds.length = m := by rw [← HT.out, List.length_take]; omega
            have HLEN := Lib.hid hlen
            have HOW := Lib.hid hown
            clear hlen hown
            go_wp2
            go_ret
            have := HOW.out
            rw [← HLEN.out] at this
            exact ⟨_, rfl, this, hbl⟩
end Go.Proofs.Ytaegkhdkhgemmaa

namespace Go.Proofs.Ytaegkhdkhgemmaa
open Go.RowKit Num

set_option maxHeartbeats 1000000 in
set_option maxRecDepth 100000 in
theorem refOf_any (v : Nat) (hv : v < B64) (w : World) : Calls Try.prog 34 #[.int .u64 (v : Int)] w (LsPost w (dig B32 v)) := by
  obtain ⟨lo, hlo⟩ : ∃ lo, v % 4294967296 = lo := ⟨_, rfl⟩
  obtain ⟨hi, hhi⟩ : ∃ hi, v / 4294967296 = hi := ⟨_, rfl⟩
  have l1 : lo < B32 := by unfold B32; omega
  have l2 : hi < B32 := by unfold B32; unfold B64 at hv; omega
  have e1 : (v : Int) % 4294967296 = (lo : Int) := by omega
  have e2 : (v : Int) / 4294967296 = (hi : Int) := by omega
  have w1 : IntKind.u32.wrap (lo : Int) = (lo : Int) := by rw [IntKind.wrap_u32']; unfold B32 at l1; omega
  have w2 : IntKind.u32.wrap (hi : Int) = (hi : Int) := by rw [IntKind.wrap_u32']; unfold B32 at l2; omega
  have w3 : IntKind.u64.wrap (hi : Int) = (hi : Int) := by rw [IntKind.wrap_u64]; unfold B32 at l2; omega
  have w4 : (hi : Int) % 4294967296 = (hi : Int) := by unfold B32 at l2; omega
  have hval : val B32 [lo, hi] = v := by simp only [val]; unfold B32; omega
  have hlow : Low B32 [lo, hi] := Low.cons l1 (Low.cons l2 (Low.nil _))
  have hl := new_limbs w [lo, hi] (by simp)
  have hbA := below_new w (.cells (ints .u32 [lo, hi]).toArray 56)
  have ht : Calls Try.prog 80 #[.slice (some ⟨w.heap.size, 0, none⟩) 2 2] (w.alloc (.cells #[.int .u32 (lo : Int), .int .u32 (hi : Int)] 56)) (LsPost (w.alloc (.cells #[.int .u32 (lo : Int), .int .u32 (hi : Int)] 56)) (dig B32 v)) := by
    obtain ⟨A, c, e, _, _, hn⟩ := hl
    injection e with e1 e2 e3
    subst e1
    have := refTrim_any _ 2 2 [lo, hi] _ hn hlow rfl (by omega)
    rw [hval] at this
    exact this
  have HT := Lib.hid ht
  have H1 := Lib.hid hlo
  have H2 := Lib.hid hhi
  clear ht hl hval hlow hlo hhi l1 l2 hv
  go_enter Try.func34, Try.ntmps34
  go_wp2_with (go_at_call 80; refine HT.out.mono ?_; rintro e w1 ⟨r, rfl, hr, hb⟩)
  go_ret
  refine ⟨_, rfl, ?_, below_at hbA (Nat.le_refl _) hb⟩
  obtain ⟨q1, q2⟩ := hr
  refine ⟨q1, ?_⟩
  rcases q2 with q2 | ⟨g, c, cur, e, hg, r⟩
  · exact .inl q2
  · exact .inr ⟨g, c, cur, e, by simp at hg; omega, r⟩
end Go.Proofs.Ytaegkhdkhgemmaa

namespace Go.Proofs.Ytaegkhdkhgemmaa
open Go.RowKit Num

theorem check_l (a : Value) (xs : List Nat) (w : World) (h : Limbs w a xs) : Calls Try.prog 31 #[a] w fun e w' => e = .returned (.int .i64 (chk xs)) ∧ w = w' := by
  obtain ⟨A, c, rfl, _, hl, hA⟩ := h
  exact check_any A c _ xs w hA rfl hl
theorem refCheck_l (a : Value) (xs : List Nat) (w : World) (h : Limbs w a xs) : Calls Try.prog 27 #[a] w fun e w' => e = .returned (.int .i64 (chk xs)) ∧ w = w' := by
  obtain ⟨A, c, rfl, _, hl, hA⟩ := h
  exact refCheck_any A c _ xs w hA rfl hl
/-- Limbs that Check takes are the digits of a number. -/
theorem chk_zero {xs : List Nat} (hlow : Low B32 xs) (h : chk xs = 0) : xs = dig B32 (val B32 xs) := by
  refine (dig_val b32_two hlow ((neat_iff xs).2 fun hl h0 => ?_)).symm
  unfold chk at h
  split at h
  · cases h
  · rw [if_pos ⟨hl, by rw [List.getD_eq_getElem?_getD, List.getElem?_eq_getElem (by omega)]; exact h0⟩] at h
    cases h
theorem len_u64 {v : Nat} (hv : v < B64) : (dig B32 v).length ≤ 2 := by
  have e : B32 ^ 2 = B64 := by decide
  exact dig_len_le b32_two (by omega)
theorem same_of (a b : Value) (v : Nat) (w : World) (ha : N32 w a v) (hb : Limbs w b (dig B32 v)) (hv : v < B64) : Calls Try.prog 32 #[a, b] w fun e w' => e = .returned (.bool true) ∧ Below w.heap.size w w' := by
  have hl := len_u64 hv
  have := same_nums a b _ _ w (Limbs.num ha (by omega)) hb
  rw [decide_eq_true rfl] at this
  exact this

set_option maxHeartbeats 2000000 in
set_option maxRecDepth 100000 in
theorem checks_bad (A : Option Addr) (c L v : Nat) (xs : List Nat) (w : World) (hA : Nums .u32 w A xs) (hL : L = xs.length) (hc : L ≤ c) (hnil : A = none → c = 0) (hv : v < B64)
    (hbad : chk (xs.take 40) ≠ 0) : Calls Try.prog 3 #[.slice A L c, .int .u64 (v : Int)] w (LivesPost w) := by
  have hcut := cut_any A c L 40 xs w hA hL hc hnil (by omega)
  have hlen : (xs.take 40).length ≤ 40 := by rw [List.length_take]; omega
  generalize xs.take 40 = ys at *
  have hlim : ∀ B w' a, OwnLs B w' a ys → Limbs w' a ys := fun B w' a h => h.limbs (by omega)
  have hof := fun w => of_any v hv w
  have hrof := fun w => refOf_any v hv w
  have hlim2 : ∀ B w' a, OwnLs B w' a (dig B32 v) → Limbs w' a (dig B32 v) := fun B w' a h => h.limbs (Nat.le_trans (len_u64 hv) (by omega))
  have hsame := fun a b w h1 h2 => same_of a b v w h1 h2 hv
  have hb28 := fun a w h => bits_bad a ys w h hbad
  have hb29 := fun a w h => uint64_bad a ys w h hbad
  have h27 := fun a w h => refCheck_l a ys w h
  have h31 := fun a w h => check_l a ys w h
  obtain ⟨r, hr⟩ : ∃ r, chk ys = r := ⟨_, rfl⟩
  rw [hr] at hbad hb28 hb29 h27 h31
  have hq : (r != 0) = true := by simp [hbad]
  have hq0 : (r == r) = true := by simp
  have hq1 : (r != r) = false := by simp
  have HCUT := Lib.hid hcut
  have HLIM := Lib.hid hlim
  have HLIM2 := Lib.hid hlim2
  have HOF := Lib.hid hof
  have HROF := Lib.hid hrof
  have HSAME := Lib.hid hsame
  have H28 := Lib.hid hb28
  have H29 := Lib.hid hb29
  have H27 := Lib.hid h27
  have H31 := Lib.hid h31
  have HR := Lib.hid hr
  have HB := Lib.hid hbad
  clear hcut hlim hlim2 hof hrof hsame hb28 hb29 h27 h31 hr hbad hA hL hlen hnil hv
  go_enter Try.func3, Try.ntmps3
  go_wp2_with (first
    | (go_at_call 26; refine HCUT.out.mono ?_; rintro e w1 ⟨va, rfl, hva, hb1⟩
       have ka := HLIM.out _ _ _ hva)
    | (go_at_call 27; refine (H27.out _ _ ka).mono ?_; rintro e w2 ⟨rfl, rfl⟩)
    | (go_at_call 28; refine (H28.out _ _ ka).mono ?_; rintro e w2 ⟨rfl, hb2⟩
       have b2 := below_at hb1 (Nat.le_refl _) hb2
       have ka2 := ka.keep hb2)
    | (go_at_call 29; refine (H29.out _ _ ka2).mono ?_; rintro e w3 ⟨rfl, hb3⟩
       have b3 := below_at b2 (Nat.le_refl _) hb3
       have ka3 := ka2.keep hb3)
    | (go_at_call 30; refine (lives_any _).mono ?_; rintro e w4 ⟨rfl, hb4⟩
       have b4 := below_at b3 (Nat.le_refl _) hb4
       have ka4 := ka3.keep hb4)
    | (go_at_call 31; refine (H31.out _ _ ka4).mono ?_; rintro e w5 ⟨rfl, rfl⟩)
    | (go_at_call 33; refine (HOF.out _).mono ?_; rintro e w6 ⟨v6, rfl, hv6, hb6⟩
       have b6 := below_at b4 (Nat.le_refl _) hb6)
    | (go_at_call 34; refine (HROF.out _).mono ?_; rintro e w7 ⟨v7, rfl, hv7, hb7⟩
       have b7 := below_at b6 (Nat.le_refl _) hb7
       have k6 := hv6.is.keep hb7
       have k7 := HLIM2.out _ _ _ hv7)
    | (go_at_call 32; refine (HSAME.out _ _ _ k6 k7).mono ?_; rintro e w8 ⟨rfl, hb8⟩
       have b8 := below_at b7 (Nat.le_refl _) hb8))
  go_ret
  exact ⟨rfl, b8⟩
set_option maxHeartbeats 2000000 in
set_option maxRecDepth 100000 in
theorem checks_ok2 (A : Option Addr) (c L v n : Nat) (xs : List Nat) (w : World) (hA : Nums .u32 w A xs) (hL : L = xs.length) (hc : L ≤ c) (hnil : A = none → c = 0) (hv : v < B64)
    (hn : xs.take 40 = dig B32 n) (h2 : (dig B32 n).length ≤ 2) : Calls Try.prog 3 #[.slice A L c, .int .u64 (v : Int)] w (LivesPost w) := by
  have hcut := cut_any A c L 40 xs w hA hL hc hnil (by omega)
  have hlen : (xs.take 40).length ≤ 40 := by rw [List.length_take]; omega
  rw [hn] at hcut hlen
  have hlim : ∀ B w' a, OwnLs B w' a (dig B32 n) → Limbs w' a (dig B32 n) := fun B w' a h => h.limbs (by omega)
  have hof := fun w => of_any v hv w
  have hrof := fun w => refOf_any v hv w
  have hlim2 : ∀ B w' a, OwnLs B w' a (dig B32 v) → Limbs w' a (dig B32 v) := fun B w' a h => h.limbs (Nat.le_trans (len_u64 hv) (by omega))
  have hsame := fun a b w h1 h2 => same_of a b v w h1 h2 hv
  have hb28 := fun a w (h : Limbs w a (dig B32 n)) => bits_ok a n w h.is (by omega)
  have hb29 := fun a w (h : Limbs w a (dig B32 n)) => uint64_ok a n w h.is h2
  have h27 := fun a w h => refCheck_l a (dig B32 n) w h
  have h31 := fun a w h => check_l a (dig B32 n) w h
  have h35 := fun a w (h : Limbs w a (dig B32 n)) => small_ok a n w h.is h2
  have h36 := fun a w (h : Limbs w a (dig B32 n)) => refBits_any a n w h.is (by omega)
  rw [chk_dig (n := n) (by omega)] at h27 h31
  generalize nbits n = r at *
  have HCUT := Lib.hid hcut
  have HLIM := Lib.hid hlim
  have HLIM2 := Lib.hid hlim2
  have HOF := Lib.hid hof
  have HROF := Lib.hid hrof
  have HSAME := Lib.hid hsame
  have H28 := Lib.hid hb28
  have H29 := Lib.hid hb29
  have H27 := Lib.hid h27
  have H31 := Lib.hid h31
  have H35 := Lib.hid h35
  have H36 := Lib.hid h36
  clear hcut hlim hlim2 hof hrof hsame hb28 hb29 h27 h31 h35 h36 hA hL hlen hnil hv hn h2
  go_enter Try.func3, Try.ntmps3
  go_wp2_with (first
    | (go_at_call 26; refine HCUT.out.mono ?_; rintro e w1 ⟨va, rfl, hva, hb1⟩
       have ka := HLIM.out _ _ _ hva)
    | (go_at_call 27; refine (H27.out _ _ ka).mono ?_; rintro e w2 ⟨rfl, rfl⟩)
    | (go_at_call 28; refine (H28.out _ _ ka).mono ?_; rintro e w2 ⟨rfl, hb2⟩
       have b2 := below_at hb1 (Nat.le_refl _) hb2
       have ka2 := ka.keep hb2)
    | (go_at_call 29; refine (H29.out _ _ ka2).mono ?_; rintro e w3 ⟨rfl, hb3⟩
       have b3 := below_at b2 (Nat.le_refl _) hb3
       have ka3 := ka2.keep hb3)
    | (go_at_call 30; refine (lives_any _).mono ?_; rintro e w4 ⟨rfl, hb4⟩
       have b4 := below_at b3 (Nat.le_refl _) hb4
       have ka4 := ka3.keep hb4)
    | (go_at_call 31; refine (H31.out _ _ ka4).mono ?_; rintro e w5 ⟨rfl, rfl⟩)
    | (go_at_call 33; refine (HOF.out _).mono ?_; rintro e w6 ⟨v6, rfl, hv6, hb6⟩
       have b6 := below_at b4 (Nat.le_refl _) hb6
       have ka6 := ka4.keep hb6)
    | (go_at_call 34; refine (HROF.out _).mono ?_; rintro e w7 ⟨v7, rfl, hv7, hb7⟩
       have b7 := below_at b6 (Nat.le_refl _) hb7
       have k6 := hv6.is.keep hb7
       have k7 := HLIM2.out _ _ _ hv7
       have ka7 := ka6.keep hb7)
    | (go_at_call 32; refine (HSAME.out _ _ _ k6 k7).mono ?_; rintro e w8 ⟨rfl, hb8⟩
       have b8 := below_at b7 (Nat.le_refl _) hb8
       have ka8 := ka7.keep hb8)
    | (go_at_call 35; refine (H35.out _ _ ka8).mono ?_; rintro e w9 ⟨rfl, hb9⟩
       have b9 := below_at b8 (Nat.le_refl _) hb9
       have ka9 := ka8.keep hb9)
    | (go_at_call 36; refine (H36.out _ _ ka9).mono ?_; rintro e w10 ⟨rfl, rfl⟩))
  go_ret
  exact ⟨rfl, b9⟩

set_option maxHeartbeats 2000000 in
set_option maxRecDepth 100000 in
theorem checks_ok3 (A : Option Addr) (c L v n : Nat) (xs : List Nat) (w : World) (hA : Nums .u32 w A xs) (hL : L = xs.length) (hc : L ≤ c) (hnil : A = none → c = 0) (hv : v < B64)
    (hn : xs.take 40 = dig B32 n) (h2 : 2 < (dig B32 n).length) : Calls Try.prog 3 #[.slice A L c, .int .u64 (v : Int)] w (LivesPost w) := by
  have hcut := cut_any A c L 40 xs w hA hL hc hnil (by omega)
  have hlen : (xs.take 40).length ≤ 40 := by rw [List.length_take]; omega
  rw [hn] at hcut hlen
  have hlim : ∀ B w' a, OwnLs B w' a (dig B32 n) → Limbs w' a (dig B32 n) := fun B w' a h => h.limbs (by omega)
  have hof := fun w => of_any v hv w
  have hrof := fun w => refOf_any v hv w
  have hlim2 : ∀ B w' a, OwnLs B w' a (dig B32 v) → Limbs w' a (dig B32 v) := fun B w' a h => h.limbs (Nat.le_trans (len_u64 hv) (by omega))
  have hsame := fun a b w h1 h2 => same_of a b v w h1 h2 hv
  have hb28 := fun a w (h : Limbs w a (dig B32 n)) => bits_ok a n w h.is (by omega)
  have hb29 := fun a w (h : Limbs w a (dig B32 n)) => uint64_range a n w h.is (by omega) h2
  have h27 := fun a w h => refCheck_l a (dig B32 n) w h
  have h31 := fun a w h => check_l a (dig B32 n) w h
  have h35 := fun a w (h : Limbs w a (dig B32 n)) => small_no a n w h.is (by omega) h2
  have h36 := fun a w (h : Limbs w a (dig B32 n)) => refBits_any a n w h.is (by omega)
  rw [chk_dig (n := n) (by omega)] at h27 h31
  generalize nbits n = r at *
  have HCUT := Lib.hid hcut
  have HLIM := Lib.hid hlim
  have HLIM2 := Lib.hid hlim2
  have HOF := Lib.hid hof
  have HROF := Lib.hid hrof
  have HSAME := Lib.hid hsame
  have H28 := Lib.hid hb28
  have H29 := Lib.hid hb29
  have H27 := Lib.hid h27
  have H31 := Lib.hid h31
  have H35 := Lib.hid h35
  have H36 := Lib.hid h36
  clear hcut hlim hlim2 hof hrof hsame hb28 hb29 h27 h31 h35 h36 hA hL hlen hnil hv hn h2
  go_enter Try.func3, Try.ntmps3
  go_wp2_with (first
    | (go_at_call 26; refine HCUT.out.mono ?_; rintro e w1 ⟨va, rfl, hva, hb1⟩
       have ka := HLIM.out _ _ _ hva)
    | (go_at_call 27; refine (H27.out _ _ ka).mono ?_; rintro e w2 ⟨rfl, rfl⟩)
    | (go_at_call 28; refine (H28.out _ _ ka).mono ?_; rintro e w2 ⟨rfl, hb2⟩
       have b2 := below_at hb1 (Nat.le_refl _) hb2
       have ka2 := ka.keep hb2)
    | (go_at_call 29; refine (H29.out _ _ ka2).mono ?_; rintro e w3 ⟨rfl, hb3⟩
       have b3 := below_at b2 (Nat.le_refl _) hb3
       have ka3 := ka2.keep hb3)
    | (go_at_call 30; refine (lives_any _).mono ?_; rintro e w4 ⟨rfl, hb4⟩
       have b4 := below_at b3 (Nat.le_refl _) hb4
       have ka4 := ka3.keep hb4)
    | (go_at_call 31; refine (H31.out _ _ ka4).mono ?_; rintro e w5 ⟨rfl, rfl⟩)
    | (go_at_call 33; refine (HOF.out _).mono ?_; rintro e w6 ⟨v6, rfl, hv6, hb6⟩
       have b6 := below_at b4 (Nat.le_refl _) hb6
       have ka6 := ka4.keep hb6)
    | (go_at_call 34; refine (HROF.out _).mono ?_; rintro e w7 ⟨v7, rfl, hv7, hb7⟩
       have b7 := below_at b6 (Nat.le_refl _) hb7
       have k6 := hv6.is.keep hb7
       have k7 := HLIM2.out _ _ _ hv7
       have ka7 := ka6.keep hb7)
    | (go_at_call 32; refine (HSAME.out _ _ _ k6 k7).mono ?_; rintro e w8 ⟨rfl, hb8⟩
       have b8 := below_at b7 (Nat.le_refl _) hb8
       have ka8 := ka7.keep hb8)
    | (go_at_call 35; refine (H35.out _ _ ka8).mono ?_; rintro e w9 ⟨rfl, hb9⟩
       have b9 := below_at b8 (Nat.le_refl _) hb9
       have ka9 := ka8.keep hb9)
    | (go_at_call 36; refine (H36.out _ _ ka9).mono ?_; rintro e w10 ⟨rfl, rfl⟩))
  go_ret
  exact ⟨rfl, b9⟩

/-- The law NatChecks, for whatever limbs and whatever word. -/
theorem checks_walk (A : Option Addr) (c L v : Nat) (xs : List Nat) (w : World) (hA : Nums .u32 w A xs) (hlow : Low B32 xs) (hL : L = xs.length) (hc : L ≤ c) (hnil : A = none → c = 0) (hv : v < B64) :
    Calls Try.prog 3 #[.slice A L c, .int .u64 (v : Int)] w (LivesPost w) := by
  by_cases h0 : chk (xs.take 40) = 0
  · have hn := chk_zero (hlow.take 40) h0
    rcases Nat.lt_or_ge 2 (dig B32 (val B32 (xs.take 40))).length with h2 | h2
    · exact checks_ok3 A c L v _ xs w hA hL hc hnil hv hn h2
    · exact checks_ok2 A c L v _ xs w hA hL hc hnil hv hn h2
  · exact checks_bad A c L v xs w hA hL hc hnil hv h0
end Go.Proofs.Ytaegkhdkhgemmaa

namespace Go.Proofs.Ytaegkhdkhgemmaa
open Go.RowKit Num

theorem cmp64_call (a b : Value) (m n : Nat) (w : World) (ha : W64 w a m) (hb : W64 w b n) (hm : (dig B64 m).length ≤ 1000000000) (hn : (dig B64 n).length ≤ 1000000000) :
    Calls Try.prog 83 #[a, b] w fun e w' => e = .returned (.int .i64 (cmpN m n)) ∧ Below w.heap.size w w' := by
  obtain ⟨A, c, rfl, _, hA⟩ := ha
  obtain ⟨A', c', rfl, _, hA'⟩ := hb
  exact compare83 A A' c c' _ _ m n w hA hA' rfl rfl (by omega) (by omega)

set_option maxHeartbeats 1000000 in
set_option maxRecDepth 100000 in
theorem sub_ok (a b : Value) (m n : Nat) (w : World) (ha : N32 w a m) (hb : N32 w b n) (hm : (dig B32 m).length ≤ 262144) (hn : (dig B32 n).length ≤ 262144) (hle : n ≤ m) : Calls Try.prog 38 #[a, b] w (NatOk w (m - n)) := by
  have hc := checkAll_any w.heap.size 2 2 _ _ (nats2 (Limbs.num ha (by omega)) (Limbs.num hb (by omega))) rfl (by omega)
  rw [chkAll2, chk2, if_pos (chk_dig hm), chk_dig hn] at hc
  have hbA := below_new w (.cells #[a, b] 23)
  have ha1 := ha.keep hbA
  have hb1 := hb.keep hbA
  have hf1 := fun w' (h : N32 w' a m) => fromNat_any a m w' h (by omega)
  have hf2 := fun w' (h : N32 w' b n) => fromNat_any b n w' h (by omega)
  have lm := words_le (n := m) (K := 131072) hm
  have ln := words_le (n := n) (K := 131072) hn
  have hcm := fun v u w' (h : W64 w' v m) (k : W64 w' u n) => cmp64_call v u m n w' h k (by omega) (by omega)
  have hpr := fun v u w' (h : W64 w' v m) (k : W64 w' u n) => diff_any v u m n w' h k (by omega) hle
  have hnt := fun v w' (h : W64 w' v (m - n)) => nat_any v (m - n) w' h (Nat.le_trans (dig_len_mono (Nat.sub_le m n)) (by omega))
  have hcv : 0 ≤ cmpN m n := by unfold cmpN; split <;> (try split) <;> omega
  generalize cmpN m n = r at *
  have HC := Lib.hid hc
  have HA := Lib.hid ha1
  have HB := Lib.hid hb1
  have HF1 := Lib.hid hf1
  have HF2 := Lib.hid hf2
  have HP := Lib.hid hpr
  have HN := Lib.hid hnt
  have HCM := Lib.hid hcm
  obtain ⟨A, c, rfl, _⟩ := ha
  obtain ⟨A', c', rfl, _⟩ := hb
  clear hc ha1 hb1 hf1 hf2 hpr hle hnt lm ln hcm
  generalize (dig B32 m).length = L at *
  generalize (dig B32 n).length = L' at *
  go_enter Try.func38, Try.ntmps38
  go_wp2_with (go_at_call 75; refine HC.out.mono ?_; rintro e w1 ⟨rfl, rfl⟩)
  go_wp2_with (fail)
  refine (HF1.out _ HA.out).mono ?_
  rintro e w1 ⟨v1, rfl, hv1, hb1⟩
  go_wp2_with (fail)
  refine (HF2.out _ (HB.out.keep hb1)).mono ?_
  rintro e w2 ⟨v2, rfl, hv2, hb2⟩
  have k1 := hv1.is.keep hb2
  have k2 := hv2.is
  go_wp2_with (fail)
  refine (HCM.out _ _ _ k1 k2).mono ?_
  rintro e w3 ⟨rfl, hb3⟩
  go_wp2_with (fail)
  refine (HP.out _ _ _ (k1.keep hb3) (k2.keep hb3)).mono ?_
  rintro e w4 ⟨v4, rfl, hv4, hb4⟩
  go_wp2_with (fail)
  refine (HN.out _ _ hv4.is).mono ?_
  rintro e w5 ⟨v5, rfl, hv5, hb5⟩
  go_wp2
  go_ret2
  have b1 := below_at hbA (Nat.le_refl _) hb1
  have b2 := below_at b1 (Nat.le_refl _) hb2
  have b3 := below_at b2 (Nat.le_refl _) hb3
  have b4 := below_at b3 (Nat.le_refl _) hb4
  exact ⟨_, rfl, hv5.mono b4.size, below_at b4 (Nat.le_refl _) hb5⟩

set_option maxHeartbeats 1000000 in
set_option maxRecDepth 100000 in
theorem sub_range (a b : Value) (m n : Nat) (w : World) (ha : N32 w a m) (hb : N32 w b n) (hm : (dig B32 m).length ≤ 262144) (hn : (dig B32 n).length ≤ 262144) (hlt : m < n) : Calls Try.prog 38 #[a, b] w (NatErr w 5) := by
  have hc := checkAll_any w.heap.size 2 2 _ _ (nats2 (Limbs.num ha (by omega)) (Limbs.num hb (by omega))) rfl (by omega)
  rw [chkAll2, chk2, if_pos (chk_dig hm), chk_dig hn] at hc
  have hbA := below_new w (.cells #[a, b] 23)
  have ha1 := ha.keep hbA
  have hb1 := hb.keep hbA
  have hf1 := fun w' (h : N32 w' a m) => fromNat_any a m w' h (by omega)
  have hf2 := fun w' (h : N32 w' b n) => fromNat_any b n w' h (by omega)
  have lm := words_le (n := m) (K := 131072) hm
  have ln := words_le (n := n) (K := 131072) hn
  have hcm := fun v u w' (h : W64 w' v m) (k : W64 w' u n) => cmp64_call v u m n w' h k (by omega) (by omega)
  rw [cmpN_lt hlt] at hcm
  have HC := Lib.hid hc
  have HA := Lib.hid ha1
  have HB := Lib.hid hb1
  have HF1 := Lib.hid hf1
  have HF2 := Lib.hid hf2
  have HCM := Lib.hid hcm
  obtain ⟨A, c, rfl, _⟩ := ha
  obtain ⟨A', c', rfl, _⟩ := hb
  clear hc ha1 hb1 hf1 hf2 lm ln hcm hlt
  generalize (dig B32 m).length = L at *
  generalize (dig B32 n).length = L' at *
  go_enter Try.func38, Try.ntmps38
  go_wp2_with (go_at_call 75; refine HC.out.mono ?_; rintro e w1 ⟨rfl, rfl⟩)
  go_wp2_with (fail)
  refine (HF1.out _ HA.out).mono ?_
  rintro e w1 ⟨v1, rfl, hv1, hb1⟩
  go_wp2_with (fail)
  refine (HF2.out _ (HB.out.keep hb1)).mono ?_
  rintro e w2 ⟨v2, rfl, hv2, hb2⟩
  have k1 := hv1.is.keep hb2
  have k2 := hv2.is
  go_wp2_with (fail)
  refine (HCM.out _ _ _ k1 k2).mono ?_
  rintro e w3 ⟨rfl, hb3⟩
  go_wp2
  go_ret2
  have b1 := below_at hbA (Nat.le_refl _) hb1
  have b2 := below_at b1 (Nat.le_refl _) hb2
  exact ⟨rfl, below_at b2 (Nat.le_refl _) hb3⟩

set_option maxHeartbeats 400000 in
theorem both_any (a b : Value) (xs ys : List Nat) (w : World) (ha : Limbs w a xs) (hb : Limbs w b ys) : Calls Try.prog 40 #[a, b] w fun e w' => e = .returned (.int .i64 (chk2 xs ys)) ∧ w = w' := by
  have h1 := refCheck_l a xs w ha
  have h2 := refCheck_l b ys w hb
  unfold chk2
  by_cases h0 : chk xs = 0
  · rw [if_pos h0]
    rw [h0] at h1
    generalize chk ys = r at *
    have H1 := Lib.hid h1
    have H2 := Lib.hid h2
    clear h1 h2 ha hb h0
    go_enter Try.func40, Try.ntmps40
    go_wp2_with (fail)
    refine H1.out.mono ?_
    rintro e w1 ⟨rfl, rfl⟩
    go_wp2_with (fail)
    refine H2.out.mono ?_
    rintro e w1 ⟨rfl, rfl⟩
    go_wp2
    go_ret
    exact ⟨rfl, rfl⟩
  · rw [if_neg h0]
    generalize chk xs = r at *
    have hq : (r != 0) = true := by simp [h0]
    have H1 := Lib.hid h1
    have H0 := Lib.hid h0
    clear h1 h2 ha hb h0
    go_enter Try.func40, Try.ntmps40
    go_wp2_with (fail)
    refine H1.out.mono ?_
    rintro e w1 ⟨rfl, rfl⟩
    go_wp2
    go_ret
    exact ⟨rfl, rfl⟩

set_option maxHeartbeats 400000 in
/-- is: a number that is as it should be. -/
theorem is_ok (a b : Value) (n : Nat) (w : World) (ha : N32 w a n) (hb : Limbs w b (dig B32 n)) (hl : (dig B32 n).length ≤ 1000000000) : Calls Try.prog 41 #[a, .int .i64 0, b, .int .i64 0] w (LivesPost w) := by
  have hs := same_nums a b _ _ w (Limbs.num ha (by omega)) hb
  rw [decide_eq_true rfl] at hs
  have HS := Lib.hid hs
  clear hs ha hb
  go_enter Try.func41, Try.ntmps41
  go_wp2_with (go_at_call 32; refine HS.out.mono ?_; rintro e w1 ⟨rfl, hb1⟩)
  go_ret
  exact ⟨rfl, hb1⟩
set_option maxHeartbeats 400000 in
/-- is: an error that is as it should be. -/
theorem is_err (b : Value) (k : Int) (w : World) (h0 : k ≠ 0) : Calls Try.prog 41 #[.slice none 0 0, .int .i64 k, b, .int .i64 k] w (LivesPost w) := by
  have hq : (k != 0) = true := by simp [h0]
  have hq2 : (k == k) = true := by simp
  have H0 := Lib.hid h0
  clear h0
  go_enter Try.func41, Try.ntmps41
  go_wp2
  go_ret
  exact ⟨rfl, Below.refl _ _⟩
end Go.Proofs.Ytaegkhdkhgemmaa

namespace Go.Proofs.Ytaegkhdkhgemmaa
open Go.RowKit Num

set_option maxHeartbeats 1000000 in
theorem refCmp_any (A A' : Option Addr) (c c' L L' m n : Nat) (w : World) (h : Nums .u32 w A (dig B32 m)) (h' : Nums .u32 w A' (dig B32 n)) (hL : L = (dig B32 m).length) (hL' : L' = (dig B32 n).length) (hl : L ≤ 1000000000000) (hl' : L' ≤ 1000000000000) :
    Calls Try.prog 42 #[.slice A L c, .slice A' L' c'] w fun e w' => e = .returned (.int .i64 (cmpN m n)) ∧ Below w.heap.size w w' := by
  obtain ⟨r, hr⟩ : ∃ r, cmpN m n = r := ⟨_, rfl⟩
  rw [hr]
  by_cases hne : L = L'
  · subst hne
    have HL := Lib.hid hL
    have HL' := Lib.hid hL'
    have HR := Lib.hid hr
    clear hL hL' hr
    go_enter Try.func42, Try.ntmps42
    go_wp2
    go_loopw [5] (fun t wr => ∃ k : Nat, k ≤ L ∧ t = .int .i64 ((k : Int) - 1) ∧ Hid (m / B32 ^ k = n / B32 ^ k) ∧ Below w.heap.size w wr) (fun t _ => (intOf t + 1).toNat)
    case atStart => exact ⟨L, Nat.le_refl _, rfl, Lib.hid (by rw [div_pow_len b32_two (by rw [← HL.out]; exact Nat.le_refl _), div_pow_len b32_two (by rw [← HL'.out]; exact Nat.le_refl _)]), Below.refl _ _⟩
    case round =>
      obtain ⟨k, hk, rfl, hd, hb⟩ := hrel
      by_cases h0 : k = 0
      · subst h0
        have hmn : m = n := by have := hd.out; simpa using this
        have hr0 : r = 0 := by have := HR.out; rw [hmn, cmpN_eq] at this; exact this.symm
        have H0 := Lib.hid hr0
        clear hmn hr0
        go_wp2
        go_ret
        exact ⟨ret_i H0.out.symm, hb⟩
      · obtain ⟨j, rfl⟩ : ∃ j, k = j + 1 := ⟨k - 1, by omega⟩
        obtain ⟨g, off, x, rfl, hg, hx, hcx⟩ := (h.keep hb).at_ (i := j) (by have := HL.out; omega)
        obtain ⟨g', off', y, rfl, hg', hy, hcy⟩ := (h'.keep hb).at_ (i := j) (by have := HL'.out; omega)
        clear h h'
        rcases Nat.lt_trichotomy x y with hxy | hxy | hxy
        · have hc : r = -1 := by rw [← HR.out]; exact cmpN_lt (lt_of_digit b32_two hx hy hd.out hxy)
          have HC := Lib.hid hc
          clear hc hx hy
          go_wp2
          go_quiet (fail)
          go_wp2
          go_ret
          exact ⟨ret_i HC.out.symm, below_drewN hb _⟩
        · have hd' : m / B32 ^ j = n / B32 ^ j := eq_step b32_two hx (by rw [hxy]; exact hy) hd.out
          have HD := Lib.hid hd'
          have h1 : ¬ x < y := by omega
          have h2 : ¬ y < x := by omega
          clear hxy hd' hx hy
          go_wp2
          go_quiet (fail)
          go_wp2
          go_quiet (fail)
          go_wp2
          go_roundw
          case rel => exact ⟨j, by omega, by congr 1, HD, below_drewN hb _⟩
          case measure => simp [intOf]
        · have hc : r = 1 := by rw [← HR.out]; exact cmpN_gt (lt_of_digit b32_two hy hx hd.out.symm hxy)
          have HC := Lib.hid hc
          have h1 : ¬ x < y := by omega
          clear hc hx hy
          go_wp2
          go_quiet (fail)
          go_wp2
          go_quiet (fail)
          go_wp2
          go_ret
          exact ⟨ret_i HC.out.symm, below_drewN (below_drewN hb _) _⟩
  · have hn' : ((L : Int) != (L' : Int)) = true := by simp; omega
    have hc : cmpN L L' = r := by rw [← hr, hL, hL'] at *; exact cmp_of_len b32_two hne
    have HC := Lib.hid hc
    clear hc h h' hL hL' hr
    by_cases hlt : L < L'
    · have hr1 : r = -1 := by rw [← HC.out]; exact cmpN_lt hlt
      have H1 := Lib.hid hr1
      clear hr1
      go_enter Try.func42, Try.ntmps42
      go_wp2
      go_ret
      exact ⟨ret_i H1.out.symm, Below.refl _ _⟩
    · have hr1 : r = 1 := by rw [← HC.out]; exact cmpN_gt (by omega)
      have H1 := Lib.hid hr1
      clear hr1
      go_enter Try.func42, Try.ntmps42
      go_wp2
      go_ret
      exact ⟨ret_i H1.out.symm, Below.refl _ _⟩

theorem refCmp_call (a b : Value) (m n : Nat) (w : World) (ha : N32 w a m) (hb : N32 w b n) (hm : (dig B32 m).length ≤ 1000000000) (hn : (dig B32 n).length ≤ 1000000000) :
    Calls Try.prog 42 #[a, b] w fun e w' => e = .returned (.int .i64 (cmpN m n)) ∧ Below w.heap.size w w' := by
  obtain ⟨A, c, rfl, _, hA⟩ := ha
  obtain ⟨A', c', rfl, _, hA'⟩ := hb
  exact refCmp_any A A' c c' _ _ m n w hA hA' rfl rfl (by omega) (by omega)

set_option maxHeartbeats 400000 in
/-- at: limb i, or 0 beyond the end. -/
theorem at_any (A : Option Addr) (c L i : Nat) (xs : List Nat) (w : World) (h : Nums .u32 w A xs) (hlow : Low B32 xs) (hL : L = xs.length) :
    Calls Try.prog 86 #[.slice A L c, .int .i64 (i : Int)] w fun e w' => e = .returned (.int .u64 ((xs.getD i 0 : Nat) : Int)) ∧ w = w' := by
  obtain ⟨r, hr⟩ : ∃ r, xs.getD i 0 = r := ⟨_, rfl⟩
  rw [hr]
  by_cases hi : i < L
  · obtain ⟨g, off, x, rfl, hg, hx, hcx⟩ := h.at_ (i := i) (by omega)
    have e : r = x := by rw [← hr, List.getD_eq_getElem?_getD, hx]; rfl
    subst e
    have hxl : r < B32 := hlow r (List.mem_of_getElem? hx)
    have w1 : IntKind.u64.wrap (r : Int) = (r : Int) := by rw [IntKind.wrap_u64]; unfold B32 at hxl; omega
    have hii : (i : Int) < (L : Int) := by omega
    clear hr hx h hL hlow hxl
    go_enter Try.func86, Try.ntmps86
    go_wp2
    go_ret
    exact ⟨rfl, rfl⟩
  · have e : r = 0 := by rw [← hr, List.getD_eq_getElem?_getD, List.getElem?_eq_none (by omega)]; rfl
    subst e
    have hii : ¬ (i : Int) < (L : Int) := by omega
    clear hr h hL hlow
    go_enter Try.func86, Try.ntmps86
    go_wp2
    go_ret
    exact ⟨rfl, rfl⟩
end Go.Proofs.Ytaegkhdkhgemmaa

namespace Go.Proofs.Ytaegkhdkhgemmaa
open Go.RowKit Num

theorem val_take_getD (b : Nat) (xs : List Nat) (k : Nat) : val b (xs.take (k + 1)) = val b (xs.take k) + b ^ k * xs.getD k 0 := by
  by_cases hk : k < xs.length
  · rw [val_take_succ b xs k hk]
    simp [List.getD_eq_getElem?_getD, List.getElem?_eq_getElem hk]
  · rw [List.take_of_length_le (by omega), List.take_of_length_le (by omega)]
    simp [List.getD_eq_getElem?_getD, List.getElem?_eq_none (show xs.length ≤ k by omega)]
theorem getD_low {b : Nat} (hb : 0 < b) {xs : List Nat} (h : Low b xs) (k : Nat) : xs.getD k 0 < b := by
  rw [List.getD_eq_getElem?_getD]
  cases e : xs[k]? with
  | none => simpa using hb
  | some v => exact h v (List.mem_of_getElem? e)

/-- Digits that are appended, one after the other: the sum of the first k of both, but for the carry. -/
structure AddOut (xs ys : List Nat) (k : Nat) (os : List Nat) (c : Nat) : Prop where
  len : os.length = k
  low : Low B32 os
  le : c ≤ 1
  eq : val B32 os + B32 ^ k * c = val B32 (xs.take k) + val B32 (ys.take k)
theorem AddOut.start (xs ys : List Nat) : AddOut xs ys 0 [] 0 := ⟨rfl, Low.nil _, by omega, by simp [val]⟩
theorem AddOut.step {xs ys os : List Nat} {k c lo hi : Nat} (h : AddOut xs ys k os c) (hs : lo + B32 * hi = xs.getD k 0 + ys.getD k 0 + c) (hlo : lo < B32) (hhi : hi ≤ 1) :
    AddOut xs ys (k + 1) (os ++ [lo]) hi := by
  refine ⟨by simp [h.len], h.low.append (Low.cons hlo (Low.nil _)), hhi, ?_⟩
  rw [val_snoc, val_take_getD, val_take_getD, h.len]
  have e := h.eq
  have : B32 ^ k * (lo + B32 * hi) = B32 ^ k * (xs.getD k 0 + ys.getD k 0 + c) := by rw [hs]
  rw [Nat.pow_succ]
  grind
theorem AddOut.fin {xs ys os : List Nat} {k c : Nat} (h : AddOut xs ys k os c) (hx : xs.length ≤ k) (hy : ys.length ≤ k) : val B32 (os ++ [c]) = val B32 xs + val B32 ys := by
  have e := h.eq
  rw [List.take_of_length_le hx, List.take_of_length_le hy] at e
  rw [val_snoc, h.len]
  exact e

/-- A sum of three words that stay below 2^64, and its two halves: as the walk shows them. -/
theorem add3_ex (x y c : Nat) (hx : x < B32) (hy : y < B32) (hc : c ≤ 1) : ∃ s1 s lo hi : Nat,
    IntKind.u64.wrap ((x : Int) + (y : Int)) = (s1 : Int) ∧ IntKind.u64.wrap ((s1 : Int) + (c : Int)) = (s : Int) ∧ (s : Int) % 4294967296 = (lo : Int) ∧ (s : Int) / 4294967296 = (hi : Int) ∧
    IntKind.u32.wrap (lo : Int) = (lo : Int) ∧ (lo : Int) % 4294967296 = (lo : Int) ∧ IntKind.u64.wrap (hi : Int) = (hi : Int) ∧ lo + B32 * hi = x + y + c ∧ lo < B32 ∧ hi ≤ 1 := by
  unfold B32 at *
  refine ⟨x + y, x + y + c, (x + y + c) % 4294967296, (x + y + c) / 4294967296, ?_, ?_, by omega, by omega, ?_, by omega, ?_, by omega, by omega, by omega⟩
  · rw [IntKind.wrap_u64]; omega
  · rw [IntKind.wrap_u64]; omega
  · rw [IntKind.wrap_u32']; omega
  · rw [IntKind.wrap_u64]; omega

theorem refTrim_l (a : Value) (xs : List Nat) (w : World) (h : Limbs w a xs) (hlow : Low B32 xs) (hl : xs.length ≤ 1000000000) : Calls Try.prog 80 #[a] w (LsPost w (dig B32 (val B32 xs))) := by
  obtain ⟨A, c, rfl, _, _, hA⟩ := h
  exact refTrim_any A c _ xs w hA hlow rfl hl
theorem OwnLs.mono {B B' : Nat} {w : World} {v : Value} {ys : List Nat} (h : OwnLs B w v ys) (hB : B' ≤ B) : OwnLs B' w v ys := by
  obtain ⟨h1, h2⟩ := h
  refine ⟨h1, ?_⟩
  rcases h2 with h2 | ⟨g, c, cur, e, hg, r⟩
  · exact .inl h2
  · exact .inr ⟨g, c, cur, e, by omega, r⟩

set_option maxHeartbeats 2000000 in
set_option maxRecDepth 100000 in
theorem refAdd_any (A A' : Option Addr) (c c' L L' : Nat) (xs ys : List Nat) (w : World) (hA : Nums .u32 w A xs) (hA' : Nums .u32 w A' ys) (hx : Low B32 xs) (hy : Low B32 ys) (hL : L = xs.length) (hL' : L' = ys.length)
    (hl : L ≤ 1000000) (hl' : L' ≤ 1000000) : Calls Try.prog 43 #[.slice A L c, .slice A' L' c'] w (LsPost w (dig B32 (val B32 xs + val B32 ys))) := by
  obtain ⟨i0, hi, hz0, hz1, hz2⟩ := info_parts info56
  have ho := own_empty w 56
  have hbA := below_new w (.cells #[] 56)
  have HO := Lib.hid ho
  have HL := Lib.hid hL
  have HL' := Lib.hid hL'
  clear ho hL hL'
  obtain ⟨ds, hds⟩ : ∃ ds, dig B32 (val B32 xs + val B32 ys) = ds := ⟨_, rfl⟩
  rw [hds]
  have HDS := Lib.hid hds
  clear hds
  go_enter Try.func43, Try.ntmps43
  go_wp2
  go_loopw [5, 6, 7] (fun out q t wr => ∃ (k cy : Nat) (os : List Nat), (k ≤ L ∨ k ≤ L') ∧ t = .int .i64 (k : Int) ∧ q = .int .u64 (cy : Int) ∧ AddOut xs ys k os cy ∧ wr.ownsRow w.heap.size 56 1 out k (ints .u32 os) ∧ Below w.heap.size w wr) (fun _ _ t _ => L + L' - (intOf t).toNat)
  case atStart => exact ⟨0, 0, [], .inl (Nat.zero_le _), rfl, rfl, AddOut.start xs ys, HO.out, hbA⟩
  case round =>
    clear hbA HO
    obtain ⟨k, cy, os, hk, rfl, rfl, hst, hown, hbl⟩ := hrel
    have hk1 : k ≤ 1000000 := by omega
    by_cases hlt : k < L ∨ k < L'
    · have ha := at_any A c L k xs wr (hA.keep hbl) hx HL.out
      have hb := at_any A' c' L' k ys wr (hA'.keep hbl) hy HL'.out
      obtain ⟨s1, s, lo, hi', w1, w2, w3, w4, w5, w6, w7, hs, hlo, hhi⟩ := add3_ex _ _ cy (getD_low b32_pos hx k) (getD_low b32_pos hy k) hst.le
      have hst' := hst.step hs hlo hhi
      generalize xs.getD k 0 = x at *
      generalize ys.getD k 0 = y at *
      have HA := Lib.hid ha
      have HB := Lib.hid hb
      have HST := Lib.hid hst'
      have HS := Lib.hid hs
      clear ha hb hst' hA hA' hx hy hs hlo hst
      by_cases h1 : k < L
      all_goals
        go_wp2_with (fail)
        refine HA.out.mono ?_
        rintro e w9 ⟨rfl, rfl⟩
        go_wp2_with (fail)
        refine HB.out.mono ?_
        rintro e w9 ⟨rfl, rfl⟩
        go_wp2_with (at_builtin
                     refine wpList_append_own _ rfl _ _ 35 rfl w.heap.size 56 i0 (.int .u32 0) 1 4 Try.underlying35 hi hz0 hz1 hz2 rfl (by decide) _ k _ rfl (hown.alloc _) ⟨wr.heap.size, 0, none⟩ 1 1 [.int .u32 (lo : Int)] rfl rfl (cell_one_new _ _ _) (ints_one .u32 [lo]) ?c4 ?c5 (Nat.le_trans hbl.size (by simp)) ?_)
        case c4 => unfold maxLen; omega
        case c5 => omega
        intro v' w8 hown1 hgr1 _
        have hb1 : Below w.heap.size w w8 := (hbl.alloc hbl.size _).grown hgr1 (Nat.le_trans hbl.size (by simp)) (fun g' hg' => by
          rcases hown.2 with ⟨rfl, _⟩ | ⟨g2, cap, cur, rfl, hg2, _⟩
          · simp [Value.ownBlock] at hg'
          · simp [Value.ownBlock] at hg'; omega)
        have H1 := Lib.hid hown1
        have H0 := Lib.hid hown
        clear hown1 hown
        go_wp2
        go_roundw
        case rel => exact ⟨k + 1, hi', os ++ [lo], by omega, by go_num, rfl, HST.out, by have := H1.out; simpa [ints] using this, hb1⟩
        case measure => simp [intOf]; omega
    · have hst' := hst.fin (by have := HL.out; omega) (by have := HL'.out; omega)
      have hlow2 : Low B32 (os ++ [cy]) := hst.low.append (Low.cons (by have := hst.le; unfold B32; omega) (Low.nil _))
      have hlen2 : (os ++ [cy]).length = k + 1 := by simp [hst.len]
      have hcy := hst.le
      have w1 : IntKind.u32.wrap (cy : Int) = (cy : Int) := by rw [IntKind.wrap_u32']; omega
      have w2 : (cy : Int) % 4294967296 = (cy : Int) := by omega
      have HV := Lib.hid hst'
      have HLO := Lib.hid hlow2
      have HLE := Lib.hid hlen2
      have hA1 : ¬ k < L := by omega
      have hA2 : ¬ k < L' := by omega
      clear hst' hst hA hA' hx hy hlt hlow2 hlen2 hk
      go_wp2_with (at_builtin
                   refine wpList_append_own _ rfl _ _ 35 rfl w.heap.size 56 i0 (.int .u32 0) 1 4 Try.underlying35 hi hz0 hz1 hz2 rfl (by decide) _ k _ rfl (hown.alloc _) ⟨wr.heap.size, 0, none⟩ 1 1 [.int .u32 (cy : Int)] rfl rfl (cell_one_new _ _ _) (ints_one .u32 [cy]) ?c4 ?c5 (Nat.le_trans hbl.size (by simp)) ?_)
      case c4 => unfold maxLen; omega
      case c5 => omega
      intro v' w8 hown1 hgr1 _
      have hb1 : Below w.heap.size w w8 := (hbl.alloc hbl.size _).grown hgr1 (Nat.le_trans hbl.size (by simp)) (fun g' hg' => by
        rcases hown.2 with ⟨rfl, _⟩ | ⟨g2, cap, cur, rfl, hg2, _⟩
        · simp [Value.ownBlock] at hg'
        · simp [Value.ownBlock] at hg'; omega)
      have hls : OwnLs w.heap.size w8 v' (os ++ [cy]) := by
        unfold OwnLs
        rw [HLE.out]
        simpa [ints] using hown1
      have hlim := hls.limbs (by rw [HLE.out]; omega)
      have htr := refTrim_l v' (os ++ [cy]) w8 hlim HLO.out (by rw [HLE.out]; omega)
      rw [HV.out, HDS.out] at htr
      have HT := Lib.hid htr
      clear htr hlim hls hown1 hown
      go_wp2_with (go_at_call 80; refine HT.out.mono ?_; rintro e w9 ⟨v9, rfl, hv9, hb9⟩)
      go_ret
      exact ⟨_, rfl, hv9.mono hb1.size, below_at hb1 (Nat.le_refl _) hb9⟩

theorem refAdd_call (a b : Value) (m n : Nat) (w : World) (ha : N32 w a m) (hb : N32 w b n) (hm : (dig B32 m).length ≤ 1000000) (hn : (dig B32 n).length ≤ 1000000) : Calls Try.prog 43 #[a, b] w (LsPost w (dig B32 (m + n))) := by
  obtain ⟨A, c, rfl, _, hA⟩ := ha
  obtain ⟨A', c', rfl, _, hA'⟩ := hb
  have := refAdd_any A A' c c' _ _ _ _ w hA hA' (low_dig b32_two m) (low_dig b32_two n) rfl rfl hm hn
  rw [val_dig b32_two, val_dig b32_two] at this
  exact this
end Go.Proofs.Ytaegkhdkhgemmaa
