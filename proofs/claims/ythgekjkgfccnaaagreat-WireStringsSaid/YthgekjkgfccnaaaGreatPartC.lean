/- Part of the proof of WireStrings: ShLaws, Shr, Shl, From, NatW, MulW, Scale, LongMul, MulS, Pow, Cmp, Api, Apj, ChkA, Mul, Sub, Adds, Root27, Lives, Cut, U64. -/
import Derived.Test.YthgekjkgfccnaaaGreatPartB
import Derived.Lib.Mul64
import Derived.Laws.Bits64b
/- Plain laws: shifts of a number in words. -/
namespace Go.Proofs.Num

theorem val_of_digits {b : Nat} (hb : 2 ≤ b) {zs : List Nat} {q : Nat} (h : ∀ (i v : Nat), zs[i]? = some v → v = q / b ^ i % b) (hq : q < b ^ zs.length) : val b zs = q := by
  induction zs generalizing q with
  | nil => simp at hq; subst hq; rfl
  | cons x zs ih =>
    have hx := h 0 x rfl
    simp only [Nat.pow_zero, Nat.div_one] at hx
    have h2 : val b zs = q / b := ih (fun i v hv => by
      have := h (i + 1) v (by simpa using hv)
      rw [Nat.pow_succ, Nat.mul_comm, ← Nat.div_div_eq_div_mul] at this
      exact this) (by rw [Nat.div_lt_iff_lt_mul (by omega), ← Nat.pow_succ]; exact hq)
    rw [val, h2, hx]
    exact Nat.mod_add_div q b

/-- The first k words of q. -/
structure ShrSt (b q K k : Nat) (zs : List Nat) : Prop where
  len : zs.length = K
  low : Low b zs
  eq : ∀ (i v : Nat), i < k → zs[i]? = some v → v = q / b ^ i % b
theorem ShrSt.start {b : Nat} (hb : 2 ≤ b) (q K : Nat) : ShrSt b q K 0 (List.replicate K 0) := ⟨by simp, Low.replicate (by omega) _, fun i v h => absurd h (by omega)⟩
theorem ShrSt.step {b q K k v : Nat} {zs : List Nat} (hb : 2 ≤ b) (h : ShrSt b q K k zs) (hv : v = q / b ^ k % b) : ShrSt b q K (k + 1) (zs.set k v) := by
  refine ⟨by rw [List.length_set]; exact h.len, h.low.set (by rw [hv]; exact Nat.mod_lt _ (by omega)), fun i u hi hu => ?_⟩
  rw [List.getElem?_set] at hu
  split at hu
  · rename_i e
    subst e
    split at hu
    · injection hu with hu; rw [← hu]; exact hv
    · cases hu
  · exact h.eq i u (by omega) hu
theorem ShrSt.fin {b q K : Nat} {zs : List Nat} (hb : 2 ≤ b) (h : ShrSt b q K K zs) (hq : q < b ^ K) : val b zs = q := by
  refine val_of_digits hb (fun i v hv => ?_) (by rw [h.len]; exact hq)
  exact h.eq i v (by have := (List.getElem?_eq_some_iff.1 hv).1; rw [h.len] at this; exact this) hv

/-- i words of xs have been shifted to the left by w words and s bits. -/
structure ShlSt (xs : List Nat) (w s i : Nat) (zs : List Nat) : Prop where
  len : zs.length = xs.length + w + 1
  low : Low 18446744073709551616 zs
  zero : ∀ (j v : Nat), w + i < j → zs[j]? = some v → v = 0
  head : ∀ v, zs[w + i]? = some v → v < 2 ^ s
  eq : val 18446744073709551616 zs = val 18446744073709551616 (xs.take i) * 2 ^ (64 * w + s)
theorem ShlSt.start (xs : List Nat) (w s : Nat) : ShlSt xs w s 0 (List.replicate (xs.length + w + 1) 0) :=
  ⟨by simp, Low.replicate (by omega) _, fun j v _ hv => List.eq_of_mem_replicate (List.mem_of_getElem? hv), fun v hv => by rw [List.eq_of_mem_replicate (List.mem_of_getElem? hv)]; exact Nat.two_pow_pos s,
    by rw [val_replicate]; simp [val]⟩

theorem shl_mod (v s : Nat) (hs : s < 64) : v * 2 ^ s % 18446744073709551616 = 2 ^ s * (v % 2 ^ (64 - s)) := by
  have e2 : (18446744073709551616 : Nat) = 2 ^ s * 2 ^ (64 - s) := by rw [← Nat.pow_add, show s + (64 - s) = 64 by omega]
  rw [Nat.mul_comm v, e2, Nat.mul_mod_mul_left]
theorem shl_div (v s : Nat) (hs : s < 64) : v * 2 ^ s / 18446744073709551616 = v / 2 ^ (64 - s) := by
  have e2 : (18446744073709551616 : Nat) = 2 ^ s * 2 ^ (64 - s) := by rw [← Nat.pow_add, show s + (64 - s) = 64 by omega]
  rw [Nat.mul_comm v, e2, Nat.mul_div_mul_left _ _ (Nat.two_pow_pos s)]
theorem or_shl (o v s : Nat) (ho : o < 2 ^ s) (hs : s < 64) : bits .or .u64 (o : Int) (IntKind.u64.wrap ((v : Int) * 2 ^ s)) = ((o + v * 2 ^ s % 18446744073709551616 : Nat) : Int) := by
  have c2 : IntKind.u64.wrap ((v : Int) * 2 ^ s) = ((v * 2 ^ s % 18446744073709551616 : Nat) : Int) := by
    rw [IntKind.wrap_u64, Int.natCast_emod, Int.natCast_mul, Int.natCast_pow]; rfl
  have h1 : 2 ^ s ≤ 2 ^ 63 := Nat.pow_le_pow_right (by omega) (by omega)
  rw [c2, bits_or_u64_nat _ _ (by omega) (Nat.mod_lt _ (by omega)), shl_mod v s hs, Nat.or_comm, ← Nat.two_pow_add_eq_or_of_lt ho, Nat.add_comm]
theorem or_shl_lt (o v s : Nat) (ho : o < 2 ^ s) (hs : s < 64) : o + v * 2 ^ s % 18446744073709551616 < 18446744073709551616 := by
  have e2 : (18446744073709551616 : Nat) = 2 ^ s * 2 ^ (64 - s) := by rw [← Nat.pow_add, show s + (64 - s) = 64 by omega]
  rw [shl_mod v s hs]
  have h1 : v % 2 ^ (64 - s) < 2 ^ (64 - s) := Nat.mod_lt _ (Nat.two_pow_pos _)
  have h2 : 2 ^ s * (v % 2 ^ (64 - s) + 1) ≤ 2 ^ s * 2 ^ (64 - s) := Nat.mul_le_mul_left _ h1
  rw [← e2, Nat.mul_add] at h2
  omega

theorem ShlSt.step {xs zs : List Nat} {w s i v o : Nat} (hs : s < 64) (h : ShlSt xs w s i zs) (hi : i < xs.length) (hv : xs[i]? = some v) (hvl : v < 18446744073709551616) (ho : zs[w + i]? = some o) :
    ShlSt xs w s (i + 1) ((zs.set (w + i) (o + v * 2 ^ s % 18446744073709551616)).set (w + i + 1) (v / 2 ^ (64 - s))) := by
  have hl := h.len
  have ho' := h.head o ho
  have hlt : v / 2 ^ (64 - s) < 2 ^ s := by
    rw [Nat.div_lt_iff_lt_mul (Nat.two_pow_pos _), ← Nat.pow_add, show s + (64 - s) = 64 by omega]; exact hvl
  have h63 : 2 ^ s ≤ 2 ^ 63 := Nat.pow_le_pow_right (by omega) (by omega)
  refine ⟨by simp only [List.length_set]; exact hl, (h.low.set (or_shl_lt o v s ho' hs)).set (by omega), fun j u hj hu => ?_, fun u hu => ?_, ?_⟩
  · rw [List.getElem?_set, if_neg (by omega), List.getElem?_set, if_neg (by omega)] at hu
    exact h.zero j u (by omega) hu
  · rw [show w + (i + 1) = w + i + 1 by omega, List.getElem?_set_self (by simp; omega)] at hu
    injection hu with hu
    rw [← hu]; exact hlt
  · have hp := (List.getElem?_eq_some_iff.1 ho)
    obtain ⟨z, hz⟩ : ∃ z, zs[w + i + 1]? = some z := ⟨zs[w + i + 1]'(by omega), List.getElem?_eq_getElem _⟩
    have hz0 := h.zero _ z (by omega) hz
    have s1 := val_set 18446744073709551616 zs (w + i) (o + v * 2 ^ s % 18446744073709551616) hp.1
    have s2 := val_set 18446744073709551616 (zs.set (w + i) (o + v * 2 ^ s % 18446744073709551616)) (w + i + 1) (v / 2 ^ (64 - s)) (by simp; omega)
    have g2 : (zs.set (w + i) (o + v * 2 ^ s % 18446744073709551616))[w + i + 1]'(by simp; omega) = 0 := by
      rw [List.getElem_set, if_neg (by omega)]
      have := (List.getElem?_eq_some_iff.1 hz).2
      rw [this]; exact hz0
    rw [hp.2] at s1
    rw [g2] at s2
    have ht : val 18446744073709551616 (xs.take (i + 1)) = val 18446744073709551616 (xs.take i) + 18446744073709551616 ^ i * v := by
      rw [val_take_succ _ xs i hi, (List.getElem?_eq_some_iff.1 hv).2]
    have e1 := h.eq
    have e3 := Nat.mod_add_div (v * 2 ^ s) 18446744073709551616
    rw [shl_div v s hs] at e3
    rw [ht, Nat.add_mul, ← e1]
    have e4 : 18446744073709551616 ^ i * v * 2 ^ (64 * w + s) = 18446744073709551616 ^ (w + i) * (v * 2 ^ s) := by
      have : (2 : Nat) ^ (64 * w + s) = 18446744073709551616 ^ w * 2 ^ s := by rw [Nat.pow_add, Nat.pow_mul]
      rw [this, Nat.pow_add]
      generalize (18446744073709551616 : Nat) ^ i = x
      generalize (18446744073709551616 : Nat) ^ w = y
      generalize (2 : Nat) ^ s = z
      grind
    rw [e4]
    rw [Nat.pow_succ] at s2
    clear e1 e4 ht ho' h hv ho hz g2 hp
    generalize (18446744073709551616 : Nat) ^ (w + i) = x at *
    generalize v * 2 ^ s % 18446744073709551616 = y at *
    generalize v / 2 ^ (64 - s) = z at *
    generalize v * 2 ^ s = t at *
    rw [← e3, Nat.mul_add]
    rw [Nat.mul_add] at s1
    rw [Nat.mul_assoc x _ z] at s2
    generalize val 18446744073709551616 ((zs.set (w + i) (o + y)).set (w + i + 1) z) = v2 at *
    generalize val 18446744073709551616 (zs.set (w + i) (o + y)) = v1 at *
    omega
end Go.Proofs.Num
namespace Go.Proofs.Num
/-- i limbs of xs have been packed into words. -/
structure PackSt (xs : List Nat) (K i : Nat) (zs : List Nat) : Prop where
  len : zs.length = K
  low : Low 18446744073709551616 zs
  zero : ∀ (j v : Nat), i < 2 * j + 1 → zs[j]? = some v → v = 0
  head : ∀ v, zs[i / 2]? = some v → v < 2 ^ (i % 2 * 32)
  eq : val 18446744073709551616 zs = val 4294967296 (xs.take i)
theorem PackSt.start (xs : List Nat) (K : Nat) : PackSt xs K 0 (List.replicate K 0) :=
  ⟨by simp, Low.replicate (by omega) _, fun j v _ hv => List.eq_of_mem_replicate (List.mem_of_getElem? hv), fun v hv => by rw [List.eq_of_mem_replicate (List.mem_of_getElem? hv)]; exact Nat.two_pow_pos _,
    by rw [val_replicate]; simp [val]⟩
theorem PackSt.step {xs zs : List Nat} {K i v o : Nat} (h : PackSt xs K i zs) (hv : xs[i]? = some v) (hvl : v < 4294967296) (ho : zs[i / 2]? = some o) :
    PackSt xs K (i + 1) (zs.set (i / 2) (o + v * 2 ^ (i % 2 * 32) % 18446744073709551616)) := by
  have hi := (List.getElem?_eq_some_iff.1 hv).1
  have hp := List.getElem?_eq_some_iff.1 ho
  have ho' := h.head o ho
  have hs : i % 2 * 32 < 64 := by omega
  have hm : v * 2 ^ (i % 2 * 32) % 18446744073709551616 = v * 2 ^ (i % 2 * 32) := by
    refine Nat.mod_eq_of_lt ?_
    rcases Nat.mod_two_eq_zero_or_one i with e | e <;> rw [e] <;> omega
  have hl := or_shl_lt o v (i % 2 * 32) ho' hs
  rw [hm] at hl ⊢
  refine ⟨by rw [List.length_set]; exact h.len, h.low.set hl, fun j u hj hu => ?_, fun u hu => ?_, ?_⟩
  · rw [List.getElem?_set, if_neg (by omega)] at hu
    exact h.zero j u (by omega) hu
  · rcases Nat.mod_two_eq_zero_or_one i with e | e
    · rw [show (i + 1) / 2 = i / 2 by omega, List.getElem?_set_self hp.1] at hu
      injection hu with hu
      rw [← hu, show (i + 1) % 2 = 1 by omega]
      rw [e] at ho' ⊢
      omega
    · rw [List.getElem?_set, if_neg (by omega)] at hu
      have := h.zero _ u (by omega) hu
      rw [this]; exact Nat.two_pow_pos _
  · have s1 := val_set 18446744073709551616 zs (i / 2) (o + v * 2 ^ (i % 2 * 32)) hp.1
    rw [hp.2] at s1
    have ht : val 4294967296 (xs.take (i + 1)) = val 4294967296 (xs.take i) + 4294967296 ^ i * v := by
      rw [val_take_succ _ xs i hi, (List.getElem?_eq_some_iff.1 hv).2]
    have e4 : 18446744073709551616 ^ (i / 2) * (v * 2 ^ (i % 2 * 32)) = 4294967296 ^ i * v := by
      have a1 : (18446744073709551616 : Nat) ^ (i / 2) = 2 ^ (64 * (i / 2)) := by rw [Nat.pow_mul]
      have a2 : (4294967296 : Nat) ^ i = 2 ^ (32 * i) := by rw [Nat.pow_mul]
      rw [a1, a2, Nat.mul_left_comm, ← Nat.pow_add, Nat.mul_comm v]
      congr 2; omega
    rw [ht, ← h.eq, ← e4]
    rw [Nat.mul_add] at s1
    omega

/-- How many words a number has, out of how many limbs. -/
theorem words_of_limbs (n : Nat) : (dig 18446744073709551616 n).length = ((dig 4294967296 n).length + 1) / 2 := by
  generalize hL : (dig 4294967296 n).length = L
  have h1 := dig_len_lt (b := 4294967296) (n := n) (by omega)
  rw [hL] at h1
  have e : (18446744073709551616 : Nat) = 4294967296 ^ 2 := by decide
  have h2 : (dig 18446744073709551616 n).length ≤ (L + 1) / 2 := by
    refine dig_len_le (by omega) (Nat.lt_of_lt_of_le h1 ?_)
    rw [e, ← Nat.pow_mul]
    exact Nat.pow_le_pow_right (by omega) (by omega)
  rcases Nat.eq_zero_or_pos L with h0 | h0
  · omega
  · have h3 := dig_len_ge (b := 4294967296) (n := n) (by omega) (by omega)
    rw [hL] at h3
    have h4 := dig_len_lt (b := 18446744073709551616) (n := n) (by omega)
    rcases Nat.lt_or_ge (dig 18446744073709551616 n).length ((L + 1) / 2) with h5 | h5
    · exfalso
      rw [e, ← Nat.pow_mul] at h4
      have := Nat.pow_le_pow_right (show 0 < 4294967296 by omega) (show 2 * (dig (4294967296 ^ 2) n).length ≤ L - 1 by rw [← e]; omega)
      omega
    · omega
theorem PackSt.fin {xs zs : List Nat} {K n : Nat} (h : PackSt xs K xs.length zs) (hx : xs = dig 4294967296 n) (hK : K = (xs.length + 1) / 2) : zs = dig 18446744073709551616 n := by
  have e := h.eq
  rw [List.take_length, hx, val_dig (by omega)] at e
  refine val_inj (b := 18446744073709551616) (by omega) ?_ h.low (low_dig (by omega) n) (by rw [e, val_dig (by omega)])
  rw [h.len, hK, hx, words_of_limbs]
end Go.Proofs.Num
namespace Go.Proofs.Num
/-- The limbs of words, two a word. -/
def limbs : List Nat → List Nat
  | [] => []
  | x :: xs => x % 4294967296 :: x / 4294967296 :: limbs xs
theorem limbs_len (xs : List Nat) : (limbs xs).length = 2 * xs.length := by
  induction xs with
  | nil => rfl
  | cons x xs ih => simp only [limbs, List.length_cons, ih]; omega
theorem limbs_append (xs ys : List Nat) : limbs (xs ++ ys) = limbs xs ++ limbs ys := by
  induction xs with
  | nil => rfl
  | cons x xs ih => simp only [List.cons_append, limbs, ih]
theorem limbs_val (xs : List Nat) : val 4294967296 (limbs xs) = val 18446744073709551616 xs := by
  induction xs with
  | nil => rfl
  | cons x xs ih =>
    simp only [limbs, val, ih]
    have := Nat.mod_add_div x 4294967296
    omega
theorem limbs_low {xs : List Nat} (h : Low 18446744073709551616 xs) : Low 4294967296 (limbs xs) := by
  induction xs with
  | nil => exact Low.nil _
  | cons x xs ih =>
    have hx := h.head
    exact Low.cons (Nat.mod_lt _ (by omega)) (Low.cons (by omega) (ih h.tail))
theorem limbs_take_succ {xs : List Nat} {k v : Nat} (h : xs[k]? = some v) : limbs (xs.take (k + 1)) = limbs (xs.take k) ++ [v % 4294967296, v / 4294967296] := by
  have hk := (List.getElem?_eq_some_iff.1 h).1
  rw [List.take_succ_eq_append_getElem hk, limbs_append, (List.getElem?_eq_some_iff.1 h).2]; rfl
/-- The limbs of a number's words are its limbs, or those and a 0. -/
theorem limbs_dig (n : Nat) : limbs (dig 18446744073709551616 n) = dig 4294967296 n ∨ limbs (dig 18446744073709551616 n) = dig 4294967296 n ++ [0] := by
  have e := words_of_limbs n
  have l := limbs_len (dig 18446744073709551616 n)
  have v := limbs_val (dig 18446744073709551616 n)
  rw [val_dig (by omega)] at v
  have lo := limbs_low (low_dig (b := 18446744073709551616) (by omega) n)
  by_cases h : 2 * (dig 18446744073709551616 n).length = (dig 4294967296 n).length
  · left
    exact val_inj (b := 4294967296) (by omega) (by omega) lo (low_dig (by omega) n) (by rw [v, val_dig (by omega)])
  · right
    refine val_inj (b := 4294967296) (by omega) (by simp; omega) lo ((low_dig (by omega) n).append (Low.cons (by omega) (Low.nil _))) ?_
    rw [v, val_append, val_dig (by omega)]; simp [val]
end Go.Proofs.Num
namespace Go.Proofs.Num
theorem nbits_limbs {n L v : Nat} (hL : (dig 4294967296 n).length = L + 1) (hv : (dig 4294967296 n)[L]? = some v) : nbits n = 32 * L + nbits v := by
  have e := dig_getElem? (b := 4294967296) (by omega) hv
  have h1 := dig_len_lt (b := 4294967296) (n := n) (by omega)
  have h2 := dig_len_ge (b := 4294967296) (n := n) (by omega) (by omega)
  rw [hL] at h1 h2
  simp only [Nat.add_sub_cancel] at h2
  have hp : 0 < 4294967296 ^ L := Nat.pow_pos (by omega)
  have h3 : n / 4294967296 ^ L < 4294967296 := by
    rw [Nat.div_lt_iff_lt_mul hp, Nat.mul_comm, ← Nat.pow_succ]; exact h1
  have h4 : n / 4294967296 ^ L ≠ 0 := by
    intro h0
    rcases Nat.div_eq_zero_iff.1 h0 with h | h <;> omega
  rw [Nat.mod_eq_of_lt h3] at e
  have e1 : (2 : Nat) ^ (32 * L) = 4294967296 ^ L := by rw [Nat.pow_mul]
  rw [e, ← e1]
  refine nbits_shift ?_
  rw [e1]; exact h4
theorem nbits_half {v : Nat} (h : v ≠ 0) : nbits v = nbits (v / 2) + 1 := by
  by_cases h2 : v / 2 = 0
  · have : v = 1 := by omega
    subst this; decide
  · rw [nbits_shift (n := v) (k := 1) (by simpa using h2)]; simp; omega
theorem shr_ne {v i : Nat} : v / 2 ^ i ≠ 0 ↔ i < nbits v := by
  constructor
  · intro h
    rcases Nat.lt_or_ge i (nbits v) with h1 | h1
    · exact h1
    · exact absurd (Nat.div_eq_of_lt (lt_of_nbits h1)) h
  · intro h h0
    have hv : v ≠ 0 := by rintro rfl; simp [nbits] at h
    have h1 := nbits_ge hv
    have h2 := Nat.pow_le_pow_right (show 0 < 2 by omega) (show i ≤ nbits v - 1 by omega)
    rcases Nat.div_eq_zero_iff.1 h0 with h3 | h3
    · have := Nat.two_pow_pos i; omega
    · omega
end Go.Proofs.Num

namespace Go.Proofs.YthgekjkgfccnaaaGreat
open Go.RowKit Num

/-- A number is returned; nothing that was there has turned. -/
def NumPost (w : World) (n : Nat) (e : Ending) (w' : World) : Prop := ∃ v, e = .returned v ∧ W64 w' v n ∧ Below w.heap.size w w'
theorem w64_nil (w : World) : W64 w (.slice none 0 0) 0 := ⟨none, 0, by rw [dig_zero]; rfl, by rw [dig_zero]; exact Nat.le_refl _, by rw [dig_zero]; exact Nums.nil⟩
theorem SumPost.num {w w' : World} {n : Nat} {e : Ending} (h : SumPost w n e w') : NumPost w n e w' := by
  obtain ⟨v, h1, h2, h3⟩ := h
  exact ⟨v, h1, h2.is, h3⟩

set_option maxHeartbeats 1000000 in
set_option maxRecDepth 100000 in
theorem shiftRight_any (a : Value) (n f : Nat) (w : World) (ha : W64 w a n) (hl : (dig B64 n).length ≤ 100000000000) (hf : f ≤ 10000000000000) :
    Calls Tryz.prog 115 #[a, .int .i64 (f : Int)] w (NumPost w (n / 2 ^ f)) := by
  obtain ⟨A, c, rfl, _, hA⟩ := ha
  generalize hL : (dig B64 n).length = L at *
  have e1 : (f : Int) / 64 = ((f / 64 : Nat) : Int) := by omega
  have hfw : n / 2 ^ f = n / B64 ^ (f / 64) / 2 ^ (f % 64) := by
    rw [← pow_b64, Nat.div_div_eq_div_mul, ← Nat.pow_add]; congr 2; omega
  by_cases hw : f / 64 < L
  · have hq : n / 2 ^ f < B64 ^ (L - f / 64) := by
      have h1 := dig_len_lt b64_two (n := n)
      rw [hL, show L = f / 64 + (L - f / 64) by omega, Nat.pow_add] at h1
      have h2 : n / B64 ^ (f / 64) < B64 ^ (L - f / 64) := by rw [Nat.div_lt_iff_lt_mul (Nat.pow_pos b64_pos), Nat.mul_comm]; exact h1
      rw [hfw]
      exact Nat.lt_of_le_of_lt (Nat.div_le_self _ _) h2
    have hdig : ∀ k, n / 2 ^ (f + 64 * k) % B64 = n / 2 ^ f / B64 ^ k % B64 := fun k => by
      rw [Nat.pow_add, ← Nat.div_div_eq_div_mul, pow_b64]
    generalize hK : L - f / 64 = K at *
    have hwh : ((L : Int) - ((f / 64 : Nat) : Int)) = (K : Int) := by omega
    have hmk := make64 K (by omega)
    have hr0 := Row.made w .u64 K 67
    have hbA : Below w.heap.size w (w.alloc (.cells (madeCells #[.int .u64 0] K) 67)) := (Below.refl _ _).alloc (Nat.le_refl _) _
    have hst0 := ShrSt.start b64_two (n / 2 ^ f) K
    generalize n / 2 ^ f = q at *
    have HD := Lib.hid hdig
    have HQ := Lib.hid hq
    have HL := Lib.hid hL
    have HK := Lib.hid hK
    have HR0 := Lib.hid hr0
    have HFW := Lib.hid hfw
    clear hdig hq hL hr0 hK hfw
    generalize f / 64 = wh at *
    have hwb : decide (L ≤ wh) = false := decide_eq_false (by omega)
    have hwi : ¬ L ≤ wh := by omega
    go_enter Tryz.func115, Tryz.ntmps115
    go_wp2
    go_loopw [21] (fun t wr => ∃ (k : Nat) (zs : List Nat), k ≤ K ∧ t = .int .i64 (k : Int) ∧ ShrSt B64 q K k zs ∧ Row .u64 67 wr w.heap.size zs ∧ Below w.heap.size w wr) (fun t _ => K - (intOf t).toNat)
    case atStart => exact ⟨0, _, Nat.zero_le _, rfl, hst0, HR0.out, hbA⟩
    case round =>
      clear hst0 HR0 hbA hmk
      obtain ⟨k, zs, hk, rfl, hst, hrow, hbl⟩ := hrel
      by_cases hlt : k < K
      · obtain ⟨v, hv⟩ : ∃ v, n / 2 ^ (f + 64 * k) % B64 = v := ⟨_, rfl⟩
        have hwin := window_any A c L n (f + 64 * k) wr (hA.keep hbl) HL.out.symm (by omega) (by omega)
        rw [hv] at hwin
        push_cast at hwin
        have hst' := hst.step b64_two (v := v) (by rw [← hv, HD.out])
        obtain ⟨u, hu⟩ : ∃ u, zs[k]? = some u := ⟨zs[k]'(by have := hst.len; omega), List.getElem?_eq_getElem _⟩
        have hcu := hrow.cell hu
        have hfu := hrow.frozen k
        have hrow' := hrow.set k v
        have HV := Lib.hid hv
        have HU := Lib.hid hu
        have HW := Lib.hid hwin
        clear hv hu hwin
        go_wp2_with (go_at_call 92; refine HW.out.mono ?_; rintro e w1 ⟨rfl, rfl⟩)
        go_roundw
        case rel => exact ⟨k + 1, _, by omega, by go_num, hst', hrow', below_set hbl (Nat.le_refl _) _⟩
        case measure => simp [intOf]; omega
      · have hkL : k = K := by omega
        subst hkL
        clear hlt
        have hn := hrow.nums0 zs.length
        rw [List.take_length] at hn
        have HLEN := Lib.hid hst.len
        have hfin := hst.fin b64_two HQ.out
        have HF := Lib.hid hfin
        clear hfin
        go_wp2_with (go_at_call 93
                     refine (trim_any _ k k zs _ hn hst.low HLEN.out.symm (Nat.le_refl _) (by omega)).mono ?_
                     rintro e w1 ⟨rfl, rfl⟩)
        go_ret
        rw [← HF.out]
        have := (own_of_trim b64_two hrow hst.low (Nat.le_refl w.heap.size)).is
        rw [HLEN.out] at this
        exact ⟨_, rfl, this, hbl⟩
  · have hq : n / 2 ^ f = 0 := by
      rw [hfw, div_pow_len b64_two (by rw [hL]; omega)]; simp
    rw [hq]
    clear hq hfw hL
    generalize f / 64 = wh at *
    have hwi : (L : Int) ≤ (wh : Int) := by omega
    go_enter Tryz.func115, Tryz.ntmps115
    go_wp2
    go_ret
    exact ⟨_, rfl, w64_nil _, Below.refl _ _⟩
end Go.Proofs.YthgekjkgfccnaaaGreat

namespace Go.Proofs.YthgekjkgfccnaaaGreat
open Go.RowKit Num

set_option maxHeartbeats 1000000 in
set_option maxRecDepth 100000 in
theorem shiftLeft_any (a : Value) (n f : Nat) (w : World) (ha : W64 w a n) (hl : (dig B64 n).length ≤ 100000000000) (hf : f ≤ 10000000000000) :
    Calls Tryz.prog 114 #[a, .int .i64 (f : Int)] w (SumPost w (n * 2 ^ f)) := by
  obtain ⟨A, c, rfl, _, hA⟩ := ha
  obtain ⟨xs, hxs⟩ : ∃ xs, dig B64 n = xs := ⟨_, rfl⟩
  have hlow := dig_low64 n
  have hval := val_dig b64_two n
  rw [hxs] at hlow hval hl hA ⊢
  obtain ⟨L, hL⟩ : ∃ L, xs.length = L := ⟨_, rfl⟩
  rw [hL] at hl ⊢
  obtain ⟨wh, s, hs, rfl⟩ : ∃ wh s, s < 64 ∧ f = 64 * wh + s := ⟨f / 64, f % 64, Nat.mod_lt _ (by omega), by omega⟩
  have e1 : ((64 * wh + s : Nat) : Int) / 64 = (wh : Int) := by omega
  have e2 : ((64 * wh + s : Nat) : Int) % 64 = (s : Int) := by omega
  have hwh : wh ≤ 10000000000000 := by omega
  have hst0 := ShlSt.start xs wh s
  rw [hL] at hst0
  have hmk := make64 (L + wh + 1) (by omega)
  push_cast at hmk
  have hr0 := Row.made w .u64 (L + wh + 1) 67
  have hbA : Below w.heap.size w (w.alloc (.cells (madeCells #[.int .u64 0] (L + wh + 1)) 67)) := (Below.refl _ _).alloc (Nat.le_refl _) _
  have HXS := Lib.hid hxs
  have HL := Lib.hid hL
  have HVAL := Lib.hid hval
  have HR0 := Lib.hid hr0
  clear hxs hL hval hr0
  generalize hF : ((64 * wh + s : Nat) : Int) = F at *
  have hF0 : 0 ≤ F := by omega
  have hF1 : F ≤ 10000000000000 := by omega
  clear hF
  go_enter Tryz.func114, Tryz.ntmps114
  go_wp2
  go_loopw [23] (fun t wr => ∃ (k : Nat) (zs : List Nat), k ≤ L ∧ t = .int .i64 (k : Int) ∧ ShlSt xs wh s k zs ∧ Row .u64 67 wr w.heap.size zs ∧ Below w.heap.size w wr) (fun t _ => L - (intOf t).toNat)
  case atStart => exact ⟨0, _, Nat.zero_le _, rfl, hst0, HR0.out, hbA⟩
  case round =>
    clear hst0 HR0 hbA hmk
    obtain ⟨k, zs, hk, rfl, hst, hrow, hbl⟩ := hrel
    by_cases hlt : k < L
    · obtain ⟨q, qo, v, rfl, hq, hv, hcv⟩ := (hA.keep hbl).at_ (i := k) (by have := HL.out; omega)
      have hvl : v < B64 := hlow v (List.mem_of_getElem? hv)
      have hlen := hst.len
      rw [HL.out] at hlen
      obtain ⟨o, ho⟩ : ∃ o, zs[wh + k]? = some o := ⟨zs[wh + k]'(by omega), List.getElem?_eq_getElem _⟩
      have hst' := hst.step hs (by have := HL.out; omega) hv hvl ho
      have hor := or_shl o v s (hst.head o ho) hs
      have hco := hrow.cell ho
      have hfo := hrow.frozen (wh + k)
      generalize o + v * 2 ^ s % 18446744073709551616 = nv at *
      have hrow1 := hrow.set (wh + k) nv
      obtain ⟨z, hz⟩ : ∃ z, (zs.set (wh + k) nv)[wh + k + 1]? = some z := ⟨(zs.set (wh + k) nv)[wh + k + 1]'(by rw [List.length_set]; omega), List.getElem?_eq_getElem _⟩
      have hcz := hrow1.cell hz
      have hfz := hrow1.frozen (wh + k + 1)
      have hdv : (v : Int) / 2 ^ (64 - s) = ((v / 2 ^ (64 - s) : Nat) : Int) := by push_cast; rfl
      generalize v / 2 ^ (64 - s) = u at *
      have hrow2 := hrow1.set (wh + k + 1) u
      have HV := Lib.hid hv
      have HO := Lib.hid ho
      have HZ := Lib.hid hz
      have HLEN := Lib.hid hlen
      have H2 := Lib.hid hrow2
      have HS2 := Lib.hid hst'
      clear hv ho hz hA hvl hlow hlen hrow2 hst' hrow1
      go_wp2
      go_region
      go_wp2
      go_roundw
      case rel => exact ⟨k + 1, _, by omega, by go_num, HS2.out, H2.out, (below_set (below_set hbl (Nat.le_refl _) _) (Nat.le_refl _) _).drew⟩
      case measure => simp [intOf]; omega
    · have hkL : k = L := by omega
      subst hkL
      clear hlt
      have hn := hrow.nums0 zs.length
      rw [List.take_length] at hn
      have hlen := hst.len
      rw [HL.out] at hlen
      have HLEN := Lib.hid hlen
      have hfin := hst.eq
      have HF := Lib.hid hfin
      clear hfin hlen hA
      go_wp2_with (go_at_call 93
                   refine (trim_any _ (k + wh + 1) (k + wh + 1) zs _ hn hst.low HLEN.out.symm (Nat.le_refl _) (by omega)).mono ?_
                   rintro e w1 ⟨rfl, rfl⟩)
      go_ret
      have hfin := HF.out
      rw [List.take_of_length_le (by rw [HL.out]; exact Nat.le_refl _)] at hfin
      have hv : n * 2 ^ (64 * wh + s) = val B64 zs := by rw [← HVAL.out]; exact hfin.symm
      rw [hv]
      have := own_of_trim b64_two hrow hst.low (Nat.le_refl w.heap.size)
      rw [HLEN.out] at this
      exact ⟨_, rfl, this, hbl⟩
end Go.Proofs.YthgekjkgfccnaaaGreat

namespace Go.Proofs.YthgekjkgfccnaaaGreat
open Go.RowKit Num

set_option maxHeartbeats 1000000 in
set_option maxRecDepth 100000 in
theorem fromNat_any (a : Value) (n : Nat) (w : World) (ha : N32 w a n) (hl : (dig B32 n).length ≤ 100000000000) :
    Calls Tryz.prog 90 #[a] w (SumPost w n) := by
  obtain ⟨A, c, rfl, _, hA⟩ := ha
  obtain ⟨xs, hxs⟩ : ∃ xs, dig B32 n = xs := ⟨_, rfl⟩
  have hlow := low_dig b32_two n
  rw [hxs] at hlow hl hA ⊢
  obtain ⟨L, hL⟩ : ∃ L, xs.length = L := ⟨_, rfl⟩
  rw [hL] at hl ⊢
  obtain ⟨K, hK⟩ : ∃ K, (L + 1) / 2 = K := ⟨_, rfl⟩
  have hK' : ((L : Int) + 1) / 2 = (K : Int) := by omega
  have hst0 := PackSt.start xs K
  have hmk := make64 K (by omega)
  have hr0 := Row.made w .u64 K 67
  have hbA : Below w.heap.size w (w.alloc (.cells (madeCells #[.int .u64 0] K) 67)) := (Below.refl _ _).alloc (Nat.le_refl _) _
  have HXS := Lib.hid hxs
  have HL := Lib.hid hL
  have HR0 := Lib.hid hr0
  have HK := Lib.hid hK
  clear hxs hL hr0 hK
  go_enter Tryz.func90, Tryz.ntmps90
  go_wp2
  go_loopw [13] (fun t wr => ∃ (k : Nat) (zs : List Nat), k ≤ L ∧ t = .int .i64 (k : Int) ∧ PackSt xs K k zs ∧ Row .u64 67 wr w.heap.size zs ∧ Below w.heap.size w wr) (fun t _ => L - (intOf t).toNat)
  case atStart => exact ⟨0, _, Nat.zero_le _, rfl, hst0, HR0.out, hbA⟩
  case round =>
    clear hst0 HR0 hbA hmk
    obtain ⟨k, zs, hk, rfl, hst, hrow, hbl⟩ := hrel
    by_cases hlt : k < L
    · obtain ⟨q, qo, v, rfl, hq, hv, hcv⟩ := (hA.keep hbl).at_ (i := k) (by have := HL.out; omega)
      have hvl : v < B32 := hlow v (List.mem_of_getElem? hv)
      have hlen := hst.len
      have hkK : k / 2 < K := by have := HK.out; omega
      obtain ⟨o, ho⟩ : ∃ o, zs[k / 2]? = some o := ⟨zs[k / 2]'(by omega), List.getElem?_eq_getElem _⟩
      have hst' := hst.step hv hvl ho
      have hor := or_shl o v (k % 2 * 32) (hst.head o ho) (by omega)
      have hco := hrow.cell ho
      have hfo := hrow.frozen (k / 2)
      have hwv : IntKind.u64.wrap (v : Int) = (v : Int) := by rw [IntKind.wrap_u64]; unfold B32 at hvl; omega
      generalize o + v * 2 ^ (k % 2 * 32) % 18446744073709551616 = nv at *
      have hrow1 := hrow.set (k / 2) nv
      have hk2 : (k : Int) / 2 = ((k / 2 : Nat) : Int) := by omega
      have hs2 : (k : Int) % 2 * 32 = ((k % 2 * 32 : Nat) : Int) := by omega
      have hs3 : k % 2 * 32 < 64 := by omega
      generalize k % 2 * 32 = s at *
      generalize k / 2 = q2 at *
      have HV := Lib.hid hv
      have HO := Lib.hid ho
      have HLEN := Lib.hid hlen
      have H1 := Lib.hid hrow1
      have HS2 := Lib.hid hst'
      clear hv ho hA hvl hlow hlen hst' hrow1
      go_wp2
      go_region
      go_wp2
      go_roundw
      case rel => exact ⟨k + 1, _, by omega, by go_num, HS2.out, H1.out, (below_set hbl (Nat.le_refl _) _).drew⟩
      case measure => simp [intOf]; omega
    · have hkL : k = L := by omega
      subst hkL
      clear hlt hA
      have hz : zs = dig B64 n := by
        have h1 := hst
        rw [← HL.out] at h1
        exact h1.fin HXS.out.symm (by rw [HL.out]; exact HK.out.symm)
      have hlen := hst.len
      have HZ := Lib.hid hz
      have HLEN := Lib.hid hlen
      clear hz hlen
      go_wp2
      go_ret
      refine ⟨_, rfl, ⟨w.heap.size, K, zs, ?_, ?_, HLEN.out.symm, Nat.le_refl _, hrow, hst.low, ?_⟩, hbl⟩
      · rw [← HZ.out, HLEN.out]; rfl
      · rw [← HZ.out, HLEN.out]; exact Nat.le_refl _
      · rw [← HZ.out, List.take_length]
end Go.Proofs.YthgekjkgfccnaaaGreat

namespace Go.Proofs.YthgekjkgfccnaaaGreat
open Go.RowKit Num

/-- A Nat of the call's own: at the head of a row of limbs in a block from B on. -/
def OwnL (B : Nat) (w : World) (v : Value) (n : Nat) : Prop := w.ownsRow B 106 1 v (dig B32 n).length (ints .u32 (dig B32 n))

theorem ints_len (k : IntKind) (zs : List Nat) : (ints k zs).length = zs.length := by simp [ints]

theorem own_reads {w : World} {B : Nat} {v : Value} {xs : List Nat} (h : w.ownsRow B 106 1 v xs.length (ints .u32 xs)) : ∃ A c, v = .slice A xs.length c ∧ xs.length ≤ c ∧ Nums .u32 w A xs := by
  rcases h.2 with ⟨rfl, h0⟩ | ⟨g, cap, cur, rfl, _, hh, hnc, _, hsz, ht⟩
  · have : xs = [] := List.eq_nil_of_length_eq_zero h0
    subst this
    exact ⟨none, 0, rfl, Nat.le_refl _, Nums.nil⟩
  · refine ⟨_, cap, rfl, hnc, fun _ => ⟨g, 0, rfl, (Array.getElem?_eq_some_iff.1 hh).1, fun i v hv => ?_⟩⟩
    have hi := (List.getElem?_eq_some_iff.1 hv).1
    have : (cur.toList.take (xs.length * 1))[i]? = some (.int .u32 (v : Int)) := by rw [ht]; simp [ints, hv]
    rw [List.getElem?_take, if_pos (by omega)] at this
    simp only [World.cell?, hh, Nat.zero_add]
    simpa using this
theorem OwnL.is {B : Nat} {w : World} {v : Value} {n : Nat} (h : OwnL B w v n) : N32 w v n := own_reads h

/-- A Nat is returned; nothing that was there has turned. -/
def NatPost (w : World) (n : Nat) (e : Ending) (w' : World) : Prop := ∃ v, e = .returned v ∧ OwnL w.heap.size w' v n ∧ Below w.heap.size w w'

theorem own_cut {w : World} {B : Nat} {g n cap : Nat} {xs : List Value} (h : w.ownsRow B 106 1 (.slice (some ⟨g, 0, none⟩) n cap) n xs) (m : Nat) (hm : m ≤ n) : w.ownsRow B 106 1 (.slice (some ⟨g, 0, none⟩) m cap) m (xs.take m) := by
  obtain ⟨h1, h2⟩ := h
  rcases h2 with ⟨h3, _⟩ | ⟨g', cap', cur, hv, hg, hh, hnc, hcm, hsz, ht⟩
  · cases h3
  · injection hv with e1 e2 e3
    injection e1 with e1
    injection e1 with e1
    subst e1 e3
    refine ⟨by simp; omega, .inr ⟨g, cap, cur, rfl, hg, hh, by omega, hcm, hsz, ?_⟩⟩
    rw [← ht, List.take_take, Nat.min_eq_left (by omega), Nat.mul_one]

set_option maxHeartbeats 1000000 in
set_option maxRecDepth 100000 in
theorem nat_any (a : Value) (n : Nat) (w : World) (ha : W64 w a n) (hl : (dig B64 n).length ≤ 10000000000) :
    Calls Tryz.prog 91 #[a] w (NatPost w n) := by
  obtain ⟨A, c, rfl, _, hA⟩ := ha
  obtain ⟨xs, hxs⟩ : ∃ xs, dig B64 n = xs := ⟨_, rfl⟩
  have hlow := low_dig b64_two n
  rw [hxs] at hlow hl hA ⊢
  obtain ⟨L, hL⟩ : ∃ L, xs.length = L := ⟨_, rfl⟩
  rw [hL] at hl ⊢
  have HXS := Lib.hid hxs
  have HL := Lib.hid hL
  clear hxs hL
  obtain ⟨i0, hi, hz0, hz1, hz2⟩ := info_parts info106
  go_enter Tryz.func91, Tryz.ntmps91
  go_wp2_with (at_make; refine wpList_make_own _ rfl _ _ 57 rfl w.heap.size 106 i0 (.int .u32 0) 1 Tryz.underlying57 hi hz0 hz1 _ _ _ (2 * L) rfl rfl (by omega) ?b2 ?b3 (Nat.le_refl _) ?_)
  case b2 => rw [hz2]; omega
  case b3 => unfold maxLen; omega
  intro w0 hown0 hgrow0
  go_wp2
  go_loopw [3, 13] (fun x t wr => ∃ (k m : Nat), k ≤ L ∧ m = 2 * k ∧ x = .slice (some ⟨w.heap.size, 0, none⟩) m (2 * L) ∧ t = .int .i64 (k : Int) ∧ wr.ownsRow w.heap.size 106 1 (.slice (some ⟨w.heap.size, 0, none⟩) m (2 * L)) m (ints .u32 (limbs (xs.take k))) ∧ Below w.heap.size w wr)
    (fun _ t _ => L - (intOf t).toNat)
  case atStart => exact ⟨0, 0, Nat.zero_le _, rfl, rfl, rfl, hown0, (Below.refl _ _).grown hgrow0 (Nat.le_refl _) (fun k h => by cases h)⟩
  case round =>
    clear hown0 hgrow0
    obtain ⟨k, m, hk, hm, rfl, rfl, hown, hbl⟩ := hrel
    have HM := Lib.hid hm
    by_cases hlt : k < L
    · obtain ⟨q, qo, v, rfl, hq, hv, hcv⟩ := (hA.keep hbl).at_ (i := k) (by have := HL.out; omega)
      have hvl : v < B64 := hlow v (List.mem_of_getElem? hv)
      have hlim := limbs_take_succ hv
      obtain ⟨lo, hlo⟩ : ∃ lo, v % 4294967296 = lo := ⟨_, rfl⟩
      obtain ⟨hi', hhi⟩ : ∃ hi', v / 4294967296 = hi' := ⟨_, rfl⟩
      rw [hlo, hhi] at hlim
      have hw1 : IntKind.u32.wrap (v : Int) = (lo : Int) := by rw [IntKind.wrap_u32']; omega
      have hw2 : IntKind.u32.wrap ((v : Int) / 4294967296) = (hi' : Int) := by rw [IntKind.wrap_u32']; unfold B64 at hvl; omega
      have HV := Lib.hid hv
      have HLIM := Lib.hid hlim
      have H1 := Lib.hid hlo
      have H2 := Lib.hid hhi
      have hm1 : m + 2 ≤ 2 * L := by omega
      have hm2 : m ≤ 100000000000 := by omega
      clear hv hlim hlo hhi hA hvl hlow hm
      go_wp2_with (at_builtin
                   refine wpList_append_fits _ rfl (.tmp 17) (.tmp 23) 57 rfl w.heap.size 106 i0 1 Tryz.underlying57 hi hz1 w.heap.size m (2 * L) _ rfl (hown.alloc _) ⟨wr.heap.size, 0, none⟩ 2 2 [.int .u32 (lo : Int), .int .u32 (hi' : Int)] rfl rfl ?c1 ?c2 hm1 ?_)
      case c1 =>
        intro t u ht
        match t, ht with
        | 0, ht => simp at ht; subst ht; simp [Addr.add]
        | 1, ht => simp at ht; subst ht; simp [Addr.add]
      case c2 =>
        intro u hu
        simp at hu
        rcases hu with rfl | rfl <;> rfl
      intro w1 hown1 hgrow1
      have hb1 : Below w.heap.size w w1 := (hbl.alloc hbl.size _).grown hgrow1 (Nat.le_trans hbl.size (by simp)) (by simp)
      have H3 := Lib.hid hown1
      clear hown1 hown
      go_wp2
      go_roundw
      case rel =>
        refine ⟨k + 1, m + 2, by omega, by have := HM.out; omega, rfl, by go_num, ?_, hb1⟩
        have := H3.out
        rw [HLIM.out]
        simpa [ints] using this
      case measure => simp [intOf]; omega
    · have hkL : k = L := by omega
      subst hkL
      clear hlt hA
      rw [List.take_of_length_le (by rw [HL.out]; exact Nat.le_refl _)] at hown
      have hm2 : m ≤ 100000000000 := by omega
      have hll := limbs_len xs
      rw [HL.out] at hll
      obtain ⟨ys, hys⟩ : ∃ ys, dig B32 n = ys := ⟨_, rfl⟩
      have hneat := neat_dig b32_two n
      have hor : limbs xs = ys ∨ limbs xs = ys ++ [0] := by rw [← hys, ← HXS.out]; exact limbs_dig n
      rw [hys] at hneat
      have hmk : m = 2 * k := hm
      rw [← hmk] at hown ⊢
      have hread : wr.ownsRow w.heap.size 106 1 (.slice (some ⟨w.heap.size, 0, none⟩) m m) (limbs xs).length (ints .u32 (limbs xs)) := by rw [hll, ← hm]; exact hown
      obtain ⟨A', c', hsl, hcl, hnum⟩ := own_reads hread
      have HYS := Lib.hid hys
      have HLL := Lib.hid hll
      have HOWN := Lib.hid hown
      clear hread hown hys hmk
      by_cases hm0 : m = 0
      · have hy0 : ys = [] := by
          rcases hor with h | h
          · exact List.eq_nil_of_length_eq_zero (by rw [← h, HLL.out]; omega)
          · have := congrArg List.length h
            rw [HLL.out] at this; simp at this; omega
        have HY0 := Lib.hid hy0
        have HM0 := Lib.hid hm0
        have HOR := Lib.hid hor
        have hp : ¬ 0 < m := by omega
        clear hy0 hor hsl hnum hm0 hm hll
        go_wp2
        go_ret
        refine ⟨_, rfl, ?_, hbl⟩
        have h2 := HOWN.out
        have hl0 : limbs xs = [] := List.eq_nil_of_length_eq_zero (by rw [HLL.out]; have := HM.out; have := HM0.out; omega)
        unfold OwnL
        rw [HYS.out, HY0.out]
        rw [hl0, HM0.out] at h2
        rw [HM0.out]
        exact h2
      · have hlm : m - 1 < (limbs xs).length := by rw [hll]; omega
        obtain ⟨g, off, u, hA', hg, hu, hcu⟩ := hnum.at_ hlm
        rw [hA'] at hsl
        injection hsl with e1 e2 e3
        injection e1 with e1
        injection e1 with e4 e5 e6
        subst e4 e5
        rw [Nat.zero_add] at hcu
        have hmu : (m : Int) - 1 = ((m - 1 : Nat) : Int) := by omega
        have HMU := Lib.hid hmu
        have hp : 0 < m := by omega
        by_cases hu0 : u = 0
        · have hq0 : ((u : Int) == 0) = true := by simp [hu0]
          have hys' : limbs xs = ys ++ [0] := by
            rcases hor with h | h
            · exfalso
              rw [h] at hu hlm
              have := (neat_iff ys).1 hneat (by omega)
              have hlen : ys.length = m := by rw [← h, hll]; omega
              have h3 := (List.getElem?_eq_some_iff.1 hu).2
              simp only [hlen] at this
              exact this (h3.trans hu0)
            · exact h
          have hyl : ys.length = m - 1 := by
            have := congrArg List.length hys'
            rw [hll] at this; simp at this; omega
          have HY := Lib.hid hys'
          have HYL := Lib.hid hyl
          have HU := Lib.hid hu
          have HE := Lib.hid e3
          have HU0 := Lib.hid hu0
          have HOR := Lib.hid hor
          clear hys' hyl hu e3 hu0 hor hmu hm hll e2 hA' hnum hm0
          go_wp2
          go_ret
          refine ⟨_, rfl, ?_, hbl⟩
          have h2 := own_cut HOWN.out (m - 1) (by omega)
          unfold OwnL
          rw [HYS.out, HYL.out]
          rw [HY.out] at h2
          have h3 : (ints .u32 (ys ++ [0])).take (m - 1) = ints .u32 ys := by
            simp only [ints, List.map_append]
            rw [List.take_left']
            simp [HYL.out]
          rw [h3] at h2
          exact h2
        · have hq0 : ((u : Int) == 0) = false := by simp [hu0]
          have hys' : limbs xs = ys := by
            rcases hor with h | h
            · exact h
            · exfalso
              have hlen : ys.length + 1 = m := by have := congrArg List.length h; rw [hll] at this; simp at this; omega
              rw [h, List.getElem?_append_right (by omega), show m - 1 - ys.length = 0 by omega] at hu
              simp at hu
              exact hu0 hu.symm
          have hyl : ys.length = m := by rw [← hys', hll]; omega
          have HY := Lib.hid hys'
          have HYL := Lib.hid hyl
          have HU := Lib.hid hu
          have HE := Lib.hid e3
          have HU0 := Lib.hid hu0
          have HOR := Lib.hid hor
          clear hys' hyl hu e3 hu0 hor hmu hm hll e2 hA' hnum hm0
          go_wp2
          go_ret
          refine ⟨_, rfl, ?_, hbl⟩
          have h2 := HOWN.out
          unfold OwnL
          rw [HYS.out, HYL.out]
          rw [HY.out] at h2
          exact h2
end Go.Proofs.YthgekjkgfccnaaaGreat

namespace Go.Proofs.YthgekjkgfccnaaaGreat
open Go.RowKit Num

theorem m_mask (a : Nat) (ha : a < 18446744073709551616) : bits .and .u64 (a : Int) 4294967295 = ((a % 4294967296 : Nat) : Int) := by
  have h := bits_and_u64_nat a 4294967295 ha (by omega)
  rw [show a &&& 4294967295 = a % 4294967296 from Nat.and_two_pow_sub_one_eq_mod a 32] at h
  exact h
theorem m_div (a : Nat) : (a : Int) / 4294967296 = ((a / 4294967296 : Nat) : Int) := by omega
theorem m_mul (a b : Nat) : (a : Int) * (b : Int) = ((a * b : Nat) : Int) := (Int.natCast_mul a b).symm
theorem m_add (a b : Nat) : (a : Int) + (b : Int) = ((a + b : Nat) : Int) := (Int.natCast_add a b).symm
theorem m_in (a : Nat) (ha : a < 18446744073709551616) : IntKind.u64.wrap (a : Int) = (a : Int) := by rw [IntKind.wrap_u64]; omega
theorem m_wrap (a : Nat) : IntKind.u64.wrap (a : Int) = ((a % 18446744073709551616 : Nat) : Int) := by rw [IntKind.wrap_u64]; omega

set_option maxHeartbeats 1000000 in
set_option maxRecDepth 100000 in
theorem mul64_raw (x y : Nat) (hx : x < B64) (hy : y < B64) (w : World) :
    Calls Tryz.prog 123 #[.int .u64 (x : Int), .int .u64 (y : Int)] w fun e w' => e = .returned (.tuple #[.int .u64 ((x * y / 18446744073709551616 : Nat) : Int), .int .u64 ((x * y % 18446744073709551616 : Nat) : Int)]) ∧ w = w' := by
  obtain ⟨h1, h2, h3, h4⟩ := Lib.mul64_hi x y hx hy
  have H1 := Lib.hid h1
  have H2 := Lib.hid h2
  have H3 := Lib.hid h3
  have H4 := Lib.hid h4
  clear h1 h2 h3 h4
  go_enter Tryz.func123, Tryz.ntmps123
  go_wp2
  have a1 := H1.out
  have a2 := H2.out
  have a3 := H3.out
  have p1 := Lib.half_mul_le (a := x / 4294967296) (b := y / 4294967296) (by unfold B64 at hx; omega) (by unfold B64 at hy; omega)
  have p2 := Lib.half_mul_le (a := x / 4294967296) (b := y % 4294967296) (by unfold B64 at hx; omega) (by omega)
  have p3 := Lib.half_mul_le (a := x % 4294967296) (b := y / 4294967296) (by omega) (by unfold B64 at hy; omega)
  simp only [m_mask x hx, m_mask y hy, m_div, m_mul, m_add, m_in _ a1, m_in (x / 4294967296 * (y % 4294967296)) (by omega), m_in _ a2, m_mask _ a2, m_in (x % 4294967296 * (y / 4294967296)) (by omega), m_in _ a3,
    m_in (x / 4294967296 * (y / 4294967296)) (by omega)]
  have a4 := H4.out
  have hxy : x * y / 18446744073709551616 < 18446744073709551616 := by
    rw [Nat.div_lt_iff_lt_mul (by omega)]
    exact Nat.mul_lt_mul_of_lt_of_lt hx hy
  rw [m_in (x / 4294967296 * (y / 4294967296) + (x / 4294967296 * (y % 4294967296) + x % 4294967296 * (y % 4294967296) / 4294967296) / 4294967296) (by omega), m_add, m_in _ (by omega), m_wrap, a4]
  go_ret2
  exact ⟨rfl, rfl⟩
/-- A product of two words: under names. -/
theorem mul64_ex (x y : Nat) (hx : x < B64) (hy : y < B64) : ∃ hi lo : Nat,
    (∀ w, Calls Tryz.prog 123 #[.int .u64 (x : Int), .int .u64 (y : Int)] w fun e w' => e = .returned (.tuple #[.int .u64 (hi : Int), .int .u64 (lo : Int)]) ∧ w = w') ∧
    lo + B64 * hi = x * y ∧ lo < B64 ∧ hi + 1 < B64 := by
  refine ⟨x * y / B64, x * y % B64, fun w => mul64_raw x y hx hy w, Nat.mod_add_div _ _, Nat.mod_lt _ b64_pos, ?_⟩
  have h1 : x * y ≤ 18446744073709551615 * 18446744073709551615 := Nat.mul_le_mul (by unfold B64 at hx; omega) (by unfold B64 at hy; omega)
  unfold B64
  omega
end Go.Proofs.YthgekjkgfccnaaaGreat

namespace Go.Proofs.YthgekjkgfccnaaaGreat
open Go.RowKit Num

/-- A sum of words that fits a word. -/
theorem wrap_in (a b : Nat) (h : a + b < B64) : IntKind.u64.wrap ((a : Int) + (b : Int)) = ((a + b : Nat) : Int) := by
  rw [IntKind.wrap_u64]; unfold B64 at h; omega
theorem wrap_ex (a b : Nat) (h : a + b < B64) : ∃ s : Nat, IntKind.u64.wrap ((a : Int) + (b : Int)) = (s : Int) ∧ s = a + b := ⟨_, wrap_in a b h, rfl⟩

/-- One step of a scaled sum: what the calls give. -/
theorem scale_ex (v x m c : Nat) (hv : v < B64) (hx : x < B64) (hm : m < B64) (hc : c < B64) : ∃ hi lo low c1 h2 lo2 c2 over : Nat,
    (∀ w, Calls Tryz.prog 123 #[.int .u64 (x : Int), .int .u64 (m : Int)] w fun e w' => e = .returned (.tuple #[.int .u64 (hi : Int), .int .u64 (lo : Int)]) ∧ w = w') ∧
    (∀ w, (callFunc 146 #[.int .u64 (lo : Int), .int .u64 (v : Int), .int .u64 0]).run Tryz.prog w = .ok (.value (.tuple #[.int .u64 (low : Int), .int .u64 (c1 : Int)])) w) ∧
    IntKind.u64.wrap ((hi : Int) + (c1 : Int)) = (h2 : Int) ∧
    (∀ w, (callFunc 146 #[.int .u64 (low : Int), .int .u64 (c : Int), .int .u64 0]).run Tryz.prog w = .ok (.value (.tuple #[.int .u64 (lo2 : Int), .int .u64 (c2 : Int)])) w) ∧
    IntKind.u64.wrap ((h2 : Int) + (c2 : Int)) = (over : Int) ∧
    lo2 + B64 * over = v + x * m + c ∧ lo2 < B64 ∧ over < B64 := by
  obtain ⟨hi, lo, h1, e1, l1, g1⟩ := mul64_ex x m hx hm
  obtain ⟨low, c1, h2, e2, l2, g2⟩ := add64_ex0 lo v l1 hv
  obtain ⟨lo2, c2, h3, e3, l3, g3⟩ := add64_ex0 low c l2 hc
  have e : lo2 + B64 * (hi + c1 + c2) = v + x * m + c := by
    rw [Nat.mul_add, Nat.mul_add]; omega
  have hb := word_bound hv hx hm hc e
  exact ⟨hi, lo, low, c1, hi + c1, lo2, c2, hi + c1 + c2, h1, h2, wrap_in _ _ (by omega), h3, wrap_in _ _ hb, e, l3, hb⟩

def ScalePost (zs xs : List Nat) (m g off : Nat) (w : World) (e : Ending) (w' : World) : Prop :=
  ∃ zs' c, e = .returned (.int .u64 ((c : Nat) : Int)) ∧ ScaleSt B64 zs xs m off xs.length zs' c ∧ Row .u64 67 w' g zs' ∧ w.grownBy w' (some g)

set_option maxHeartbeats 1000000 in
set_option maxRecDepth 100000 in
theorem addScaled_any (g off n c d L m : Nat) (zs xs : List Nat) (A : Option Addr) (w : World) (hr : Row .u64 67 w g zs) (hz : Low B64 zs) (hA : Nums .u64 w A xs) (hx : Low B64 xs)
    (hAg : 0 < xs.length → ∀ a, A = some a → a.block ≠ g) (hL : L = xs.length) (hn : off + L ≤ zs.length) (hm : m < B64) (hle : L ≤ n) (hnc : n ≤ c) (hbig : n ≤ 1000000000000) :
    Calls Tryz.prog 143 #[.slice (some ⟨g, off, none⟩) n c, .slice A L d, .int .u64 (m : Int)] w (ScalePost zs xs m g off w) := by
  have HL := Lib.hid hL
  clear hL
  go_enter Tryz.func143, Tryz.ntmps143
  go_wp2
  go_loopw [7, 20] (fun q t wr => ∃ (k ov : Nat) (zs' : List Nat), k ≤ L ∧ q = .int .u64 (ov : Int) ∧ t = .int .i64 (k : Int) ∧ ScaleSt B64 zs xs m off k zs' ov ∧ Row .u64 67 wr g zs' ∧ w.grownBy wr (some g)) (fun _ t _ => L - (intOf t).toNat)
  case atStart => exact ⟨0, 0, zs, Nat.zero_le _, rfl, rfl, ScaleSt.start b64_two hz, hr, World.grownBy.refl w _⟩
  case round =>
    obtain ⟨k, ov, zs', hk, rfl, rfl, hst, hrow, hgr⟩ := hrel
    by_cases hlt : k < L
    · obtain ⟨q, qo, x, rfl, hq, hxk, hcx⟩ := (hA.grown hAg hgr).at_ (i := k) (by have := HL.out; omega)
      obtain ⟨v, hv⟩ : ∃ v, zs'[off + k]? = some v := ⟨zs'[off + k]'(by have := hst.len; omega), List.getElem?_eq_getElem _⟩
      have hcv := hrow.cell hv
      have hfv := hrow.frozen (off + k)
      have hvl : v < B64 := by have := hst.low v (List.mem_of_getElem? hv); exact this
      have hxl : x < B64 := hx x (List.mem_of_getElem? hxk)
      obtain ⟨hi, lo, low, c1, h2, lo2, c2, over, e1, e2, e3, e4, e5, e6, hlo, hov⟩ := scale_ex v x m ov hvl hxl hm hst.le
      have hst' := hst.step hv hxk e6 hlo hov
      have hrow' := hrow.set (off + k) lo2
      have HE := Lib.hid e6
      have HV := Lib.hid hv
      have HX := Lib.hid hxk
      have H1 := Lib.hid e1
      clear e6 hv hxk hA hvl hxl hlo hov e1
      go_wp2_with (go_at_call 123; refine (H1.out _).mono ?_; rintro e w' ⟨rfl, rfl⟩)
      go_roundw
      case rel => exact ⟨k + 1, over, _, by omega, rfl, by go_num, hst', hrow', grown_set hgr _ _⟩
      case measure => simp [intOf]; omega
    · have hkL : k = L := by omega
      subst hkL
      clear hlt
      go_wp2
      go_ret
      exact ⟨zs', ov, rfl, by rw [← HL.out]; exact hst, hrow, hgr⟩
end Go.Proofs.YthgekjkgfccnaaaGreat

namespace Go.Proofs.YthgekjkgfccnaaaGreat
open Go.RowKit Num

set_option maxHeartbeats 1000000 in
set_option maxRecDepth 100000 in
theorem longMultiply_any (A A' : Option Addr) (c c' L L' : Nat) (us bs : List Nat) (w : World) (hA : Nums .u64 w A us) (hA' : Nums .u64 w A' bs) (ha : Low B64 us) (hb : Low B64 bs)
    (hL : L = us.length) (hL' : L' = bs.length) (hbig : L ≤ 100000000000) (hbig' : L' ≤ 100000000000) :
    Calls Tryz.prog 131 #[.slice A L c, .slice A' L' c'] w (SumPost w (val B64 us * val B64 bs)) := by
  have hmk := make64 (L + L') (by omega)
  push_cast at hmk
  have hr0 := Row.made w .u64 (L + L') 67
  have hbA : Below w.heap.size w (w.alloc (.cells (madeCells #[.int .u64 0] (L + L')) 67)) := (Below.refl _ _).alloc (Nat.le_refl _) _
  have hst0 := MulSt.start b64_two us bs
  rw [← hL, ← hL'] at hst0
  have HL := Lib.hid hL
  have HL' := Lib.hid hL'
  have HR0 := Lib.hid hr0
  clear hL hL' hr0
  go_enter Tryz.func131, Tryz.ntmps131
  go_wp2
  go_loopw [16] (fun t wr => ∃ (k : Nat) (zs : List Nat), k ≤ L' ∧ t = .int .i64 (k : Int) ∧ MulSt B64 us bs k zs ∧ Row .u64 67 wr w.heap.size zs ∧ Below w.heap.size w wr) (fun t _ => L' - (intOf t).toNat)
  case atStart => exact ⟨0, _, Nat.zero_le _, rfl, hst0, HR0.out, hbA⟩
  case round =>
    clear hst0 HR0 hbA hmk
    obtain ⟨k, zs, hk, rfl, hst, hrow, hbl⟩ := hrel
    by_cases hlt : k < L'
    · obtain ⟨q, qo, v, rfl, hq, hv, hcv⟩ := (hA'.keep hbl).at_ (i := k) (by have := HL'.out; omega)
      have hvl : v < B64 := hb v (List.mem_of_getElem? hv)
      have hAk := hA.keep hbl
      have hne : 0 < us.length → ∀ a, A = some a → a.block ≠ w.heap.size := nums_ne hA (Nat.le_refl _)
      have HV := Lib.hid hv
      have HNE := Lib.hid hne
      have hlen := hst.len
      rw [← HL.out, ← HL'.out] at hlen
      have HLEN := Lib.hid hlen
      clear hv hne hA hA' hlen
      go_wp2_with (go_at_call 143
                   refine (addScaled_any w.heap.size k _ _ c L v zs us A _ hrow hst.low hAk ha HNE.out HL.out (by have := HLEN.out; omega) hvl (by omega) (by omega) (by omega)).mono ?_
                   rintro e w1 ⟨zs', ov, rfl, hs1, hr1, hg1⟩
                   have hb1 : Below w.heap.size w w1 := hbl.grown hg1 hbl.size (by simp)
                   obtain ⟨u, hu⟩ : ∃ u, zs'[L + k]? = some u := ⟨zs'[L + k]'(by have h1 := hs1.len; have h2 := HLEN.out; omega), List.getElem?_eq_getElem _⟩
                   have hcu := hr1.cell hu
                   have hfu := hr1.frozen (L + k)
                   have HU := Lib.hid hu
                   clear hu)
      go_roundw
      case rel =>
        refine ⟨k + 1, _, by omega, by go_num, ?_, hr1.set (L + k) ov, below_set hb1 (Nat.le_refl _) _⟩
        have := hst.step (by rw [← HL'.out]; exact hlt) HV.out hs1
        rw [← HL.out] at this
        exact this
      case measure => simp [intOf]; omega
    · have hkL : k = L' := by omega
      subst hkL
      clear hlt
      have hlen := hst.len
      rw [← HL.out, ← HL'.out] at hlen
      have hn := hrow.nums0 zs.length
      rw [List.take_length] at hn
      have HLEN := Lib.hid hlen
      have he := hst.eq
      have HE := Lib.hid he
      clear hlen he hA hA'
      go_wp2_with (go_at_call 93
                   refine (trim_any _ (L + k) (L + k) zs _ hn hst.low HLEN.out.symm (Nat.le_refl _) (by omega)).mono ?_
                   rintro e w1 ⟨rfl, rfl⟩)
      go_ret
      have hfin := HE.out
      rw [List.take_of_length_le (by have := HL'.out; omega)] at hfin
      rw [← hfin]
      refine ⟨_, rfl, ?_, hbl⟩
      have := own_of_trim b64_two hrow hst.low (Nat.le_refl w.heap.size)
      rw [HLEN.out] at this
      exact this
end Go.Proofs.YthgekjkgfccnaaaGreat

namespace Go.Proofs.YthgekjkgfccnaaaGreat
open Go.RowKit Num

/-- What multiply owes, for factors of at most N words. -/
def MulSpec (N : Nat) : Prop := ∀ (a b : Value) (m n : Nat) (w : World), W64 w a m → W64 w b n → (dig B64 m).length ≤ N → (dig B64 n).length ≤ N → Calls Tryz.prog 118 #[a, b] w (SumPost w (m * n))

set_option maxHeartbeats 400000 in
theorem mul_short (a b : Value) (m n : Nat) (w : World) (ha : W64 w a m) (hb : W64 w b n) (hm : (dig B64 m).length ≤ 1000000000) (hn : (dig B64 n).length ≤ 1000000000) (hs : (dig B64 m).length ≤ 79 ∨ (dig B64 n).length ≤ 79) :
    Calls Tryz.prog 118 #[a, b] w (SumPost w (m * n)) := by
  obtain ⟨A, c, rfl, _, hA⟩ := ha
  obtain ⟨A', c', rfl, _, hA'⟩ := hb
  have em := val_dig b64_two m
  have en := val_dig b64_two n
  have h1 := fun w => fun (hA : Nums .u64 w A (dig B64 m)) (hA' : Nums .u64 w A' (dig B64 n)) => longMultiply_any A A' c c' _ _ _ _ w hA hA' (dig_low64 m) (dig_low64 n) rfl rfl (by omega) (by omega)
  have h2 := fun w => fun (hA : Nums .u64 w A (dig B64 m)) (hA' : Nums .u64 w A' (dig B64 n)) => longMultiply_any A' A c' c _ _ _ _ w hA' hA (dig_low64 n) (dig_low64 m) rfl rfl (by omega) (by omega)
  rw [em, en] at h1 h2
  rw [Nat.mul_comm n m] at h2
  have H1 := Lib.hid h1
  have H2 := Lib.hid h2
  clear h1 h2 em en
  generalize hL : (dig B64 m).length = L at *
  generalize hL' : (dig B64 n).length = L' at *
  have HL := Lib.hid hL
  have HL' := Lib.hid hL'
  clear hL hL'
  by_cases hlt : L < L'
  · go_enter Tryz.func118, Tryz.ntmps118
    go_wp2_with (go_at_call 131; refine (H2.out _ hA hA').mono ?_; rintro e w1 ⟨v, rfl, hv, hb1⟩)
    go_ret
    exact ⟨_, rfl, hv, hb1⟩
  · go_enter Tryz.func118, Tryz.ntmps118
    go_wp2_with (go_at_call 131; refine (H1.out _ hA hA').mono ?_; rintro e w1 ⟨v, rfl, hv, hb1⟩)
    go_ret
    exact ⟨_, rfl, hv, hb1⟩
theorem mulSpec_small : MulSpec 79 := fun a b m n w ha hb hm hn => mul_short a b m n w ha hb (by omega) (by omega) (.inl hm)
/-- What multiply owes for two factors. -/
def MulAt (m n : Nat) : Prop := ∀ (a b : Value) (w : World), W64 w a m → W64 w b n → Calls Tryz.prog 118 #[a, b] w (SumPost w (m * n))
theorem mulAt_short {m n : Nat} (hm : (dig B64 m).length ≤ 1000000000) (hn : (dig B64 n).length ≤ 1000000000) (hs : (dig B64 m).length ≤ 79 ∨ (dig B64 n).length ≤ 79) : MulAt m n := fun a b w ha hb => mul_short a b m n w ha hb hm hn hs
end Go.Proofs.YthgekjkgfccnaaaGreat

namespace Go.Proofs.YthgekjkgfccnaaaGreat
open Go.RowKit Num

theorem len_nat (x : Nat) (w : World) (hx : x < B64) : Calls Tryz.prog 117 #[.int .u64 (x : Int)] w fun e w' => e = .returned (.int .i64 (nbits x : Nat)) ∧ w = w' := by
  have h := fun w => len64_nat x w hx
  have H := Lib.hid h
  clear h
  generalize nbits x = r at *
  go_enter Tryz.func117, Tryz.ntmps117
  go_wp2_with (go_at_call 116; refine (H.out _).mono ?_; rintro e w1 ⟨rfl, rfl⟩)
  go_ret
  exact ⟨rfl, rfl⟩

theorem dig_one : dig B64 1 = [1] := by
  rw [dig_pos b64_two (by omega)]
  have : 1 / B64 = 0 := Nat.div_eq_of_lt (by unfold B64; omega)
  rw [this, dig_zero, Nat.mod_eq_of_lt (by unfold B64; omega)]

theorem dig_len_mono {m n : Nat} (h : m ≤ n) : (dig B64 m).length ≤ (dig B64 n).length := dig_len_le b64_two (Nat.lt_of_le_of_lt h (dig_len_lt b64_two))

theorem and_one (q : Nat) (h : q < 9223372036854775808) : bits .and .i64 (q : Int) 1 = ((q % 2 : Nat) : Int) := by
  have e : (BitVec.ofInt 64 (q : Int)).toNat = q := by rw [BitVec.ofInt_natCast, BitVec.toNat_ofNat]; exact Nat.mod_eq_of_lt (by omega)
  show IntKind.i64.wrap ((BitVec.ofInt 64 (q : Int) &&& BitVec.ofInt 64 1).toNat : Int) = _
  rw [BitVec.toNat_and, e, show (BitVec.ofInt 64 1).toNat = 1 from rfl, Nat.and_one_is_mod, IntKind.wrap_i64]
  omega
theorem own_one (w : World) : OwnW w.heap.size (w.alloc (.cells #[.int .u64 1] 67)) (.slice (some ⟨w.heap.size, 0, none⟩) 1 1) 1 :=
  ⟨w.heap.size, 1, [1], by rw [dig_one]; rfl, by rw [dig_one]; exact Nat.le_refl _, rfl, Nat.le_refl _, Row.of_heap (heap_alloc_new _ _), fun x hx => by simp at hx; subst hx; unfold B64; omega, by rw [dig_one]; rfl⟩
theorem OwnNum.mono {k : IntKind} {T : TypeId} {b B B' : Nat} {w : World} {v : Value} {n : Nat} (h : OwnNum k T b B w v n) (hB : B' ≤ B) : OwnNum k T b B' w v n := by
  obtain ⟨g, c, zs, e1, e2, e3, e4, r⟩ := h
  exact ⟨g, c, zs, e1, e2, e3, by omega, r⟩

set_option maxHeartbeats 1000000 in
set_option maxRecDepth 100000 in
theorem power_any {N : Nat} (HM : MulSpec N) (a : Value) (m n : Nat) (w : World) (ha : W64 w a m) (hn : n < 9223372036854775808) (hm : (dig B64 m).length ≤ N) (hp : ∀ j, j ≤ n → (dig B64 (m ^ j)).length ≤ N) :
    Calls Tryz.prog 96 #[a, .int .i64 (n : Int)] w (SumPost w (m ^ n)) := by
  have hlen := fun w => len_nat n w (by unfold B64; omega)
  have hb : nbits n ≤ 64 := nbits_le (k := 64) (by omega)
  have hnl := nbits_lt n
  have HMH := Lib.hid HM
  have HLEN := Lib.hid hlen
  have HP := Lib.hid hp
  have HNL := Lib.hid hnl
  clear hlen hp HM hnl
  generalize nbits n = r at *
  have hn' := Lib.hid hn
  have hwr : IntKind.u64.wrap (n : Int) = (n : Int) := by rw [IntKind.wrap_u64]; have := hn'.out; omega
  clear hn
  go_enter Tryz.func96, Tryz.ntmps96
  go_wp2_with (go_at_call 117; refine (HLEN.out _).mono ?_; rintro e w1 ⟨rfl, rfl⟩)
  go_loopw [5, 6] (fun z t wr => ∃ k : Nat, k ≤ r ∧ t = .int .i64 ((k : Int) - 1) ∧ OwnW w.heap.size wr z (m ^ (n / 2 ^ k)) ∧ Below w.heap.size w wr) (fun _ t _ => (intOf t + 1).toNat)
  case atStart => exact ⟨r, Nat.le_refl _, rfl, by rw [Nat.div_eq_of_lt HNL.out, Nat.pow_zero]; exact own_one w, (Below.refl _ _).alloc (Nat.le_refl _) _⟩
  case round =>
    clear hwr
    obtain ⟨k, hk, rfl, hz, hbl⟩ := hrel
    by_cases h0 : k = 0
    · subst h0
      have HZ := Lib.hid hz
      clear hz
      go_wp2
      go_ret
      have := HZ.out
      rw [Nat.pow_zero, Nat.div_one] at this
      exact ⟨_, rfl, this, hbl⟩
    · obtain ⟨j, rfl⟩ : ∃ j, k = j + 1 := ⟨k - 1, by omega⟩
      have hj : j < 64 := by omega
      have hq : n / 2 ^ j = 2 * (n / 2 ^ (j + 1)) + n / 2 ^ j % 2 := by
        rw [Nat.pow_succ, ← Nat.div_div_eq_div_mul]; omega
      have hqn : n / 2 ^ j ≤ n := Nat.div_le_self _ _
      have hbit : bits .and .i64 ((n : Int) / 2 ^ j) 1 = ((n / 2 ^ j % 2 : Nat) : Int) := by
        have := and_one (n / 2 ^ j) (Nat.lt_of_le_of_lt hqn hn'.out)
        rw [← this]; push_cast; rfl
      have e1 : m ^ (n / 2 ^ (j + 1)) * m ^ (n / 2 ^ (j + 1)) = m ^ (2 * (n / 2 ^ (j + 1))) := by rw [← Nat.pow_add]; congr 1; omega
      have l1 := HP.out (n / 2 ^ (j + 1)) (Nat.div_le_self _ _)
      have l2 := HP.out (2 * (n / 2 ^ (j + 1))) (by omega)
      have hk' : j + 1 ≤ r := hk
      clear h0 hk hqn
      by_cases hodd : n / 2 ^ j % 2 = 1
      · rw [hodd] at hbit hq
        have hbit' : bits .and .i64 ((n : Int) / 2 ^ j) 1 = 1 := hbit
        have e2 : m ^ (2 * (n / 2 ^ (j + 1))) * m = m ^ (n / 2 ^ j) := Eq.trans (Nat.pow_succ m _).symm (congrArg (fun x => m ^ x) hq.symm)
        have HQ := Lib.hid hq
        have HODD := Lib.hid hodd
        clear hq hodd hbit
        generalize m ^ (n / 2 ^ (j + 1)) = z1 at *
        generalize m ^ (2 * (n / 2 ^ (j + 1))) = z2 at *
        generalize hz3 : m ^ (n / 2 ^ j) = z3 at *
        have HZ3 := Lib.hid hz3
        clear hz3
        have E1 := Lib.hid e1
        have E2 := Lib.hid e2
        have HZ := Lib.hid hz
        have HA := Lib.hid ha
        clear e1 e2 hz ha
        go_wp2_with (fail)
        refine (HMH.out _ _ z1 z1 _ HZ.out.is HZ.out.is l1 l1).mono ?_
        rintro e w1 ⟨v1, rfl, hv1, hb1⟩
        rw [E1.out] at hv1
        have hbl1 : Below w.heap.size w w1 := hbl.trans (hb1.mono hbl.size)
        have HV1 := Lib.hid hv1
        clear hv1
        go_wp2_with (fail)
        refine (HMH.out _ _ z2 m _ HV1.out.is (HA.out.keep hbl1) l2 hm).mono ?_
        rintro e w2 ⟨v2, rfl, hv2, hb2⟩
        rw [E2.out] at hv2
        have hbl2 : Below w.heap.size w w2 := hbl1.trans (hb2.mono hbl1.size)
        have HV2 := Lib.hid hv2
        clear hv2
        go_wp2
        go_roundw
        case rel => exact ⟨j, by omega, by congr 1, by rw [HZ3.out]; exact HV2.out.mono hbl1.size, hbl2⟩
        case measure => simp [intOf]
      · have hev : n / 2 ^ j % 2 = 0 := by omega
        rw [hev] at hbit hq
        have hbit' : bits .and .i64 ((n : Int) / 2 ^ j) 1 = 0 := hbit
        have e2 : m ^ (2 * (n / 2 ^ (j + 1))) = m ^ (n / 2 ^ j) := by rw [show n / 2 ^ j = 2 * (n / 2 ^ (j + 1)) from by omega]
        have HQ := Lib.hid hq
        have HODD := Lib.hid hodd
        have HEV := Lib.hid hev
        clear hq hodd hbit hev
        generalize m ^ (n / 2 ^ (j + 1)) = z1 at *
        generalize m ^ (2 * (n / 2 ^ (j + 1))) = z2 at *
        generalize hz3 : m ^ (n / 2 ^ j) = z3 at *
        have HZ3 := Lib.hid hz3
        clear hz3
        have E1 := Lib.hid e1
        have E2 := Lib.hid e2
        have HZ := Lib.hid hz
        have HA := Lib.hid ha
        clear e1 e2 hz ha
        go_wp2_with (fail)
        refine (HMH.out _ _ z1 z1 _ HZ.out.is HZ.out.is l1 l1).mono ?_
        rintro e w1 ⟨v1, rfl, hv1, hb1⟩
        rw [E1.out, E2.out] at hv1
        have hbl1 : Below w.heap.size w w1 := hbl.trans (hb1.mono hbl.size)
        have HV1 := Lib.hid hv1
        clear hv1
        go_wp2
        go_roundw
        case rel => exact ⟨j, by omega, by congr 1, by rw [HZ3.out]; exact HV1.out.mono hbl.size, hbl1⟩
        case measure => simp [intOf]
end Go.Proofs.YthgekjkgfccnaaaGreat

namespace Go.Proofs.YthgekjkgfccnaaaGreat
open Go.RowKit Num

set_option maxHeartbeats 400000 in
theorem cmp107 (x y : Nat) (w : World) : Calls Tryz.prog 119 #[.int .i64 (x : Int), .int .i64 (y : Int)] w fun e w' => e = .returned (.int .i64 (cmpN x y)) ∧ w = w' := by
  rcases Nat.lt_trichotomy x y with h | h | h
  · rw [cmpN_lt h]
    go_enter Tryz.func119, Tryz.ntmps119
    go_wp2
    go_ret
    exact ⟨rfl, rfl⟩
  · subst h
    rw [cmpN_eq]
    go_enter Tryz.func119, Tryz.ntmps119
    go_wp2
    go_ret
    exact ⟨rfl, rfl⟩
  · rw [cmpN_gt h]
    go_enter Tryz.func119, Tryz.ntmps119
    go_wp2
    go_ret
    exact ⟨rfl, rfl⟩
set_option maxHeartbeats 400000 in
theorem cmp108 (x y : Nat) (w : World) : Calls Tryz.prog 124 #[.int .u64 (x : Int), .int .u64 (y : Int)] w fun e w' => e = .returned (.int .i64 (cmpN x y)) ∧ w = w' := by
  rcases Nat.lt_trichotomy x y with h | h | h
  · rw [cmpN_lt h]
    go_enter Tryz.func124, Tryz.ntmps124
    go_wp2
    go_ret
    exact ⟨rfl, rfl⟩
  · subst h
    rw [cmpN_eq]
    go_enter Tryz.func124, Tryz.ntmps124
    go_wp2
    go_ret
    exact ⟨rfl, rfl⟩
  · rw [cmpN_gt h]
    go_enter Tryz.func124, Tryz.ntmps124
    go_wp2
    go_ret
    exact ⟨rfl, rfl⟩
set_option maxHeartbeats 400000 in
theorem cmp110 (x y : Nat) (w : World) : Calls Tryz.prog 120 #[.int .u32 (x : Int), .int .u32 (y : Int)] w fun e w' => e = .returned (.int .i64 (cmpN x y)) ∧ w = w' := by
  rcases Nat.lt_trichotomy x y with h | h | h
  · rw [cmpN_lt h]
    go_enter Tryz.func120, Tryz.ntmps120
    go_wp2
    go_ret
    exact ⟨rfl, rfl⟩
  · subst h
    rw [cmpN_eq]
    go_enter Tryz.func120, Tryz.ntmps120
    go_wp2
    go_ret
    exact ⟨rfl, rfl⟩
  · rw [cmpN_gt h]
    go_enter Tryz.func120, Tryz.ntmps120
    go_wp2
    go_ret
    exact ⟨rfl, rfl⟩
set_option maxHeartbeats 400000 in
theorem compare83 (A A' : Option Addr) (c c' L L' m n : Nat) (w : World) (h : Nums .u64 w A (dig B64 m)) (h' : Nums .u64 w A' (dig B64 n)) (hL : L = (dig B64 m).length) (hL' : L' = (dig B64 n).length) (hl : L ≤ 1000000000000) (hl' : L' ≤ 1000000000000) :
    Calls Tryz.prog 110 #[.slice A L c, .slice A' L' c'] w fun e w' => e = .returned (.int .i64 (cmpN m n)) ∧ Below w.heap.size w w' := by
  obtain ⟨r, hr⟩ : ∃ r, cmpN m n = r := ⟨_, rfl⟩
  rw [hr]
  by_cases hne : L = L'
  · subst hne
    have HL := Lib.hid hL
    have HL' := Lib.hid hL'
    have HR := Lib.hid hr
    clear hL hL' hr
    go_enter Tryz.func110, Tryz.ntmps110
    go_wp2
    go_loopw [5] (fun t wr => ∃ k : Nat, k ≤ L ∧ t = .int .i64 ((k : Int) - 1) ∧ Hid (m / B64 ^ k = n / B64 ^ k) ∧ Below w.heap.size w wr) (fun t _ => (intOf t + 1).toNat)
    case atStart => exact ⟨L, Nat.le_refl _, rfl, Lib.hid (by rw [div_pow_len b64_two (by rw [← HL.out]; exact Nat.le_refl _), div_pow_len b64_two (by rw [← HL'.out]; exact Nat.le_refl _)]), Below.refl _ _⟩
    case round =>
      obtain ⟨k, hk, rfl, hd, hb⟩ := hrel
      by_cases h0 : k = 0
      · subst h0
        have hmn : m = n := by have := hd.out; simpa using this
        have hr0 : r = 0 := by have := HR.out; rw [hmn, cmpN_eq] at this; exact this.symm
        have H0 := Lib.hid hr0
        clear hmn hr0
        go_wp2
        go_ret
        exact ⟨ret_i H0.out.symm, hb⟩
      · obtain ⟨j, rfl⟩ : ∃ j, k = j + 1 := ⟨k - 1, by omega⟩
        obtain ⟨g, off, x, rfl, hg, hx, hcx⟩ := (h.keep hb).at_ (i := j) (by have := HL.out; omega)
        obtain ⟨g', off', y, rfl, hg', hy, hcy⟩ := (h'.keep hb).at_ (i := j) (by have := HL'.out; omega)
        clear h h'
        by_cases hxy : x = y
        · have hd' : m / B64 ^ j = n / B64 ^ j := eq_step b64_two hx (by rw [hxy]; exact hy) hd.out
          have HD := Lib.hid hd'
          have hq : ((x : Int) != (y : Int)) = false := by simp [hxy]
          clear hxy hd' hx hy
          go_wp2
          go_quiet (fail)
          go_wp2
          go_roundw
          case rel => exact ⟨j, by omega, by congr 1 <;> omega, HD, below_drewN hb _⟩
          case measure => simp [intOf]
        · have hq : ((x : Int) != (y : Int)) = true := by simp; omega
          have hc : cmpN x y = r := by
            rw [← HR.out]
            rcases Nat.lt_or_gt_of_ne hxy with hlt | hgt
            · rw [cmpN_lt hlt, cmpN_lt (lt_of_digit b64_two hx hy hd.out hlt)]
            · rw [cmpN_gt hgt, cmpN_gt (lt_of_digit b64_two hy hx hd.out.symm hgt)]
          have HC := Lib.hid hc
          clear hc hx hy hxy
          go_wp2
          go_quiet (fail)
          go_wp2
          go_quiet ((go_at_call 124; exact quiet_a (cmp108 _ _ _)))
          go_wp2
          go_ret
          exact ⟨ret_i HC.out, below_drewN (below_drewN hb _) _⟩
  · have hn : ((L : Int) == (L' : Int)) = false := by simp; omega
    have hn' : ((L : Int) != (L' : Int)) = true := by simp; omega
    have hc : cmpN L L' = r := by rw [← hr, hL, hL'] at *; exact cmp_of_len b64_two hne
    have HC := Lib.hid hc
    clear hc h h' hL hL' hr
    go_enter Tryz.func110, Tryz.ntmps110
    go_wp2_with (go_at_call 119; refine (cmp107 L L' _).mono ?_; rintro e w' ⟨rfl, rfl⟩)
    go_ret
    exact ⟨ret_i HC.out, Below.refl _ _⟩
set_option maxHeartbeats 400000 in
theorem compare85 (A A' : Option Addr) (c c' L L' m n : Nat) (w : World) (h : Nums .u32 w A (dig B32 m)) (h' : Nums .u32 w A' (dig B32 n)) (hL : L = (dig B32 m).length) (hL' : L' = (dig B32 n).length) (hl : L ≤ 1000000000000) (hl' : L' ≤ 1000000000000) :
    Calls Tryz.prog 97 #[.slice A L c, .slice A' L' c'] w fun e w' => e = .returned (.int .i64 (cmpN m n)) ∧ Below w.heap.size w w' := by
  obtain ⟨r, hr⟩ : ∃ r, cmpN m n = r := ⟨_, rfl⟩
  rw [hr]
  by_cases hne : L = L'
  · subst hne
    have HL := Lib.hid hL
    have HL' := Lib.hid hL'
    have HR := Lib.hid hr
    clear hL hL' hr
    go_enter Tryz.func97, Tryz.ntmps97
    go_wp2
    go_loopw [5] (fun t wr => ∃ k : Nat, k ≤ L ∧ t = .int .i64 ((k : Int) - 1) ∧ Hid (m / B32 ^ k = n / B32 ^ k) ∧ Below w.heap.size w wr) (fun t _ => (intOf t + 1).toNat)
    case atStart => exact ⟨L, Nat.le_refl _, rfl, Lib.hid (by rw [div_pow_len b32_two (by rw [← HL.out]; exact Nat.le_refl _), div_pow_len b32_two (by rw [← HL'.out]; exact Nat.le_refl _)]), Below.refl _ _⟩
    case round =>
      obtain ⟨k, hk, rfl, hd, hb⟩ := hrel
      by_cases h0 : k = 0
      · subst h0
        have hmn : m = n := by have := hd.out; simpa using this
        have hr0 : r = 0 := by have := HR.out; rw [hmn, cmpN_eq] at this; exact this.symm
        have H0 := Lib.hid hr0
        clear hmn hr0
        go_wp2
        go_ret
        exact ⟨ret_i H0.out.symm, hb⟩
      · obtain ⟨j, rfl⟩ : ∃ j, k = j + 1 := ⟨k - 1, by omega⟩
        obtain ⟨g, off, x, rfl, hg, hx, hcx⟩ := (h.keep hb).at_ (i := j) (by have := HL.out; omega)
        obtain ⟨g', off', y, rfl, hg', hy, hcy⟩ := (h'.keep hb).at_ (i := j) (by have := HL'.out; omega)
        clear h h'
        by_cases hxy : x = y
        · have hd' : m / B32 ^ j = n / B32 ^ j := eq_step b32_two hx (by rw [hxy]; exact hy) hd.out
          have HD := Lib.hid hd'
          have hq : ((x : Int) != (y : Int)) = false := by simp [hxy]
          clear hxy hd' hx hy
          go_wp2
          go_quiet (fail)
          go_wp2
          go_roundw
          case rel => exact ⟨j, by omega, by congr 1 <;> omega, HD, below_drewN hb _⟩
          case measure => simp [intOf]
        · have hq : ((x : Int) != (y : Int)) = true := by simp; omega
          have hc : cmpN x y = r := by
            rw [← HR.out]
            rcases Nat.lt_or_gt_of_ne hxy with hlt | hgt
            · rw [cmpN_lt hlt, cmpN_lt (lt_of_digit b32_two hx hy hd.out hlt)]
            · rw [cmpN_gt hgt, cmpN_gt (lt_of_digit b32_two hy hx hd.out.symm hgt)]
          have HC := Lib.hid hc
          clear hc hx hy hxy
          go_wp2
          go_quiet (fail)
          go_wp2
          go_quiet ((go_at_call 120; exact quiet_a (cmp110 _ _ _)))
          go_wp2
          go_ret
          exact ⟨ret_i HC.out, below_drewN (below_drewN hb _) _⟩
  · have hn : ((L : Int) == (L' : Int)) = false := by simp; omega
    have hn' : ((L : Int) != (L' : Int)) = true := by simp; omega
    have hc : cmpN L L' = r := by rw [← hr, hL, hL'] at *; exact cmp_of_len b32_two hne
    have HC := Lib.hid hc
    clear hc h h' hL hL' hr
    go_enter Tryz.func97, Tryz.ntmps97
    go_wp2_with (go_at_call 119; refine (cmp107 L L' _).mono ?_; rintro e w' ⟨rfl, rfl⟩)
    go_ret
    exact ⟨ret_i HC.out, Below.refl _ _⟩
end Go.Proofs.YthgekjkgfccnaaaGreat

namespace Go.Proofs.YthgekjkgfccnaaaGreat
open Go.RowKit Num

theorem below_at {B : Nat} {w w1 w2 : World} (h : Below B w w1) (hB : B ≤ w.heap.size) (k : Below w1.heap.size w1 w2) : Below B w w2 := h.trans (k.mono (Nat.le_trans hB h.size))
theorem OwnL.mono {B B' : Nat} {w : World} {v : Value} {n : Nat} (h : OwnL B w v n) (hB : B' ≤ B) : OwnL B' w v n := by
  obtain ⟨h1, h2⟩ := h
  refine ⟨h1, ?_⟩
  rcases h2 with h2 | ⟨g, c, cur, e, hg, r⟩
  · exact .inl h2
  · exact .inr ⟨g, c, cur, e, by omega, r⟩
theorem OwnL.keep {B : Nat} {w w' : World} {v : Value} {n : Nat} (h : OwnL B w v n) (hb : Below w.heap.size w w') : OwnL B w' v n := by
  obtain ⟨h1, h2⟩ := h
  refine ⟨h1, ?_⟩
  rcases h2 with h2 | ⟨g, c, cur, e, hg, hh, r⟩
  · exact .inl h2
  · exact .inr ⟨g, c, cur, e, hg, (hb.block g (Array.getElem?_eq_some_iff.1 hh).1).trans hh, r⟩

def NatOk (w : World) (n : Nat) (e : Ending) (w' : World) : Prop := ∃ v, e = .returned (.tuple #[v, .int .i64 0]) ∧ OwnL w.heap.size w' v n ∧ Below w.heap.size w w'
def NatErr (w : World) (k : Int) (e : Ending) (w' : World) : Prop := e = .returned (.tuple #[.slice none 0 0, .int .i64 k]) ∧ Below w.heap.size w w'

/-- The word v as a number of words, once trimmed. -/
theorem row_one (w : World) (v : Nat) : Row .u64 67 (w.alloc (.cells #[.int .u64 (v : Int)] 67)) w.heap.size [v] := Row.of_heap (heap_alloc_new _ _)

set_option maxHeartbeats 400000 in
set_option maxRecDepth 100000 in
theorem of_any (v : Nat) (hv : v < B64) (w : World) : Calls Tryz.prog 70 #[.int .u64 (v : Int)] w (NatPost w v) := by
  have hr := row_one w v
  have hb := below_new w (.cells #[.int .u64 (v : Int)] 67)
  have hlow : Low B64 [v] := Low.cons hv (Low.nil _)
  have hval : val B64 [v] = v := by simp [val]
  have hn : Nums .u64 (w.alloc (.cells #[.int .u64 (v : Int)] 67)) (some ⟨w.heap.size, 0, none⟩) [v] := hr.nums0 1
  have hw : W64 (w.alloc (.cells #[.int .u64 (v : Int)] 67)) (.slice (some ⟨w.heap.size, 0, none⟩) (dig B64 v).length 1) v := by
    have := (own_of_trim b64_two hr hlow (Nat.le_refl w.heap.size)).is
    rw [hval] at this
    exact this
  have hl1 : (dig B64 v).length ≤ 1 := dig_len_le b64_two (by simpa using hv)
  have ht := fun w' (h : Nums .u64 w' (some ⟨w.heap.size, 0, none⟩) [v]) => trim_any (some ⟨w.heap.size, 0, none⟩) 1 1 [v] w' h hlow rfl (Nat.le_refl _) (by omega)
  rw [hval] at ht
  have HT := Lib.hid ht
  have HW := Lib.hid hw
  have HN := Lib.hid hn
  have hl2 : (dig B64 v).length ≤ 10000000000 := by omega
  clear ht hw hn hr hval hlow
  go_enter Tryz.func70, Tryz.ntmps70
  go_wp2_with (first
    | (go_at_call 93; refine (HT.out _ HN.out).mono ?_; rintro e w1 ⟨rfl, rfl⟩)
    | (go_at_call 91; refine (nat_any _ v _ HW.out hl2).mono ?_; rintro e w2 ⟨r, rfl, hr, hb2⟩))
  go_ret
  exact ⟨_, rfl, hr.mono (by simp), below_at hb (Nat.le_refl _) hb2⟩

/-- Binary digits of a product. -/
theorem nbits_mul {m n : Nat} (hm : m ≠ 0) (hn : n ≠ 0) : nbits m + nbits n ≤ nbits (m * n) + 1 := by
  have h1 := nbits_ge hm
  have h2 := nbits_ge hn
  have h3 := Nat.mul_le_mul h1 h2
  rw [← Nat.pow_add] at h3
  have h4 := nbits_lt (m * n)
  rcases Nat.lt_or_ge (nbits (m * n)) (nbits m - 1 + (nbits n - 1) + 1) with h | h
  · have := Nat.pow_le_pow_right (show 0 < 2 by omega) (show nbits (m * n) ≤ nbits m - 1 + (nbits n - 1) by omega)
    omega
  · have p1 : 0 < nbits m := by rw [nbits_pos hm]; omega
    have p2 : 0 < nbits n := by rw [nbits_pos hn]; omega
    omega
theorem len_of_bits {n k : Nat} (h : nbits n ≤ 64 * k) : (dig B64 n).length ≤ k := dig_len_le b64_two (by rw [← pow_b64]; exact lt_of_nbits h)

set_option maxHeartbeats 400000 in
theorem fit_ok (a : Value) (n : Nat) (w : World) (ha : W64 w a n) (hn : nbits n ≤ 8388608) : Calls Tryz.prog 95 #[a] w (NatOk w n) := by
  have hl := len_of_bits (n := n) (k := 131072) hn
  have hb := fun w' (h : W64 w' a n) => (show Calls Tryz.prog 94 #[a] w' fun e w'' => e = .returned (.int .i64 (nbits n : Nat)) ∧ w' = w'' from by
    obtain ⟨A, c, rfl, _, hA⟩ := h
    exact bits_any A c _ n w' hA rfl (by omega))
  have HB := Lib.hid hb
  have HA := Lib.hid ha
  have hl2 : (dig B64 n).length ≤ 10000000000 := by omega
  clear hb ha hl
  generalize nbits n = r at *
  go_enter Tryz.func95, Tryz.ntmps95
  go_wp2_with (first
    | (go_at_call 94; refine (HB.out _ HA.out).mono ?_; rintro e w1 ⟨rfl, rfl⟩)
    | (go_at_call 91; refine (nat_any _ n _ HA.out hl2).mono ?_; rintro e w2 ⟨r, rfl, hr, hb2⟩))
  go_ret2
  exact ⟨_, rfl, hr, hb2⟩

set_option maxHeartbeats 400000 in
theorem fit_err (a : Value) (n : Nat) (w : World) (ha : W64 w a n) (hl : (dig B64 n).length ≤ 1000000000) (hn : 8388608 < nbits n) : Calls Tryz.prog 95 #[a] w (NatErr w 3) := by
  have hb := fun w' (h : W64 w' a n) => (show Calls Tryz.prog 94 #[a] w' fun e w'' => e = .returned (.int .i64 (nbits n : Nat)) ∧ w' = w'' from by
    obtain ⟨A, c, rfl, _, hA⟩ := h
    exact bits_any A c _ n w' hA rfl (by omega))
  have HB := Lib.hid hb
  have HA := Lib.hid ha
  clear hb ha hl
  generalize nbits n = r at *
  go_enter Tryz.func95, Tryz.ntmps95
  go_wp2_with (go_at_call 94; refine (HB.out _ HA.out).mono ?_; rintro e w1 ⟨rfl, rfl⟩)
  go_ret2
  exact ⟨rfl, Below.refl _ _⟩
end Go.Proofs.YthgekjkgfccnaaaGreat

namespace Go.Proofs.YthgekjkgfccnaaaGreat
open Go.RowKit Num

theorem bits_call (a : Value) (n : Nat) (w : World) (h : W64 w a n) (hl : (dig B64 n).length ≤ 1000000000) : Calls Tryz.prog 94 #[a] w fun e w'' => e = .returned (.int .i64 (nbits n : Nat)) ∧ w = w'' := by
  obtain ⟨A, c, rfl, _, hA⟩ := h
  exact bits_any A c _ n w hA rfl (by omega)
theorem len_bits_le {n k : Nat} (hl : (dig B64 n).length ≤ k) : nbits n ≤ 64 * k := by
  refine nbits_le (Nat.lt_of_lt_of_le (dig_len_lt b64_two) ?_)
  rw [← pow_b64]
  exact Nat.pow_le_pow_right (by omega) (by omega)
theorem nbits_ne {n : Nat} (h : n ≠ 0) : 1 ≤ nbits n := by rw [nbits_pos h]; omega
theorem dig_len_pos {n : Nat} (h : n ≠ 0) : 0 < (dig B64 n).length := by
  rcases Nat.eq_zero_or_pos (dig B64 n).length with h0 | h0
  · exact absurd ((dig_nil_iff b64_two).1 (List.eq_nil_of_length_eq_zero h0)) h
  · exact h0

set_option maxHeartbeats 1000000 in
set_option maxRecDepth 100000 in
theorem product_at {N : Nat} (a b : Value) (m n : Nat) (w : World) (HM : MulAt m n) (hN : N ≤ 1000000000) (ha : W64 w a m) (hb : W64 w b n) (hm : (dig B64 m).length ≤ N) (hn : (dig B64 n).length ≤ N) (hp : nbits (m * n) ≤ 8388608) :
    Calls Tryz.prog 108 #[a, b] w (NatOk w (m * n)) := by
  have hba := bits_call a m w ha (by omega)
  have hbb := bits_call b n w hb (by omega)
  have hmul := HM a b w ha hb
  have hl1 := len_bits_le (n := m) (k := N) hm
  have hl2 := len_bits_le (n := n) (k := N) hn
  have hpl := len_of_bits (n := m * n) (k := 131072) hp
  have hfit := fun r w' (h : W64 w' r (m * n)) => fit_ok r (m * n) w' h hp
  have e0 : m ≠ 0 → n ≠ 0 → nbits m + nbits n ≤ 8388608 + 1 := fun h1 h2 => Nat.le_trans (nbits_mul h1 h2) (by omega)
  obtain ⟨A, c, rfl, _, hA⟩ := ha
  obtain ⟨A', c', rfl, _, hA'⟩ := hb
  have HBA := Lib.hid hba
  have HBB := Lib.hid hbb
  have HMUL := Lib.hid hmul
  have HFIT := Lib.hid hfit
  clear hba hbb hmul hfit HM hA hA'
  by_cases h1 : m = 0
  · have hlen : (dig B64 m).length = 0 := by rw [h1, dig_zero]; rfl
    rw [hlen] at HBA HMUL ⊢
    have H1 := Lib.hid h1
    clear h1 hlen e0
    go_enter Tryz.func108, Tryz.ntmps108
    go_wp2_with (first
      | (go_at_call 118; refine HMUL.out.mono ?_; rintro e w1 ⟨v, rfl, hv, hb1⟩)
      | (go_at_call 95; refine (HFIT.out _ _ hv.is).mono ?_; rintro e w2 ⟨r, rfl, hr, hb2⟩))
    go_ret2
    exact ⟨_, rfl, hr.mono hb1.size, below_at hb1 (Nat.le_refl _) hb2⟩
  · have hlm := dig_len_pos h1
    by_cases h2 : n = 0
    · have hlen : (dig B64 n).length = 0 := by rw [h2, dig_zero]; rfl
      rw [hlen] at HBB HMUL ⊢
      have H1 := Lib.hid h1
      have H2 := Lib.hid h2
      clear h1 h2 hlen e0
      generalize (dig B64 m).length = L at *
      go_enter Tryz.func108, Tryz.ntmps108
      go_wp2_with (first
        | (go_at_call 118; refine HMUL.out.mono ?_; rintro e w1 ⟨v, rfl, hv, hb1⟩)
        | (go_at_call 95; refine (HFIT.out _ _ hv.is).mono ?_; rintro e w2 ⟨r, rfl, hr, hb2⟩))
      go_ret2
      exact ⟨_, rfl, hr.mono hb1.size, below_at hb1 (Nat.le_refl _) hb2⟩
    · have hln := dig_len_pos h2
      have e1 := e0 h1 h2
      have p1 := nbits_ne h1
      have H1 := Lib.hid h1
      have H2 := Lib.hid h2
      clear h1 h2 e0
      generalize (dig B64 m).length = L at *
      generalize (dig B64 n).length = L' at *
      generalize nbits m = x at *
      generalize nbits n = y at *
      go_enter Tryz.func108, Tryz.ntmps108
      go_wp2_with (fail)
      refine HBA.out.mono ?_
      rintro e w1 ⟨rfl, rfl⟩
      go_wp2_with (fail)
      refine HBB.out.mono ?_
      rintro e w1 ⟨rfl, rfl⟩
      go_wp2_with (first
        | (go_at_call 118; refine HMUL.out.mono ?_; rintro e w1 ⟨v, rfl, hv, hb1⟩)
        | (go_at_call 95; refine (HFIT.out _ _ hv.is).mono ?_; rintro e w2 ⟨r, rfl, hr, hb2⟩))
      go_ret2
      exact ⟨_, rfl, hr.mono hb1.size, below_at hb1 (Nat.le_refl _) hb2⟩

theorem product_ok {N : Nat} (HM : MulSpec N) (hN : N ≤ 1000000000) (a b : Value) (m n : Nat) (w : World) (ha : W64 w a m) (hb : W64 w b n) (hm : (dig B64 m).length ≤ N) (hn : (dig B64 n).length ≤ N) (hp : nbits (m * n) ≤ 8388608) :
    Calls Tryz.prog 108 #[a, b] w (NatOk w (m * n)) := product_at a b m n w (fun a b w ha hb => HM a b m n w ha hb hm hn) hN ha hb hm hn hp

/-- What Check says of limbs. -/
def chk (xs : List Nat) : Int := if 262144 < xs.length then 3 else if 0 < xs.length ∧ xs.getD (xs.length - 1) 0 = 0 then 2 else 0

set_option maxHeartbeats 400000 in
theorem check_any (A : Option Addr) (c L : Nat) (xs : List Nat) (w : World) (hA : Nums .u32 w A xs) (hL : L = xs.length) (hl : L ≤ 1000000000000) :
    Calls Tryz.prog 109 #[.slice A L c] w fun e w' => e = .returned (.int .i64 (chk xs)) ∧ w = w' := by
  obtain ⟨r, hr⟩ : ∃ r, chk xs = r := ⟨_, rfl⟩
  rw [hr]
  unfold chk at hr
  rw [← hL] at hr
  by_cases h1 : 262144 < L
  · rw [if_pos h1] at hr
    subst hr
    clear hL hA
    go_enter Tryz.func109, Tryz.ntmps109
    go_wp2
    go_ret
    exact ⟨rfl, rfl⟩
  · rw [if_neg h1] at hr
    by_cases h2 : 0 < L
    · obtain ⟨g, off, v, rfl, hg, hv, hcv⟩ := hA.at_ (i := L - 1) (by omega)
      have hvd : xs.getD (L - 1) 0 = v := by simp [List.getD_eq_getElem?_getD, hv]
      rw [hvd] at hr
      by_cases h3 : v = 0
      · rw [if_pos ⟨h2, h3⟩] at hr
        subst hr
        have hq : ((v : Int) == 0) = true := by simp [h3]
        have H3 := Lib.hid h3
        clear hL hA hv hvd h3
        go_enter Tryz.func109, Tryz.ntmps109
        go_wp2
        go_ret
        exact ⟨rfl, rfl⟩
      · rw [if_neg (fun h => h3 h.2)] at hr
        subst hr
        have hq : ((v : Int) == 0) = false := by simp [h3]
        have H3 := Lib.hid h3
        clear hL hA hv hvd h3
        go_enter Tryz.func109, Tryz.ntmps109
        go_wp2
        go_ret
        exact ⟨rfl, rfl⟩
    · rw [if_neg (fun h => h2 h.1)] at hr
      subst hr
      clear hL hA
      go_enter Tryz.func109, Tryz.ntmps109
      go_wp2
      go_ret
      exact ⟨rfl, rfl⟩

theorem chk_dig {n : Nat} (h : (dig B32 n).length ≤ 262144) : chk (dig B32 n) = 0 := by
  unfold chk
  rw [if_neg (by omega), if_neg]
  rintro ⟨h1, h2⟩
  have := (neat_iff _).1 (neat_dig b32_two n) h1
  rw [List.getD_eq_getElem?_getD, List.getElem?_eq_getElem (by omega)] at h2
  exact this h2
end Go.Proofs.YthgekjkgfccnaaaGreat

namespace Go.Proofs.YthgekjkgfccnaaaGreat
open Go.RowKit Num

/-- A list of Nats in memory, as checkAll takes it. -/
def NatsAt (w : World) (g : Nat) (vs : List (Value × List Nat)) : Prop :=
  g < w.heap.size ∧ ∀ i p, vs[i]? = some p → w.cell? ⟨g, i, none⟩ = some p.1 ∧ ∃ A c, p.1 = .slice A p.2.length c ∧ p.2.length ≤ 1000000000000 ∧ Nums .u32 w A p.2
/-- The first fault. -/
def chkAll : List (Value × List Nat) → Int
  | [] => 0
  | p :: ps => if chk p.2 = 0 then chkAll ps else chk p.2

theorem chkAll_skip {vs : List (Value × List Nat)} {k : Nat} (h : ∀ i p, i < k → vs[i]? = some p → chk p.2 = 0) : chkAll vs = chkAll (vs.drop k) := by
  induction k generalizing vs with
  | zero => rfl
  | succ k ih =>
    cases vs with
    | nil => rfl
    | cons p ps =>
      have h0 := h 0 p (by omega) rfl
      rw [List.drop_succ_cons, chkAll, if_pos h0]
      exact ih fun i q hi hq => h (i + 1) q (by omega) (by simpa using hq)

def Fine (vs : List (Value × List Nat)) (k : Nat) : Prop := ∀ i p, i < k → vs[i]? = some p → chk p.2 = 0

set_option maxHeartbeats 1000000 in
theorem checkAll_any (g n c : Nat) (vs : List (Value × List Nat)) (w : World) (h : NatsAt w g vs) (hn : vs.length = n) (hb : n ≤ 1000) :
    Calls Tryz.prog 88 #[.slice (some ⟨g, 0, none⟩) n c] w fun e w' => e = .returned (.int .i64 (chkAll vs)) ∧ w = w' := by
  obtain ⟨r, hr⟩ : ∃ r, chkAll vs = r := ⟨_, rfl⟩
  rw [hr]
  have HR := Lib.hid hr
  have HN := Lib.hid hn
  have HH := Lib.hid h
  clear hr hn h
  go_enter Tryz.func88, Tryz.ntmps88
  go_wp2
  go_loop [8] (fun t => ∃ k : Nat, k ≤ n ∧ t = .int .i64 (k : Int) ∧ Fine vs k) (fun t => n - (intOf t).toNat)
  case atStart => exact ⟨0, Nat.zero_le _, rfl, fun i p h => absurd h (by omega)⟩
  case round =>
    obtain ⟨k, hk, rfl, hf⟩ := hrel
    by_cases hlt : k < n
    · obtain ⟨⟨v, xs⟩, hp⟩ : ∃ p, vs[k]? = some p := ⟨vs[k]'(by have := HN.out; omega), List.getElem?_eq_getElem _⟩
      obtain ⟨hcell, A, cc, hv, hlen, hnum⟩ := HH.out.2 k _ hp
      simp only at hv hcell hlen hnum
      subst hv
      have hchk := check_any A cc _ xs w hnum rfl hlen
      have HP := Lib.hid hp
      by_cases h0 : chk xs = 0
      · rw [h0] at hchk
        have HC := Lib.hid hchk
        have H0 := Lib.hid h0
        generalize xs.length = L at *
        clear hchk h0 hp hnum hlen
        go_wp2_with (go_at_call 109; refine HC.out.mono ?_; rintro e w1 ⟨rfl, rfl⟩)
        go_round
        case rel =>
          refine ⟨k + 1, by omega, by go_num, fun i p hi hp => ?_⟩
          by_cases e : i = k
          · rw [e, HP.out] at hp
            injection hp with hp
            rw [← hp]; exact H0.out
          · exact hf i p (by omega) hp
        case measure => simp [intOf]; omega
      · have hres : chk xs = r := by
          rw [← HR.out, chkAll_skip hf]
          have hd : vs.drop k = (Value.slice A xs.length cc, xs) :: vs.drop (k + 1) := by
            rw [List.drop_eq_getElem_cons (by have := HN.out; omega), (List.getElem?_eq_some_iff.1 HP.out).2]
          rw [hd, chkAll, if_neg h0]
        rw [hres] at hchk h0
        have hq : (r != 0) = true := by simp [h0]
        have HC := Lib.hid hchk
        have H0 := Lib.hid h0
        have HS := Lib.hid hres
        generalize xs.length = L at *
        clear hchk h0 hp hnum hlen hres
        go_wp2_with (go_at_call 109; refine HC.out.mono ?_; rintro e w1 ⟨rfl, rfl⟩)
        go_ret
        exact ⟨rfl, rfl⟩
    · have hkn : k = n := by omega
      subst hkn
      have hres : r = 0 := by
        rw [← HR.out, chkAll_skip hf, List.drop_of_length_le (by rw [HN.out]; exact Nat.le_refl _)]; rfl
      have HS := Lib.hid hres
      clear hres
      go_wp2
      go_ret
      exact ⟨ret_i HS.out.symm, rfl⟩
end Go.Proofs.YthgekjkgfccnaaaGreat

namespace Go.Proofs.YthgekjkgfccnaaaGreat
open Go.RowKit Num

/-- Any limbs at all, as an argument. -/
def Limbs (w : World) (v : Value) (xs : List Nat) : Prop := ∃ A c, v = .slice A xs.length c ∧ xs.length ≤ c ∧ xs.length ≤ 1000000000000 ∧ Nums .u32 w A xs
theorem Limbs.keep {w w' : World} {v : Value} {xs : List Nat} (h : Limbs w v xs) (hb : Below w.heap.size w w') : Limbs w' v xs := by
  obtain ⟨A, c, e, hc, hl, hn⟩ := h
  exact ⟨A, c, e, hc, hl, hn.keep hb⟩
theorem Limbs.num {w : World} {v : Value} {n : Nat} (h : N32 w v n) (hl : (dig B32 n).length ≤ 1000000000000) : Limbs w v (dig B32 n) := by
  obtain ⟨A, c, e, hc, hn⟩ := h
  exact ⟨A, c, e, hc, hl, hn⟩
theorem Limbs.is {w : World} {v : Value} {n : Nat} (h : Limbs w v (dig B32 n)) : N32 w v n := by
  obtain ⟨A, c, e, hc, _, hn⟩ := h
  exact ⟨A, c, e, hc, hn⟩

theorem nats1 {w : World} {v : Value} {xs : List Nat} (h : Limbs w v xs) : NatsAt (w.alloc (.cells #[v] 57)) w.heap.size [(v, xs)] := by
  refine ⟨by simp, fun i p hp => ?_⟩
  obtain ⟨A, c, e, hc, hl, hn⟩ := h.keep (below_new w (.cells #[v] 57))
  have hi := (List.getElem?_eq_some_iff.1 hp).1
  obtain rfl : i = 0 := by simpa using hi
  injection hp with hp
  subst hp
  exact ⟨by simp, A, c, e, hl, hn⟩
theorem nats2 {w : World} {v v' : Value} {xs xs' : List Nat} (h : Limbs w v xs) (h' : Limbs w v' xs') : NatsAt (w.alloc (.cells #[v, v'] 57)) w.heap.size [(v, xs), (v', xs')] := by
  refine ⟨by simp, fun i p hp => ?_⟩
  obtain ⟨A, c, e, hc, hl, hn⟩ := h.keep (below_new w (.cells #[v, v'] 57))
  obtain ⟨A', c', e', hc', hl', hn'⟩ := h'.keep (below_new w (.cells #[v, v'] 57))
  have hi := (List.getElem?_eq_some_iff.1 hp).1
  have : i = 0 ∨ i = 1 := by simp at hi; omega
  rcases this with rfl | rfl
  · injection hp with hp
    subst hp
    exact ⟨by simp, A, c, e, hl, hn⟩
  · injection hp with hp
    subst hp
    exact ⟨by simp, A', c', e', hl', hn'⟩

/-- The first fault of two. -/
def chk2 (xs ys : List Nat) : Int := if chk xs = 0 then chk ys else chk xs
theorem chkAll2 (v v' : Value) (xs ys : List Nat) : chkAll [(v, xs), (v', ys)] = chk2 xs ys := by
  simp only [chkAll, chk2]
  split
  · split
    · rename_i h; exact h.symm
    · rfl
  · rfl
theorem chkAll1 (v : Value) (xs : List Nat) : chkAll [(v, xs)] = chk xs := by
  simp only [chkAll]
  split
  · rename_i h; exact h.symm
  · rfl

set_option maxHeartbeats 1000000 in
set_option maxRecDepth 100000 in
theorem mul_bad (a b : Value) (xs ys : List Nat) (w : World) (ha : Limbs w a xs) (hb : Limbs w b ys) (h0 : chk2 xs ys ≠ 0) : Calls Tryz.prog 87 #[a, b] w (NatErr w (chk2 xs ys)) := by
  have hc := checkAll_any w.heap.size 2 2 _ _ (nats2 ha hb) rfl (by omega)
  rw [chkAll2] at hc
  generalize chk2 xs ys = r at *
  have hbA := below_new w (.cells #[a, b] 57)
  have hq : (r != 0) = true := by simp [h0]
  have HC := Lib.hid hc
  have H0 := Lib.hid h0
  obtain ⟨A, c, rfl, _⟩ := ha
  obtain ⟨A', c', rfl, _⟩ := hb
  clear hc h0
  generalize xs.length = L at *
  generalize ys.length = L' at *
  go_enter Tryz.func87, Tryz.ntmps87
  go_wp2_with (go_at_call 88; refine HC.out.mono ?_; rintro e w1 ⟨rfl, rfl⟩)
  go_ret2
  exact ⟨rfl, hbA⟩

theorem words_le {n K : Nat} (h : (dig B32 n).length ≤ 2 * K) : (dig B64 n).length ≤ K := by
  have := words_of_limbs n
  unfold B64 B32 at *
  omega

set_option maxHeartbeats 1000000 in
set_option maxRecDepth 100000 in
theorem mul_at {N : Nat} (a b : Value) (m n : Nat) (w : World) (HM : MulAt m n) (hN : N ≤ 1000000000) (ha : N32 w a m) (hb : N32 w b n) (hm : (dig B32 m).length ≤ 262144) (hn : (dig B32 n).length ≤ 262144)
    (hmN : (dig B32 m).length ≤ 2 * N) (hnN : (dig B32 n).length ≤ 2 * N) (hp : nbits (m * n) ≤ 8388608) : Calls Tryz.prog 87 #[a, b] w (NatOk w (m * n)) := by
  have hc := checkAll_any w.heap.size 2 2 _ _ (nats2 (Limbs.num ha (by omega)) (Limbs.num hb (by omega))) rfl (by omega)
  rw [chkAll2, chk2, if_pos (chk_dig hm), chk_dig hn] at hc
  have hbA := below_new w (.cells #[a, b] 57)
  have ha1 := ha.keep hbA
  have hb1 := hb.keep hbA
  have hf1 := fun w' (h : N32 w' a m) => fromNat_any a m w' h (by omega)
  have hf2 := fun w' (h : N32 w' b n) => fromNat_any b n w' h (by omega)
  have hpr := fun v u w' (h : W64 w' v m) (k : W64 w' u n) => product_at v u m n w' HM hN h k (words_le hmN) (words_le hnN) hp
  have HC := Lib.hid hc
  have HA := Lib.hid ha1
  have HB := Lib.hid hb1
  have HF1 := Lib.hid hf1
  have HF2 := Lib.hid hf2
  have HP := Lib.hid hpr
  obtain ⟨A, c, rfl, _⟩ := ha
  obtain ⟨A', c', rfl, _⟩ := hb
  clear hc ha1 hb1 hf1 hf2 hpr HM hp
  generalize (dig B32 m).length = L at *
  generalize (dig B32 n).length = L' at *
  go_enter Tryz.func87, Tryz.ntmps87
  go_wp2_with (go_at_call 88; refine HC.out.mono ?_; rintro e w1 ⟨rfl, rfl⟩)
  go_wp2_with (fail)
  refine (HF1.out _ HA.out).mono ?_
  rintro e w1 ⟨v1, rfl, hv1, hb1⟩
  go_wp2_with (fail)
  refine (HF2.out _ (HB.out.keep hb1)).mono ?_
  rintro e w2 ⟨v2, rfl, hv2, hb2⟩
  go_wp2_with (fail)
  refine (HP.out _ _ _ (hv1.is.keep hb2) hv2.is).mono ?_
  rintro e w3 ⟨v3, rfl, hv3, hb3⟩
  go_wp2
  go_ret2
  have b1 := below_at hbA (Nat.le_refl _) hb1
  have b2 := below_at b1 (Nat.le_refl _) hb2
  exact ⟨_, rfl, hv3.mono b2.size, below_at b2 (Nat.le_refl _) hb3⟩

theorem mul_ok {N : Nat} (HM : MulSpec N) (hN : N ≤ 1000000000) (a b : Value) (m n : Nat) (w : World) (ha : N32 w a m) (hb : N32 w b n) (hm : (dig B32 m).length ≤ 262144) (hn : (dig B32 n).length ≤ 262144)
    (hmN : (dig B32 m).length ≤ 2 * N) (hnN : (dig B32 n).length ≤ 2 * N) (hp : nbits (m * n) ≤ 8388608) : Calls Tryz.prog 87 #[a, b] w (NatOk w (m * n)) :=
  mul_at a b m n w (fun a b w ha hb => HM a b m n w ha hb (words_le hmN) (words_le hnN)) hN ha hb hm hn hmN hnN hp
end Go.Proofs.YthgekjkgfccnaaaGreat

namespace Go.Proofs.YthgekjkgfccnaaaGreat
open Go.RowKit Num

/-- z[off ..] without x: what subFrom leaves. -/
def SubPost (zs xs : List Nat) (g off n : Nat) (w : World) (e : Ending) (w' : World) : Prop :=
  ∃ zs' c, e = .returned (.tuple #[]) ∧ SubSt B64 zs xs off n zs' c ∧ Row .u64 67 w' g zs' ∧ w.grownBy w' (some g)

set_option maxHeartbeats 1000000 in
theorem subFrom_any (g off n c d L : Nat) (zs xs : List Nat) (A : Option Addr) (w : World) (hr : Row .u64 67 w g zs) (hz : Low B64 zs) (hn : off + n ≤ zs.length) (hA : Nums .u64 w A xs) (hx : Low B64 xs)
    (hAg : 0 < xs.length → ∀ a, A = some a → a.block ≠ g) (hL : L = xs.length) (hle : L ≤ n) (hbig : n ≤ 1000000000000) :
    Calls Tryz.prog 144 #[.slice (some ⟨g, off, none⟩) n c, .slice A L d] w (SubPost zs xs g off n w) := by
  have HL := Lib.hid hL
  clear hL
  go_enter Tryz.func144, Tryz.ntmps144
  go_wp2
  go_loopw [4, 10] (fun q t wr => ∃ (k cy : Nat) (zs' : List Nat), k ≤ L ∧ q = .int .u64 (cy : Int) ∧ t = .int .i64 (k : Int) ∧ SubSt B64 zs xs off k zs' cy ∧ Row .u64 67 wr g zs' ∧ w.grownBy wr (some g)) (fun _ t _ => L - (intOf t).toNat)
  case atStart => exact ⟨0, 0, zs, Nat.zero_le _, rfl, rfl, SubSt.start hz, hr, World.grownBy.refl w _⟩
  case round =>
    obtain ⟨k, cy, zs', hk, rfl, rfl, hst, hrow, hgr⟩ := hrel
    by_cases hlt : k < L
    · obtain ⟨q, qo, x, rfl, hq, hxk, hcx⟩ := (hA.grown hAg hgr).at_ (i := k) (by have := HL.out; omega)
      obtain ⟨v, hv⟩ : ∃ v, zs'[off + k]? = some v := ⟨zs'[off + k]'(by have := hst.len; omega), List.getElem?_eq_getElem _⟩
      have hcv := hrow.cell hv
      have hfv := hrow.frozen (off + k)
      have hvl : v < B64 := by have := hst.low v (List.mem_of_getElem? hv); exact this
      have hxl : x < B64 := hx x (List.mem_of_getElem? hxk)
      obtain ⟨lo, hi, hsub, he, hlo, hhi⟩ := sub64_ex v x cy hvl hxl hst.le
      have hst' := hst.step hv (x := x) (by simp [List.getD_eq_getElem?_getD, hxk]) he hlo hhi
      have hrow' := hrow.set (off + k) lo
      have HE := Lib.hid he
      have HV := Lib.hid hv
      have HX := Lib.hid hxk
      clear he hv hxk hA hvl hxl hlo
      go_wp2
      go_roundw
      case rel => exact ⟨k + 1, hi, _, by omega, rfl, by go_num, hst', hrow', grown_set hgr _ _⟩
      case measure => simp [intOf]; omega
    · have hkL : k = L := by omega
      subst hkL
      clear hlt
      have hxL : xs.length ≤ k := by have := HL.out; omega
      clear hA
      go_wp2
      go_loopw [4, 7] (fun q t wr => ∃ (j cy : Nat) (zs' : List Nat), k ≤ j ∧ j ≤ n ∧ q = .int .u64 (cy : Int) ∧ t = .int .i64 (j : Int) ∧ SubSt B64 zs xs off j zs' cy ∧ Row .u64 67 wr g zs' ∧ w.grownBy wr (some g)) (fun _ t _ => n - (intOf t).toNat)
      case atStart => exact ⟨k, cy, zs', Nat.le_refl _, hle, rfl, rfl, hst, hrow, hgr⟩
      case round =>
        clear hst hrow hgr
        obtain ⟨j, cy, zs', hkj, hjn, rfl, rfl, hst, hrow, hgr⟩ := hrel
        have hcle := hst.le
        by_cases hc0 : cy = 0
        · have hq : ((cy : Int) != 0) = false := by simp [hc0]
          have H0 := Lib.hid hc0
          clear hc0
          go_wp2
          go_end0
          exact ⟨zs', cy, rfl, by have h0 := H0.out; subst h0; exact hst.rest hjn (by omega) hn, hrow, hgr⟩
        · have hq : ((cy : Int) != 0) = true := by simp; omega
          clear hc0
          by_cases hjl : j < n
          · obtain ⟨v, hv⟩ : ∃ v, zs'[off + j]? = some v := ⟨zs'[off + j]'(by have := hst.len; omega), List.getElem?_eq_getElem _⟩
            have hcv := hrow.cell hv
            have hfv := hrow.frozen (off + j)
            have hvl : v < B64 := by have := hst.low v (List.mem_of_getElem? hv); exact this
            obtain ⟨lo, hi, hsub, he, hlo, hhi⟩ := sub64_exm v cy hvl hcle
            have hx0 : xs.getD j 0 = 0 := by simp [List.getD_eq_getElem?_getD, List.getElem?_eq_none (show xs.length ≤ j by omega)]
            have hst' := hst.step hv (x := 0) hx0 (by omega) hlo hhi
            have hrow' := hrow.set (off + j) lo
            have HE := Lib.hid he
            have HV := Lib.hid hv
            clear he hv hvl hlo hx0
            go_wp2
            go_roundw
            case rel => exact ⟨j + 1, hi, _, by omega, by omega, rfl, by go_num, hst', hrow', grown_set hgr _ _⟩
            case measure => simp [intOf]; omega
          · have hjn' : j = n := by omega
            subst hjn'
            go_wp2
            go_end0
            exact ⟨zs', cy, rfl, hst, hrow, hgr⟩

theorem sub_fin {b L c : Nat} {xs ys zs' : List Nat} (hb : 2 ≤ b) (hL : xs.length = L) (hL' : ys.length ≤ L) (hy : Low b ys) (hle : val b ys ≤ val b xs)
    (h : SubSt b (lay (List.replicate L 0) 0 xs) ys 0 L zs' c) : val b zs' = val b xs - val b ys := by
  have hlen : (lay (List.replicate L 0) 0 xs).length = L := by rw [lay_len (by simp; omega)]; simp
  have e := h.eq
  have l' : zs'.length = L := h.len.trans hlen
  rw [seg0 l', seg0 hlen, val_lay0, List.take_of_length_le (by omega)] at e
  have h1 := val_lt b zs' h.low
  rw [l'] at h1
  have h5 : c = 0 := by
    rcases Nat.eq_zero_or_pos c with h0 | h0
    · exact h0
    · have : b ^ L * 1 ≤ b ^ L * c := Nat.mul_le_mul_left _ h0
      have h2 := val_lt b ys hy
      have h3 : b ^ ys.length ≤ b ^ L := Nat.pow_le_pow_right (by omega) hL'
      omega
  subst h5
  simp at e
  omega

set_option maxHeartbeats 1000000 in
set_option maxRecDepth 100000 in
theorem diff_core (A A' : Option Addr) (c c' L L' : Nat) (xs ys : List Nat) (w : World) (hA : Nums .u64 w A xs) (hA' : Nums .u64 w A' ys) (hx : Low B64 xs) (hy : Low B64 ys)
    (hL : L = xs.length) (hL' : L' = ys.length) (hle : L' ≤ L) (hbig : L ≤ 100000000000) (hval : val B64 ys ≤ val B64 xs) :
    Calls Tryz.prog 141 #[.slice A L c, .slice A' L' c'] w (SumPost w (val B64 xs - val B64 ys)) := by
  have hmk := make64 L (by omega)
  have hr0 := Row.made w .u64 L 67
  have hbA : Below w.heap.size w (w.alloc (.cells (madeCells #[.int .u64 0] L) 67)) := (Below.refl _ _).alloc (Nat.le_refl _) _
  have hA0 := hA.keep hbA
  have hlow0 : Low B64 (lay (List.replicate L 0) 0 xs) := lay_low (Low.replicate b64_pos _) hx
  have hlen0 : (lay (List.replicate L 0) 0 xs).length = L := by rw [lay_len (by simp; omega)]; simp
  have hne : 0 < ys.length → ∀ a, A' = some a → a.block ≠ w.heap.size := nums_ne hA' (Nat.le_refl _)
  have hlen1 : 0 + L ≤ (lay (List.replicate L 0) 0 xs).length := by rw [hlen0]; omega
  have HL := Lib.hid hL
  have HL' := Lib.hid hL'
  have HN := Lib.hid hlen0
  have HNE := Lib.hid hne
  have HR0 := Lib.hid hr0
  have HV := Lib.hid hval
  clear hL hL' hlen0 hne hr0 hval
  go_enter Tryz.func141, Tryz.ntmps141
  go_wp2_with (first
    | (refine wpList_copy_row rfl (.tmp 9) (.tmp 10) rfl _ _ _ _ _ _ rfl rfl _ 0 _ _ HR0.out hA0 HL.out (by omega) (fun _ => rfl) (by simp) ?_
       intro w1 hr1 hg1
       have hb1 : Below w.heap.size w w1 := hbA.grown hg1 hbA.size (by simp))
    | (go_at_call 144
       refine (subFrom_any w.heap.size 0 L L c' L' _ ys A' _ (by assumption) hlow0 hlen1 (hA'.keep (by assumption)) hy HNE.out HL'.out (by omega) (by omega)).mono ?_
       rintro e w2 ⟨zs', cy, rfl, hst, hr2, hg2⟩
       have hb2 : Below w.heap.size w w2 := hb1.grown hg2 hb1.size (by simp)
       have hl2 : zs'.length = L := hst.len.trans HN.out
       have hn2 : Nums .u64 w2 (some ⟨w.heap.size, 0, none⟩) zs' := by have := hr2.nums0 zs'.length; rwa [List.take_length] at this
       have HL2 := Lib.hid hl2
       clear hl2)
    | (go_at_call 93
       refine (trim_any _ L L zs' _ (by assumption) hst.low HL2.out.symm (Nat.le_refl _) (by omega)).mono ?_
       rintro e w3 ⟨rfl, rfl⟩))
  go_ret
  have hv := sub_fin b64_two HL.out.symm (by rw [← HL'.out]; exact hle) hy HV.out hst
  rw [← hv]
  refine ⟨_, rfl, ?_, hb2⟩
  have := own_of_trim b64_two hr2 hst.low (Nat.le_refl w.heap.size)
  rw [HL2.out] at this
  exact this

/-- difference, of two numbers. -/
theorem diff_any (a b : Value) (m n : Nat) (w : World) (ha : W64 w a m) (hb : W64 w b n) (hm : (dig B64 m).length ≤ 100000000000) (hle : n ≤ m) :
    Calls Tryz.prog 141 #[a, b] w (SumPost w (m - n)) := by
  obtain ⟨A, c, rfl, _, hA⟩ := ha
  obtain ⟨A', c', rfl, _, hA'⟩ := hb
  have em := val_dig b64_two m
  have en := val_dig b64_two n
  have hlen : (dig B64 n).length ≤ (dig B64 m).length := dig_len_le b64_two (Nat.lt_of_le_of_lt hle (dig_len_lt b64_two))
  have := diff_core A A' c c' _ _ _ _ w hA hA' (dig_low64 m) (dig_low64 n) rfl rfl hlen hm (by rw [em, en]; exact hle)
  rw [em, en] at this
  exact this

end Go.Proofs.YthgekjkgfccnaaaGreat

namespace Go.Proofs.YthgekjkgfccnaaaGreat
open Go.RowKit Num

/-- Two plain results; nothing that was there has turned. -/
def Two (w : World) (a b : Value) (e : Ending) (w' : World) : Prop := e = .returned (.tuple #[a, b]) ∧ Below w.heap.size w w'

set_option maxHeartbeats 1000000 in
set_option maxRecDepth 100000 in
theorem cmp_bad (a b : Value) (xs ys : List Nat) (w : World) (ha : Limbs w a xs) (hb : Limbs w b ys) (h0 : chk2 xs ys ≠ 0) : Calls Tryz.prog 72 #[a, b] w (Two w (.int .i64 0) (.int .i64 (chk2 xs ys))) := by
  have hc := checkAll_any w.heap.size 2 2 _ _ (nats2 ha hb) rfl (by omega)
  rw [chkAll2] at hc
  generalize chk2 xs ys = r at *
  have hbA := below_new w (.cells #[a, b] 57)
  have hq : (r != 0) = true := by simp [h0]
  have HC := Lib.hid hc
  have H0 := Lib.hid h0
  obtain ⟨A, c, rfl, _⟩ := ha
  obtain ⟨A', c', rfl, _⟩ := hb
  clear hc h0
  generalize xs.length = L at *
  generalize ys.length = L' at *
  go_enter Tryz.func72, Tryz.ntmps72
  go_wp2_with (go_at_call 88; refine HC.out.mono ?_; rintro e w1 ⟨rfl, rfl⟩)
  go_ret2
  exact ⟨rfl, hbA⟩

set_option maxHeartbeats 1000000 in
set_option maxRecDepth 100000 in
theorem cmp_ok (a b : Value) (m n : Nat) (w : World) (ha : N32 w a m) (hb : N32 w b n) (hm : (dig B32 m).length ≤ 262144) (hn : (dig B32 n).length ≤ 262144) : Calls Tryz.prog 72 #[a, b] w (Two w (.int .i64 (cmpN m n)) (.int .i64 0)) := by
  have hc := checkAll_any w.heap.size 2 2 _ _ (nats2 (Limbs.num ha (by omega)) (Limbs.num hb (by omega))) rfl (by omega)
  rw [chkAll2, chk2, if_pos (chk_dig hm), chk_dig hn] at hc
  have hbA := below_new w (.cells #[a, b] 57)
  have hcmp : ∀ w', N32 w' a m → N32 w' b n → Calls Tryz.prog 97 #[a, b] w' fun e w'' => e = .returned (.int .i64 (cmpN m n)) ∧ Below w'.heap.size w' w'' := fun w' h k => by
    obtain ⟨A, c, rfl, _, hA⟩ := h
    obtain ⟨A', c', rfl, _, hA'⟩ := k
    exact compare85 A A' c c' _ _ m n w' hA hA' rfl rfl (by omega) (by omega)
  have hc2 := hcmp _ (ha.keep hbA) (hb.keep hbA)
  generalize cmpN m n = r at *
  have HC := Lib.hid hc
  have HP := Lib.hid hc2
  obtain ⟨A, c, rfl, _⟩ := ha
  obtain ⟨A', c', rfl, _⟩ := hb
  clear hc hc2 hcmp
  generalize (dig B32 m).length = L at *
  generalize (dig B32 n).length = L' at *
  go_enter Tryz.func72, Tryz.ntmps72
  go_wp2_with (first
    | (go_at_call 88; refine HC.out.mono ?_; rintro e w1 ⟨rfl, rfl⟩)
    | (go_at_call 97; refine HP.out.mono ?_; rintro e w2 ⟨rfl, hb2⟩))
  go_ret2
  exact ⟨rfl, below_at hbA (Nat.le_refl _) hb2⟩
end Go.Proofs.YthgekjkgfccnaaaGreat

namespace Go.Proofs.YthgekjkgfccnaaaGreat
open Go.RowKit Num

end Go.Proofs.YthgekjkgfccnaaaGreat

namespace Go.Proofs.YthgekjkgfccnaaaGreat
open Go.RowKit Num

theorem small32 {k : Nat} (hk : k < B32) : (dig B32 k).length ≤ 1 := dig_len_le b32_two (by simpa using hk)
theorem small64 {k : Nat} (hk : k < B64) : (dig B64 k).length ≤ 1 := dig_len_le b64_two (by simpa using hk)
theorem dig1 {b k : Nat} (hb : 2 ≤ b) (h0 : k ≠ 0) (hk : k < b) : dig b k = [k] := by
  rw [dig_pos hb h0, Nat.mod_eq_of_lt hk, Nat.div_eq_of_lt hk, dig_zero]

/-- A row of limbs that has just been made reads as a number. -/
theorem new_limbs (w : World) (xs : List Nat) (hl : xs.length ≤ 1000000000000) : Limbs (w.alloc (.cells (ints .u32 xs).toArray 106)) (.slice (some ⟨w.heap.size, 0, none⟩) xs.length xs.length) xs := by
  have hr : Row .u32 106 (w.alloc (.cells (ints .u32 xs).toArray 106)) w.heap.size xs := Row.of_heap (heap_alloc_new _ _)
  refine ⟨_, _, rfl, Nat.le_refl _, hl, ?_⟩
  have := hr.nums0 xs.length
  rwa [List.take_length] at this

def LivesPost (w : World) (e : Ending) (w' : World) : Prop := e = .returned (.bool true) ∧ Below w.heap.size w w'

theorem dig_ff : dig B32 4294967295 = [4294967295] := dig1 b32_two (by omega) (by unfold B32; omega)
theorem dig_sq : dig B32 (4294967295 * 4294967295) = [1, 4294967294] := by
  refine dig_of b32_two (Low.cons (by unfold B32; omega) (Low.cons (by unfold B32; omega) (Low.nil _))) ?_ ?_
  · exact .inr ⟨[1], 4294967294, rfl, by omega⟩
  · simp [val, B32]
theorem nbits_sq : nbits (4294967295 * 4294967295) ≤ 8388608 := Nat.le_trans (nbits_le (k := 64) (by omega)) (by omega)

end Go.Proofs.YthgekjkgfccnaaaGreat

namespace Go.Proofs.YthgekjkgfccnaaaGreat
open Go.RowKit Num

/-- Limbs of the call's own. -/
def OwnLs (B : Nat) (w : World) (v : Value) (ys : List Nat) : Prop := w.ownsRow B 106 1 v ys.length (ints .u32 ys)
theorem OwnLs.limbs {B : Nat} {w : World} {v : Value} {ys : List Nat} (h : OwnLs B w v ys) (hl : ys.length ≤ 1000000000000) : Limbs w v ys := by
  obtain ⟨A, c, e, hc, hn⟩ := own_reads h
  exact ⟨A, c, e, hc, hl, hn⟩
def LsPost (w : World) (ys : List Nat) (e : Ending) (w' : World) : Prop := ∃ v, e = .returned v ∧ OwnLs w.heap.size w' v ys ∧ Below w.heap.size w w'

theorem nums_cells {k : IntKind} {w : World} {ad : Addr} {xs : List Nat} (h : Nums k w (some ad) xs) : ∀ (j : Nat) (u : Value), (ints k xs)[j]? = some u → w.cell? (ad.add j) = some u := by
  intro j u hu
  simp only [ints, List.getElem?_map, Option.map_eq_some_iff] at hu
  obtain ⟨x, hx, rfl⟩ := hu
  obtain ⟨g, off, e, _, hc⟩ := h (by have := (List.getElem?_eq_some_iff.1 hx).1; omega)
  injection e with e
  subst e
  have := hc j x hx
  unfold Addr.add
  split
  · rename_i h0; subst h0; exact this
  · exact this
theorem ints_one (k : IntKind) (xs : List Nat) : ∀ u ∈ ints k xs, u.oneCell' = true := by
  intro u hu
  simp only [ints, List.mem_map] at hu
  obtain ⟨x, _, rfl⟩ := hu
  rfl

end Go.Proofs.YthgekjkgfccnaaaGreat

namespace Go.Proofs.YthgekjkgfccnaaaGreat
open Go.RowKit Num

def Ret2 (w : World) (a b : Value) (e : Ending) (w' : World) : Prop := e = .returned (.tuple #[a, b]) ∧ Below w.heap.size w w'

set_option maxHeartbeats 1000000 in
set_option maxRecDepth 100000 in
theorem uint64_bad (a : Value) (xs : List Nat) (w : World) (ha : Limbs w a xs) (h0 : chk xs ≠ 0) : Calls Tryz.prog 69 #[a] w (Ret2 w (.int .u64 0) (.int .i64 (chk xs))) := by
  have hc := checkAll_any w.heap.size 1 1 _ _ (nats1 ha) rfl (by omega)
  rw [chkAll1] at hc
  generalize chk xs = r at *
  have hbA := below_new w (.cells #[a] 57)
  have hq : (r != 0) = true := by simp [h0]
  have HC := Lib.hid hc
  have H0 := Lib.hid h0
  obtain ⟨A, c, rfl, _⟩ := ha
  clear hc h0
  generalize xs.length = L at *
  go_enter Tryz.func69, Tryz.ntmps69
  go_wp2_with (go_at_call 88; refine HC.out.mono ?_; rintro e w1 ⟨rfl, rfl⟩)
  go_ret2
  exact ⟨rfl, hbA⟩

set_option maxHeartbeats 1000000 in
set_option maxRecDepth 100000 in
theorem uint64_range (a : Value) (n : Nat) (w : World) (ha : N32 w a n) (hl : (dig B32 n).length ≤ 262144) (h2 : 2 < (dig B32 n).length) : Calls Tryz.prog 69 #[a] w (Ret2 w (.int .u64 0) (.int .i64 5)) := by
  have hc := checkAll_any w.heap.size 1 1 _ _ (nats1 (Limbs.num ha (by omega))) rfl (by omega)
  rw [chkAll1, chk_dig hl] at hc
  have hbA := below_new w (.cells #[a] 57)
  have HC := Lib.hid hc
  obtain ⟨A, c, rfl, _⟩ := ha
  clear hc
  generalize (dig B32 n).length = L at *
  go_enter Tryz.func69, Tryz.ntmps69
  go_wp2_with (go_at_call 88; refine HC.out.mono ?_; rintro e w1 ⟨rfl, rfl⟩)
  go_ret2
  exact ⟨rfl, hbA⟩

set_option maxHeartbeats 1000000 in
set_option maxRecDepth 100000 in
theorem uint64_ok (a : Value) (n : Nat) (w : World) (ha : N32 w a n) (hl : (dig B32 n).length ≤ 2) : Calls Tryz.prog 69 #[a] w (Ret2 w (.int .u64 (n : Nat)) (.int .i64 0)) := by
  have hc := checkAll_any w.heap.size 1 1 _ _ (nats1 (Limbs.num ha (by omega))) rfl (by omega)
  rw [chkAll1, chk_dig (by omega)] at hc
  have hbA := below_new w (.cells #[a] 57)
  have hf := fromNat_any a n _ (ha.keep hbA) (by omega)
  have hlt : n < B64 := by
    have h1 := dig_len_lt b32_two (n := n)
    have h2 := Nat.pow_le_pow_right b32_pos hl
    have : B32 ^ 2 = B64 := by decide
    omega
  have hwin : ∀ v w', W64 w' v n → Calls Tryz.prog 92 #[v, .int .i64 0] w' fun e w'' => e = .returned (.int .u64 (n : Nat)) ∧ w' = w'' := fun v w' h => by
    obtain ⟨A, c, rfl, _, hA⟩ := h
    have := window_any A c _ n 0 w' hA rfl (Nat.le_trans (words_le (K := 1) (by omega)) (by omega)) (by omega)
    rw [Nat.pow_zero, Nat.div_one, Nat.mod_eq_of_lt hlt] at this
    exact this
  have HC := Lib.hid hc
  have HF := Lib.hid hf
  have HW := Lib.hid hwin
  obtain ⟨A, c, rfl, _⟩ := ha
  clear hc hf hwin hlt
  generalize (dig B32 n).length = L at *
  go_enter Tryz.func69, Tryz.ntmps69
  go_wp2_with (first
    | (go_at_call 88; refine HC.out.mono ?_; rintro e w1 ⟨rfl, rfl⟩)
    | (go_at_call 90; refine HF.out.mono ?_; rintro e w1 ⟨v1, rfl, hv1, hb1⟩)
    | (go_at_call 92; refine (HW.out _ _ hv1.is).mono ?_; rintro e w2 ⟨rfl, rfl⟩))
  go_ret2
  exact ⟨rfl, below_at hbA (Nat.le_refl _) hb1⟩
end Go.Proofs.YthgekjkgfccnaaaGreat
