/- Plain laws: shifts of a number in words. -/
import Derived.Test.YtaegkhdkhgemmaaMulLaws
import Derived.Test.YtaegkhdkhgemmaaWinLaws
namespace Go.Proofs.Num

theorem val_of_digits {b : Nat} (hb : 2 ≤ b) {zs : List Nat} {q : Nat} (h : ∀ (i v : Nat), zs[i]? = some v → v = q / b ^ i % b) (hq : q < b ^ zs.length) : val b zs = q := by
  induction zs generalizing q with
  | nil => simp at hq; subst hq; rfl
  | cons x zs ih =>
    have hx := h 0 x rfl
    simp only [Nat.pow_zero, Nat.div_one] at hx
    have h2 : val b zs = q / b := ih (fun i v hv => by
      have := h (i + 1) v (by simpa using hv)
      rw [Nat.pow_succ, Nat.mul_comm, ← Nat.div_div_eq_div_mul] at this
      exact this) (by rw [Nat.div_lt_iff_lt_mul (by omega), ← Nat.pow_succ]; exact hq)
    rw [val, h2, hx]
    exact Nat.mod_add_div q b

/-- The first k words of q. -/
structure ShrSt (b q K k : Nat) (zs : List Nat) : Prop where
  len : zs.length = K
  low : Low b zs
  eq : ∀ (i v : Nat), i < k → zs[i]? = some v → v = q / b ^ i % b
theorem ShrSt.start {b : Nat} (hb : 2 ≤ b) (q K : Nat) : ShrSt b q K 0 (List.replicate K 0) := ⟨by simp, Low.replicate (by omega) _, fun i v h => absurd h (by omega)⟩
theorem ShrSt.step {b q K k v : Nat} {zs : List Nat} (hb : 2 ≤ b) (h : ShrSt b q K k zs) (hv : v = q / b ^ k % b) : ShrSt b q K (k + 1) (zs.set k v) := by
  refine ⟨by rw [List.length_set]; exact h.len, h.low.set (by rw [hv]; exact Nat.mod_lt _ (by omega)), fun i u hi hu => ?_⟩
  rw [List.getElem?_set] at hu
  split at hu
  · rename_i e
    subst e
    split at hu
    · injection hu with hu; rw [← hu]; exact hv
    · cases hu
  · exact h.eq i u (by omega) hu
theorem ShrSt.fin {b q K : Nat} {zs : List Nat} (hb : 2 ≤ b) (h : ShrSt b q K K zs) (hq : q < b ^ K) : val b zs = q := by
  refine val_of_digits hb (fun i v hv => ?_) (by rw [h.len]; exact hq)
  exact h.eq i v (by have := (List.getElem?_eq_some_iff.1 hv).1; rw [h.len] at this; exact this) hv

/-- i words of xs have been shifted to the left by w words and s bits. -/
structure ShlSt (xs : List Nat) (w s i : Nat) (zs : List Nat) : Prop where
  len : zs.length = xs.length + w + 1
  low : Low 18446744073709551616 zs
  zero : ∀ (j v : Nat), w + i < j → zs[j]? = some v → v = 0
  head : ∀ v, zs[w + i]? = some v → v < 2 ^ s
  eq : val 18446744073709551616 zs = val 18446744073709551616 (xs.take i) * 2 ^ (64 * w + s)
theorem ShlSt.start (xs : List Nat) (w s : Nat) : ShlSt xs w s 0 (List.replicate (xs.length + w + 1) 0) :=
  ⟨by simp, Low.replicate (by omega) _, fun j v _ hv => List.eq_of_mem_replicate (List.mem_of_getElem? hv), fun v hv => by rw [List.eq_of_mem_replicate (List.mem_of_getElem? hv)]; exact Nat.two_pow_pos s,
    by rw [val_replicate]; simp [val]⟩

theorem shl_mod (v s : Nat) (hs : s < 64) : v * 2 ^ s % 18446744073709551616 = 2 ^ s * (v % 2 ^ (64 - s)) := by
  have e2 : (18446744073709551616 : Nat) = 2 ^ s * 2 ^ (64 - s) := by rw [← Nat.pow_add, show s + (64 - s) = 64 by omega]
  rw [Nat.mul_comm v, e2, Nat.mul_mod_mul_left]
theorem shl_div (v s : Nat) (hs : s < 64) : v * 2 ^ s / 18446744073709551616 = v / 2 ^ (64 - s) := by
  have e2 : (18446744073709551616 : Nat) = 2 ^ s * 2 ^ (64 - s) := by rw [← Nat.pow_add, show s + (64 - s) = 64 by omega]
  rw [Nat.mul_comm v, e2, Nat.mul_div_mul_left _ _ (Nat.two_pow_pos s)]
theorem or_shl (o v s : Nat) (ho : o < 2 ^ s) (hs : s < 64) : bits .or .u64 (o : Int) (IntKind.u64.wrap ((v : Int) * 2 ^ s)) = ((o + v * 2 ^ s % 18446744073709551616 : Nat) : Int) := by
  have c2 : IntKind.u64.wrap ((v : Int) * 2 ^ s) = ((v * 2 ^ s % 18446744073709551616 : Nat) : Int) := by
    rw [IntKind.wrap_u64, Int.natCast_emod, Int.natCast_mul, Int.natCast_pow]; rfl
  have h1 : 2 ^ s ≤ 2 ^ 63 := Nat.pow_le_pow_right (by omega) (by omega)
  rw [c2, bits_or_u64_nat _ _ (by omega) (Nat.mod_lt _ (by omega)), shl_mod v s hs, Nat.or_comm, ← Nat.two_pow_add_eq_or_of_lt ho, Nat.add_comm]
theorem or_shl_lt (o v s : Nat) (ho : o < 2 ^ s) (hs : s < 64) : o + v * 2 ^ s % 18446744073709551616 < 18446744073709551616 := by
  have e2 : (18446744073709551616 : Nat) = 2 ^ s * 2 ^ (64 - s) := by rw [← Nat.pow_add, show s + (64 - s) = 64 by omega]
  rw [shl_mod v s hs]
  have h1 : v % 2 ^ (64 - s) < 2 ^ (64 - s) := Nat.mod_lt _ (Nat.two_pow_pos _)
  have h2 : 2 ^ s * (v % 2 ^ (64 - s) + 1) ≤ 2 ^ s * 2 ^ (64 - s) := Nat.mul_le_mul_left _ h1
  rw [← e2, Nat.mul_add] at h2
  omega

theorem ShlSt.step {xs zs : List Nat} {w s i v o : Nat} (hs : s < 64) (h : ShlSt xs w s i zs) (hi : i < xs.length) (hv : xs[i]? = some v) (hvl : v < 18446744073709551616) (ho : zs[w + i]? = some o) :
    ShlSt xs w s (i + 1) ((zs.set (w + i) (o + v * 2 ^ s % 18446744073709551616)).set (w + i + 1) (v / 2 ^ (64 - s))) := by
  have hl := h.len
  have ho' := h.head o ho
  have hlt : v / 2 ^ (64 - s) < 2 ^ s := by
    rw [Nat.div_lt_iff_lt_mul (Nat.two_pow_pos _), ← Nat.pow_add, show s + (64 - s) = 64 by omega]; exact hvl
  have h63 : 2 ^ s ≤ 2 ^ 63 := Nat.pow_le_pow_right (by omega) (by omega)
  refine ⟨by simp only [List.length_set]; exact hl, (h.low.set (or_shl_lt o v s ho' hs)).set (by omega), fun j u hj hu => ?_, fun u hu => ?_, ?_⟩
  · rw [List.getElem?_set, if_neg (by omega), List.getElem?_set, if_neg (by omega)] at hu
    exact h.zero j u (by omega) hu
  · rw [show w + (i + 1) = w + i + 1 by omega, List.getElem?_set_self (by simp; omega)] at hu
    injection hu with hu
    rw [← hu]; exact hlt
  · have hp := (List.getElem?_eq_some_iff.1 ho)
    obtain ⟨z, hz⟩ : ∃ z, zs[w + i + 1]? = some z := ⟨zs[w + i + 1]'(by omega), List.getElem?_eq_getElem _⟩
    have hz0 := h.zero _ z (by omega) hz
    have s1 := val_set 18446744073709551616 zs (w + i) (o + v * 2 ^ s % 18446744073709551616) hp.1
    have s2 := val_set 18446744073709551616 (zs.set (w + i) (o + v * 2 ^ s % 18446744073709551616)) (w + i + 1) (v / 2 ^ (64 - s)) (by simp; omega)
    have g2 : (zs.set (w + i) (o + v * 2 ^ s % 18446744073709551616))[w + i + 1]'(by simp; omega) = 0 := by
      rw [List.getElem_set, if_neg (by omega)]
      have := (List.getElem?_eq_some_iff.1 hz).2
      rw [this]; exact hz0
    rw [hp.2] at s1
    rw [g2] at s2
    have ht : val 18446744073709551616 (xs.take (i + 1)) = val 18446744073709551616 (xs.take i) + 18446744073709551616 ^ i * v := by
      rw [val_take_succ _ xs i hi, (List.getElem?_eq_some_iff.1 hv).2]
    have e1 := h.eq
    have e3 := Nat.mod_add_div (v * 2 ^ s) 18446744073709551616
    rw [shl_div v s hs] at e3
    rw [ht, Nat.add_mul, ← e1]
    have e4 : 18446744073709551616 ^ i * v * 2 ^ (64 * w + s) = 18446744073709551616 ^ (w + i) * (v * 2 ^ s) := by
      have : (2 : Nat) ^ (64 * w + s) = 18446744073709551616 ^ w * 2 ^ s := by rw [Nat.pow_add, Nat.pow_mul]
      rw [this, Nat.pow_add]
      generalize (18446744073709551616 : Nat) ^ i = x
      generalize (18446744073709551616 : Nat) ^ w = y
      generalize (2 : Nat) ^ s = z
      grind
    rw [e4]
    rw [Nat.pow_succ] at s2
    clear e1 e4 ht ho' h hv ho hz g2 hp
    generalize (18446744073709551616 : Nat) ^ (w + i) = x at *
    generalize v * 2 ^ s % 18446744073709551616 = y at *
    generalize v / 2 ^ (64 - s) = z at *
    generalize v * 2 ^ s = t at *
    rw [← e3, Nat.mul_add]
    rw [Nat.mul_add] at s1
    rw [Nat.mul_assoc x _ z] at s2
    generalize val 18446744073709551616 ((zs.set (w + i) (o + y)).set (w + i + 1) z) = v2 at *
    generalize val 18446744073709551616 (zs.set (w + i) (o + y)) = v1 at *
    omega
end Go.Proofs.Num
namespace Go.Proofs.Num
/-- i limbs of xs have been packed into words. -/
structure PackSt (xs : List Nat) (K i : Nat) (zs : List Nat) : Prop where
  len : zs.length = K
  low : Low 18446744073709551616 zs
  zero : ∀ (j v : Nat), i < 2 * j + 1 → zs[j]? = some v → v = 0
  head : ∀ v, zs[i / 2]? = some v → v < 2 ^ (i % 2 * 32)
  eq : val 18446744073709551616 zs = val 4294967296 (xs.take i)
theorem PackSt.start (xs : List Nat) (K : Nat) : PackSt xs K 0 (List.replicate K 0) :=
  ⟨by simp, Low.replicate (by omega) _, fun j v _ hv => List.eq_of_mem_replicate (List.mem_of_getElem? hv), fun v hv => by rw [List.eq_of_mem_replicate (List.mem_of_getElem? hv)]; exact Nat.two_pow_pos _,
    by rw [val_replicate]; simp [val]⟩
theorem PackSt.step {xs zs : List Nat} {K i v o : Nat} (h : PackSt xs K i zs) (hv : xs[i]? = some v) (hvl : v < 4294967296) (ho : zs[i / 2]? = some o) :
    PackSt xs K (i + 1) (zs.set (i / 2) (o + v * 2 ^ (i % 2 * 32) % 18446744073709551616)) := by
  have hi := (List.getElem?_eq_some_iff.1 hv).1
  have hp := List.getElem?_eq_some_iff.1 ho
  have ho' := h.head o ho
  have hs : i % 2 * 32 < 64 := by omega
  have hm : v * 2 ^ (i % 2 * 32) % 18446744073709551616 = v * 2 ^ (i % 2 * 32) := by
    refine Nat.mod_eq_of_lt ?_
    rcases Nat.mod_two_eq_zero_or_one i with e | e <;> rw [e] <;> omega
  have hl := or_shl_lt o v (i % 2 * 32) ho' hs
  rw [hm] at hl ⊢
  refine ⟨by rw [List.length_set]; exact h.len, h.low.set hl, fun j u hj hu => ?_, fun u hu => ?_, ?_⟩
  · rw [List.getElem?_set, if_neg (by omega)] at hu
    exact h.zero j u (by omega) hu
  · rcases Nat.mod_two_eq_zero_or_one i with e | e
    · rw [show (i + 1) / 2 = i / 2 by omega, List.getElem?_set_self hp.1] at hu
      injection hu with hu
      rw [← hu, show (i + 1) % 2 = 1 by omega]
      rw [e] at ho' ⊢
      omega
    · rw [List.getElem?_set, if_neg (by omega)] at hu
      have := h.zero _ u (by omega) hu
      rw [this]; exact Nat.two_pow_pos _
  · have s1 := val_set 18446744073709551616 zs (i / 2) (o + v * 2 ^ (i % 2 * 32)) hp.1
    rw [hp.2] at s1
    have ht : val 4294967296 (xs.take (i + 1)) = val 4294967296 (xs.take i) + 4294967296 ^ i * v := by
      rw [val_take_succ _ xs i hi, (List.getElem?_eq_some_iff.1 hv).2]
    have e4 : 18446744073709551616 ^ (i / 2) * (v * 2 ^ (i % 2 * 32)) = 4294967296 ^ i * v := by
      have a1 : (18446744073709551616 : Nat) ^ (i / 2) = 2 ^ (64 * (i / 2)) := by rw [Nat.pow_mul]
      have a2 : (4294967296 : Nat) ^ i = 2 ^ (32 * i) := by rw [Nat.pow_mul]
      rw [a1, a2, Nat.mul_left_comm, ← Nat.pow_add, Nat.mul_comm v]
      congr 2; omega
    rw [ht, ← h.eq, ← e4]
    rw [Nat.mul_add] at s1
    omega

/-- How many words a number has, out of how many limbs. -/
theorem words_of_limbs (n : Nat) : (dig 18446744073709551616 n).length = ((dig 4294967296 n).length + 1) / 2 := by
  generalize hL : (dig 4294967296 n).length = L
  have h1 := dig_len_lt (b := 4294967296) (n := n) (by omega)
  rw [hL] at h1
  have e : (18446744073709551616 : Nat) = 4294967296 ^ 2 := by decide
  have h2 : (dig 18446744073709551616 n).length ≤ (L + 1) / 2 := by
    refine dig_len_le (by omega) (Nat.lt_of_lt_of_le h1 ?_)
    rw [e, ← Nat.pow_mul]
    exact Nat.pow_le_pow_right (by omega) (by omega)
  rcases Nat.eq_zero_or_pos L with h0 | h0
  · omega
  · have h3 := dig_len_ge (b := 4294967296) (n := n) (by omega) (by omega)
    rw [hL] at h3
    have h4 := dig_len_lt (b := 18446744073709551616) (n := n) (by omega)
    rcases Nat.lt_or_ge (dig 18446744073709551616 n).length ((L + 1) / 2) with h5 | h5
    · exfalso
      rw [e, ← Nat.pow_mul] at h4
      have := Nat.pow_le_pow_right (show 0 < 4294967296 by omega) (show 2 * (dig (4294967296 ^ 2) n).length ≤ L - 1 by rw [← e]; omega)
      omega
    · omega
theorem PackSt.fin {xs zs : List Nat} {K n : Nat} (h : PackSt xs K xs.length zs) (hx : xs = dig 4294967296 n) (hK : K = (xs.length + 1) / 2) : zs = dig 18446744073709551616 n := by
  have e := h.eq
  rw [List.take_length, hx, val_dig (by omega)] at e
  refine val_inj (b := 18446744073709551616) (by omega) ?_ h.low (low_dig (by omega) n) (by rw [e, val_dig (by omega)])
  rw [h.len, hK, hx, words_of_limbs]
end Go.Proofs.Num
namespace Go.Proofs.Num
/-- The limbs of words, two a word. -/
def limbs : List Nat → List Nat
  | [] => []
  | x :: xs => x % 4294967296 :: x / 4294967296 :: limbs xs
theorem limbs_len (xs : List Nat) : (limbs xs).length = 2 * xs.length := by
  induction xs with
  | nil => rfl
  | cons x xs ih => simp only [limbs, List.length_cons, ih]; omega
theorem limbs_append (xs ys : List Nat) : limbs (xs ++ ys) = limbs xs ++ limbs ys := by
  induction xs with
  | nil => rfl
  | cons x xs ih => simp only [List.cons_append, limbs, ih]
theorem limbs_val (xs : List Nat) : val 4294967296 (limbs xs) = val 18446744073709551616 xs := by
  induction xs with
  | nil => rfl
  | cons x xs ih =>
    simp only [limbs, val, ih]
    have := Nat.mod_add_div x 4294967296
    omega
theorem limbs_low {xs : List Nat} (h : Low 18446744073709551616 xs) : Low 4294967296 (limbs xs) := by
  induction xs with
  | nil => exact Low.nil _
  | cons x xs ih =>
    have hx := h.head
    exact Low.cons (Nat.mod_lt _ (by omega)) (Low.cons (by omega) (ih h.tail))
theorem limbs_take_succ {xs : List Nat} {k v : Nat} (h : xs[k]? = some v) : limbs (xs.take (k + 1)) = limbs (xs.take k) ++ [v % 4294967296, v / 4294967296] := by
  have hk := (List.getElem?_eq_some_iff.1 h).1
  rw [List.take_succ_eq_append_getElem hk, limbs_append, (List.getElem?_eq_some_iff.1 h).2]; rfl
/-- The limbs of a number's words are its limbs, or those and a 0. -/
theorem limbs_dig (n : Nat) : limbs (dig 18446744073709551616 n) = dig 4294967296 n ∨ limbs (dig 18446744073709551616 n) = dig 4294967296 n ++ [0] := by
  have e := words_of_limbs n
  have l := limbs_len (dig 18446744073709551616 n)
  have v := limbs_val (dig 18446744073709551616 n)
  rw [val_dig (by omega)] at v
  have lo := limbs_low (low_dig (b := 18446744073709551616) (by omega) n)
  by_cases h : 2 * (dig 18446744073709551616 n).length = (dig 4294967296 n).length
  · left
    exact val_inj (b := 4294967296) (by omega) (by omega) lo (low_dig (by omega) n) (by rw [v, val_dig (by omega)])
  · right
    refine val_inj (b := 4294967296) (by omega) (by simp; omega) lo ((low_dig (by omega) n).append (Low.cons (by omega) (Low.nil _))) ?_
    rw [v, val_append, val_dig (by omega)]; simp [val]
end Go.Proofs.Num
namespace Go.Proofs.Num
theorem nbits_limbs {n L v : Nat} (hL : (dig 4294967296 n).length = L + 1) (hv : (dig 4294967296 n)[L]? = some v) : nbits n = 32 * L + nbits v := by
  have e := dig_getElem? (b := 4294967296) (by omega) hv
  have h1 := dig_len_lt (b := 4294967296) (n := n) (by omega)
  have h2 := dig_len_ge (b := 4294967296) (n := n) (by omega) (by omega)
  rw [hL] at h1 h2
  simp only [Nat.add_sub_cancel] at h2
  have hp : 0 < 4294967296 ^ L := Nat.pow_pos (by omega)
  have h3 : n / 4294967296 ^ L < 4294967296 := by
    rw [Nat.div_lt_iff_lt_mul hp, Nat.mul_comm, ← Nat.pow_succ]; exact h1
  have h4 : n / 4294967296 ^ L ≠ 0 := by
    intro h0
    rcases Nat.div_eq_zero_iff.1 h0 with h | h <;> omega
  rw [Nat.mod_eq_of_lt h3] at e
  have e1 : (2 : Nat) ^ (32 * L) = 4294967296 ^ L := by rw [Nat.pow_mul]
  rw [e, ← e1]
  refine nbits_shift ?_
  rw [e1]; exact h4
theorem nbits_half {v : Nat} (h : v ≠ 0) : nbits v = nbits (v / 2) + 1 := by
  by_cases h2 : v / 2 = 0
  · have : v = 1 := by omega
    subst this; decide
  · rw [nbits_shift (n := v) (k := 1) (by simpa using h2)]; simp; omega
theorem shr_ne {v i : Nat} : v / 2 ^ i ≠ 0 ↔ i < nbits v := by
  constructor
  · intro h
    rcases Nat.lt_or_ge i (nbits v) with h1 | h1
    · exact h1
    · exact absurd (Nat.div_eq_of_lt (lt_of_nbits h1)) h
  · intro h h0
    have hv : v ≠ 0 := by rintro rfl; simp [nbits] at h
    have h1 := nbits_ge hv
    have h2 := Nat.pow_le_pow_right (show 0 < 2 by omega) (show i ≤ nbits v - 1 by omega)
    rcases Nat.div_eq_zero_iff.1 h0 with h3 | h3
    · have := Nat.two_pow_pos i; omega
    · omega
end Go.Proofs.Num
