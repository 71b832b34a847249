/- Plain laws on numbers that are written in a base, the least significant digit first: no program, no memory. -/
namespace Go.Proofs.Num

/-- The number that digits in base b make. -/
def val (b : Nat) : List Nat → Nat
  | [] => 0
  | x :: xs => x + b * val b xs

/-- All are digits of the base. -/
def Low (b : Nat) (xs : List Nat) : Prop := ∀ x ∈ xs, x < b

theorem Low.nil (b : Nat) : Low b [] := fun _ h => by cases h
theorem Low.cons {b x : Nat} {xs : List Nat} (hx : x < b) (h : Low b xs) : Low b (x :: xs) := by
  intro y hy
  rcases List.mem_cons.1 hy with rfl | hy
  · exact hx
  · exact h y hy
theorem Low.head {b x : Nat} {xs : List Nat} (h : Low b (x :: xs)) : x < b := h x (by simp)
theorem Low.tail {b x : Nat} {xs : List Nat} (h : Low b (x :: xs)) : Low b xs := fun y hy => h y (by simp [hy])
theorem Low.append {b : Nat} {xs ys : List Nat} (h : Low b xs) (k : Low b ys) : Low b (xs ++ ys) := by
  intro y hy
  rcases List.mem_append.1 hy with hy | hy
  · exact h y hy
  · exact k y hy
theorem Low.take {b : Nat} {xs : List Nat} (h : Low b xs) (n : Nat) : Low b (xs.take n) := fun y hy => h y (List.mem_of_mem_take hy)
theorem Low.drop {b : Nat} {xs : List Nat} (h : Low b xs) (n : Nat) : Low b (xs.drop n) := fun y hy => h y (List.mem_of_mem_drop hy)
theorem Low.get {b : Nat} {xs : List Nat} (h : Low b xs) {i : Nat} (hi : i < xs.length) : xs[i] < b := h _ (List.getElem_mem hi)
theorem Low.replicate {b : Nat} (hb : 0 < b) (n : Nat) : Low b (List.replicate n 0) := by
  intro y hy
  rw [List.eq_of_mem_replicate hy]; exact hb
theorem Low.set {b : Nat} {xs : List Nat} (h : Low b xs) {i v : Nat} (hv : v < b) : Low b (xs.set i v) := by
  intro y hy
  rcases List.mem_or_eq_of_mem_set hy with hy | rfl
  · exact h y hy
  · exact hv

theorem val_append (b : Nat) (xs ys : List Nat) : val b (xs ++ ys) = val b xs + b ^ xs.length * val b ys := by
  induction xs with
  | nil => simp [val]
  | cons x xs ih =>
    simp only [List.cons_append, val, ih, List.length_cons, Nat.pow_succ]
    grind

theorem val_snoc (b : Nat) (xs : List Nat) (x : Nat) : val b (xs ++ [x]) = val b xs + b ^ xs.length * x := by
  rw [val_append]; simp [val]

theorem val_take_succ (b : Nat) (xs : List Nat) (k : Nat) (h : k < xs.length) : val b (xs.take (k + 1)) = val b (xs.take k) + b ^ k * xs[k] := by
  rw [List.take_succ_eq_append_getElem h, val_snoc, List.length_take, Nat.min_eq_left (by omega)]

theorem val_lt (b : Nat) (xs : List Nat) (h : Low b xs) : val b xs < b ^ xs.length := by
  induction xs with
  | nil => simp [val]
  | cons x xs ih =>
    have hx := h.head
    have hi := ih h.tail
    simp only [val, List.length_cons, Nat.pow_succ]
    have : b * (val b xs + 1) ≤ b * b ^ xs.length := Nat.mul_le_mul_left b hi
    rw [Nat.mul_add] at this
    rw [Nat.mul_comm (b ^ xs.length) b]
    omega

theorem val_replicate (b n : Nat) : val b (List.replicate n 0) = 0 := by
  induction n with
  | zero => simp [val]
  | succ n ih => simp [List.replicate_succ, val, ih]

theorem val_take_drop (b : Nat) (xs : List Nat) (k : Nat) (h : k ≤ xs.length) : val b xs = val b (xs.take k) + b ^ k * val b (xs.drop k) := by
  have e := val_append b (xs.take k) (xs.drop k)
  rw [List.take_append_drop, List.length_take, Nat.min_eq_left h] at e
  exact e

theorem val_set (b : Nat) (xs : List Nat) (i v : Nat) (h : i < xs.length) : val b (xs.set i v) + b ^ i * xs[i] = val b xs + b ^ i * v := by
  induction xs generalizing i with
  | nil => simp at h
  | cons x xs ih =>
    cases i with
    | zero => simp [val]; omega
    | succ i =>
      have := ih i (by simpa using h)
      simp only [List.set_cons_succ, val, List.getElem_cons_succ, Nat.pow_succ]
      grind

/-- The last digit, if there is one, is not 0. -/
def Neat (xs : List Nat) : Prop := xs = [] ∨ ∃ ys y, xs = ys ++ [y] ∧ y ≠ 0

theorem neat_nil : Neat [] := .inl rfl
theorem neat_snoc {xs : List Nat} {y : Nat} (hy : y ≠ 0) : Neat (xs ++ [y]) := .inr ⟨xs, y, rfl, hy⟩
theorem neat_iff (xs : List Nat) : Neat xs ↔ ∀ h : 0 < xs.length, xs[xs.length - 1] ≠ 0 := by
  constructor
  · rintro (rfl | ⟨ys, y, rfl, hy⟩) h
    · simp at h
    · simpa using hy
  · intro h
    rcases List.eq_nil_or_concat xs with rfl | ⟨ys, y, rfl⟩
    · exact .inl rfl
    · refine .inr ⟨ys, y, by simp, ?_⟩
      have := h (by simp)
      simpa using this
theorem Neat.tail {x : Nat} {xs : List Nat} (h : Neat (x :: xs)) : Neat xs := by
  rw [neat_iff] at h ⊢
  intro hl
  have := h (by simp)
  simp only [List.length_cons, Nat.add_sub_cancel] at this
  rw [List.getElem_cons] at this
  rw [dif_neg (by omega)] at this
  exact this

theorem val_eq_zero {b : Nat} (hb : 0 < b) {xs : List Nat} (h : Neat xs) (hv : val b xs = 0) : xs = [] := by
  rcases h with rfl | ⟨ys, y, rfl, hy⟩
  · rfl
  · rw [val_snoc] at hv
    have : 0 < b ^ ys.length := Nat.pow_pos hb
    have h2 : b ^ ys.length * y = 0 := by omega
    rcases Nat.mul_eq_zero.1 h2 with h | h
    · omega
    · exact absurd h hy

theorem neat_ge {b : Nat} {xs : List Nat} (h : Neat xs) (hl : 0 < xs.length) : b ^ (xs.length - 1) ≤ val b xs := by
  rcases h with rfl | ⟨ys, y, rfl, hy⟩
  · simp at hl
  · rw [val_snoc]
    simp only [List.length_append, List.length_singleton, Nat.add_sub_cancel]
    have : b ^ ys.length * 1 ≤ b ^ ys.length * y := Nat.mul_le_mul_left _ (by omega)
    omega

/-- The digits of a number. -/
def dig (b n : Nat) : List Nat := if _h : n = 0 ∨ b < 2 then [] else n % b :: dig b (n / b)
termination_by n
decreasing_by exact Nat.div_lt_self (by omega) (by omega)

theorem dig_zero (b : Nat) : dig b 0 = [] := by unfold dig; simp
theorem dig_pos {b n : Nat} (hb : 2 ≤ b) (hn : n ≠ 0) : dig b n = n % b :: dig b (n / b) := by
  rw [dig.eq_1 b n, dif_neg (by omega)]

theorem val_dig {b : Nat} (hb : 2 ≤ b) (n : Nat) : val b (dig b n) = n := by
  induction n using Nat.strongRecOn with
  | ind n ih =>
    by_cases hn : n = 0
    · subst hn; simp [dig_zero, val]
    · rw [dig_pos hb hn, val, ih _ (Nat.div_lt_self (by omega) (by omega))]
      exact Nat.mod_add_div n b

theorem low_dig {b : Nat} (hb : 2 ≤ b) (n : Nat) : Low b (dig b n) := by
  induction n using Nat.strongRecOn with
  | ind n ih =>
    by_cases hn : n = 0
    · subst hn; simp [dig_zero, Low.nil]
    · rw [dig_pos hb hn]
      exact Low.cons (Nat.mod_lt _ (by omega)) (ih _ (Nat.div_lt_self (by omega) (by omega)))

theorem dig_val {b : Nat} (hb : 2 ≤ b) {xs : List Nat} (hl : Low b xs) (hn : Neat xs) : dig b (val b xs) = xs := by
  induction xs with
  | nil => simp [val, dig_zero]
  | cons x xs ih =>
    have hx := hl.head
    have h0 : val b (x :: xs) ≠ 0 := fun e => by
      have := val_eq_zero (by omega) hn e
      simp at this
    rw [dig_pos hb h0]
    have e1 : val b (x :: xs) % b = x := by
      simp only [val]; rw [Nat.add_mul_mod_self_left]; exact Nat.mod_eq_of_lt hx
    have e2 : val b (x :: xs) / b = val b xs := by
      simp only [val]; rw [Nat.add_mul_div_left _ _ (by omega), Nat.div_eq_of_lt hx]; omega
    rw [e1, e2, ih hl.tail hn.tail]

theorem neat_dig {b : Nat} (hb : 2 ≤ b) (n : Nat) : Neat (dig b n) := by
  induction n using Nat.strongRecOn with
  | ind n ih =>
    by_cases hn : n = 0
    · subst hn; simp [dig_zero, neat_nil]
    · rw [dig_pos hb hn]
      rcases ih _ (Nat.div_lt_self (show 0 < n by omega) (show 1 < b by omega)) with h | ⟨ys, y, h, hy⟩
      · have h0 : n / b = 0 := by rw [← val_dig hb (n / b), h]; rfl
        have : n < b := by
          rcases Nat.div_eq_zero_iff.1 h0 with h | h <;> omega
        rw [h, Nat.mod_eq_of_lt this]
        exact .inr ⟨[], n, rfl, hn⟩
      · rw [h]; exact .inr ⟨n % b :: ys, y, rfl, hy⟩

/-- Digits without a 0 at the end are those of the number that they make. -/
theorem dig_of {b n : Nat} (hb : 2 ≤ b) {xs : List Nat} (hl : Low b xs) (hn : Neat xs) (hv : val b xs = n) : dig b n = xs := by
  subst hv; exact dig_val hb hl hn

theorem dig_len_lt {b n : Nat} (hb : 2 ≤ b) : n < b ^ (dig b n).length := by
  have := val_lt b _ (low_dig hb n)
  rwa [val_dig hb] at this
theorem dig_len_ge {b n : Nat} (hb : 2 ≤ b) (h : 0 < (dig b n).length) : b ^ ((dig b n).length - 1) ≤ n := by
  have := neat_ge (b := b) (neat_dig hb n) h
  rwa [val_dig hb] at this
theorem dig_len_le {b n k : Nat} (hb : 2 ≤ b) (h : n < b ^ k) : (dig b n).length ≤ k := by
  rcases Nat.lt_or_ge k (dig b n).length with hk | hk
  · have h1 := dig_len_ge hb (n := n) (by omega)
    have h2 : b ^ k ≤ b ^ ((dig b n).length - 1) := Nat.pow_le_pow_right (by omega) (by omega)
    omega
  · exact hk
theorem dig_nil_iff {b n : Nat} (hb : 2 ≤ b) : dig b n = [] ↔ n = 0 := by
  constructor
  · intro h; have := val_dig hb n; rw [h] at this; simpa [val] using this.symm
  · rintro rfl; exact dig_zero b

/-- The digits that are left when the zeros at the end are cut off. -/
theorem take_neat {b : Nat} (hb : 2 ≤ b) {xs : List Nat} (hl : Low b xs) {k : Nat} (hk : k ≤ xs.length) (hz : ∀ i (h : i < xs.length), k ≤ i → xs[i]'h = 0)
    (hn : ∀ h : 0 < k, xs[k - 1]'(by omega) ≠ 0) : xs.take k = dig b (val b xs) := by
  have hd : xs.drop k = List.replicate (xs.length - k) 0 := by
    apply List.ext_getElem
    · simp
    · intro i h1 h2
      simp at h1
      rw [List.getElem_drop, List.getElem_replicate]
      exact hz _ _ (by omega)
  have hv : val b xs = val b (xs.take k) := by
    rw [val_take_drop b xs k hk, hd, val_replicate]; simp
  rw [hv]
  refine (dig_val hb (hl.take k) ?_).symm
  rw [neat_iff]
  intro h
  simp only [List.length_take, List.getElem_take, Nat.min_eq_left hk] at h ⊢
  exact hn h

theorem val_inj {b : Nat} (hb : 2 ≤ b) {xs ys : List Nat} (hlen : xs.length = ys.length) (hx : Low b xs) (hy : Low b ys) (h : val b xs = val b ys) : xs = ys := by
  induction xs generalizing ys with
  | nil => exact (List.eq_nil_of_length_eq_zero hlen.symm).symm
  | cons x xs ih =>
    cases ys with
    | nil => simp at hlen
    | cons y ys =>
      simp only [val] at h
      have h1 := hx.head
      have h2 := hy.head
      have e1 : (x + b * val b xs) % b = x := by rw [Nat.add_mul_mod_self_left]; exact Nat.mod_eq_of_lt h1
      have e2 : (y + b * val b ys) % b = y := by rw [Nat.add_mul_mod_self_left]; exact Nat.mod_eq_of_lt h2
      have e : x = y := by rw [← e1, ← e2, h]
      subst e
      have h3 : b * val b xs = b * val b ys := by omega
      have h4 := Nat.eq_of_mul_eq_mul_left (by omega) h3
      rw [ih (by simpa using hlen) hx.tail hy.tail h4]

end Go.Proofs.Num
