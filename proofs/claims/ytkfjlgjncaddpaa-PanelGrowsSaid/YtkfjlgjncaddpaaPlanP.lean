/- The plan of the best choices, plain. -/
import Derived.Test.YtkfjlgjncaddpaaPMem
namespace Go.Proofs.Ytkfjlgjncaddpaa

/-- Where the best choice cuts. -/
theorem best_cut (kerf : Nat) (ss : List Sh) (i j : Nat) : (best kerf ss i j = cho0) ∨ (∃ q, q < ss.length ∧ (best kerf ss i j).a = (q : Int) ∧ (best kerf ss i j).v = (ss.getD q sh0).v ∧ ((best kerf ss i j).k = 1 ∧ isS (ss.getD q sh0) i j = true ∨ (best kerf ss i j).k = 2 ∧ isT (ss.getD q sh0) i j = true)) ∨
    (∃ x : Nat, 1 ≤ x ∧ x < i ∧ best kerf ss i j = ⟨3, x, pv (best kerf ss) x j + pv (best kerf ss) (i - x - kerf) j⟩) ∨ (∃ y : Nat, 1 ≤ y ∧ y < j ∧ best kerf ss i j = ⟨4, y, pv (best kerf ss) i y + pv (best kerf ss) i (j - y - kerf)⟩) := by
  have h : best kerf ss i j = cho0 ∨ best kerf ss i j ∈ offs (best kerf ss) kerf ss i j := by
    have := fold_mem cho0 (offs (best kerf ss) kerf ss i j)
    rw [best_eq]; exact this
  generalize best kerf ss i j = o at h
  rcases h with e | e
  · exact .inl e
  · unfold offs at e
    rcases List.mem_append.1 e with e | e
    · obtain ⟨q, hq, hv, ha, hk⟩ := mem_offS e
      exact .inr (.inl ⟨q, hq, ha, hv, hk⟩)
    · rcases List.mem_append.1 e with e | e
      · obtain ⟨q, hq, rfl⟩ := mem_offA.1 e
        exact .inr (.inr (.inl ⟨q + 1, by omega, by omega, rfl⟩))
      · obtain ⟨q, hq, rfl⟩ := mem_offD.1 e
        exact .inr (.inr (.inr ⟨q + 1, by omega, by omega, rfl⟩))

def planN (kerf : Nat) (ss : List Sh) : Nat → Int → Int → List Cu
  | 0, _, _ => []
  | n + 1, w, h => if w < 1 ∨ h < 1 then [] else
      ⟨(best kerf ss w.toNat h.toNat).k, (best kerf ss w.toNat h.toNat).a⟩ :: (if (best kerf ss w.toNat h.toNat).k = 3 then planN kerf ss n (best kerf ss w.toNat h.toNat).a h ++ planN kerf ss n (w - ((best kerf ss w.toNat h.toNat).a + kerf)) h
        else if (best kerf ss w.toNat h.toNat).k = 4 then planN kerf ss n w (best kerf ss w.toNat h.toNat).a ++ planN kerf ss n w (h - ((best kerf ss w.toNat h.toNat).a + kerf)) else [])
theorem planN_empty {kerf : Nat} {ss : List Sh} {n : Nat} {w h : Int} (e : w < 1 ∨ h < 1) : planN kerf ss n w h = [] := by
  cases n with
  | zero => rfl
  | succ n => unfold planN; rw [if_pos e]
/-- A choice with its place. -/
theorem planN_at {kerf : Nat} {ss : List Sh} {n i j : Nat} (hi : 1 ≤ i) (hj : 1 ≤ j) {k a : Int} (hk : (best kerf ss i j).k = k) (ha : (best kerf ss i j).a = a) : planN kerf ss (n + 1) i j = ⟨k, a⟩ :: (if k = 3 then planN kerf ss n a j ++ planN kerf ss n (i - (a + kerf)) j else if k = 4 then planN kerf ss n i a ++ planN kerf ss n i (j - (a + kerf)) else []) := by
  subst hk ha
  show (if _ then _ else _) = _
  rw [if_neg (by omega)]
  simp only [Int.toNat_natCast]
theorem planN_stable (kerf : Nat) (ss : List Sh) : ∀ (s n m : Nat) (w h : Int), w.toNat + h.toNat ≤ s → w.toNat + h.toNat ≤ n → w.toNat + h.toNat ≤ m → planN kerf ss n w h = planN kerf ss m w h := by
  intro s
  induction s with
  | zero => intro n m w h hs _ _; rw [planN_empty (by omega), planN_empty (by omega)]
  | succ s ih =>
    intro n m w h hs hn hm
    by_cases e : w < 1 ∨ h < 1
    · rw [planN_empty e, planN_empty e]
    · obtain ⟨i, rfl⟩ : ∃ i : Nat, w = (i : Int) := ⟨w.toNat, by omega⟩
      obtain ⟨j, rfl⟩ : ∃ j : Nat, h = (j : Int) := ⟨h.toNat, by omega⟩
      obtain ⟨n', rfl⟩ : ∃ n', n = n' + 1 := ⟨n - 1, by omega⟩
      obtain ⟨m', rfl⟩ : ∃ m', m = m' + 1 := ⟨m - 1, by omega⟩
      rw [planN_at (by omega) (by omega) rfl rfl, planN_at (by omega) (by omega) rfl rfl]
      rcases best_cut kerf ss i j with h | ⟨q, _, _, _, ⟨h, _⟩ | ⟨h, _⟩⟩ | ⟨x, h1, h2, h⟩ | ⟨y, h1, h2, h⟩
      · rw [h]; rfl
      · rw [h]; rfl
      · rw [h]; rfl
      · rw [h]
        simp only [if_pos]
        rw [ih n' m' _ _ (by omega) (by omega) (by omega), ih n' m' ((i : Int) - (x + kerf)) _ (by omega) (by omega) (by omega)]
      · rw [h]
        simp only [if_pos, if_neg (show ¬ (4 : Int) = 3 by omega)]
        rw [ih n' m' _ _ (by omega) (by omega) (by omega), ih n' m' _ ((j : Int) - (y + kerf)) (by omega) (by omega) (by omega)]
theorem planN_len (kerf : Nat) (ss : List Sh) : ∀ (n : Nat) (w h : Int), 1 ≤ w → 1 ≤ h → ((planN kerf ss n w h).length : Int) ≤ 2 * (w * h) - 1 := by
  intro n
  induction n with
  | zero =>
    intro w h hw hh
    have : 1 ≤ w * h := by have := Int.mul_le_mul hw hh (by omega) (by omega); omega
    simp [planN]; omega
  | succ n ih =>
    intro w h hw hh
    obtain ⟨i, rfl⟩ : ∃ i : Nat, w = (i : Int) := ⟨w.toNat, by omega⟩
    obtain ⟨j, rfl⟩ : ∃ j : Nat, h = (j : Int) := ⟨h.toNat, by omega⟩
    have hone : (1 : Int) ≤ (i : Int) * j := by have := Int.mul_le_mul hw hh (by omega) (by omega); omega
    have hpart : ∀ a b : Int, ((planN kerf ss n a b).length : Int) ≤ 2 * (a * b) - 1 ∨ ((planN kerf ss n a b).length = 0 ∧ (a < 1 ∨ b < 1)) := by
      intro a b
      by_cases e : a < 1 ∨ b < 1
      · right; rw [planN_empty e]; exact ⟨rfl, e⟩
      · left; exact ih a b (by omega) (by omega)
    rw [planN_at (by omega) (by omega) rfl rfl]
    rcases best_cut kerf ss i j with h | ⟨q, _, _, _, ⟨h, _⟩ | ⟨h, _⟩⟩ | ⟨x, h1, h2, h⟩ | ⟨y, h1, h2, h⟩
    · rw [h]; simp [cho0]; omega
    · rw [h]; simp; omega
    · rw [h]; simp; omega
    · rw [h]
      simp only [if_pos, List.length_cons, List.length_append]
      have p1 := hpart x j
      have p2 := hpart ((i : Int) - (x + kerf)) j
      have m1 : (x : Int) * j + ((i : Int) - (x + kerf)) * j + kerf * j = (i : Int) * j := by grind
      have m2 : (0 : Int) ≤ kerf * j := Int.mul_nonneg (by omega) (by omega)
      have m3 : (x : Int) * j + 1 ≤ (i : Int) * j := by
        have : ((x : Int) + 1) * j ≤ (i : Int) * j := Int.mul_le_mul_of_nonneg_right (by omega) (by omega)
        rw [Int.add_mul] at this; omega
      have m4 : (1 : Int) ≤ (x : Int) * j := by have := Int.mul_le_mul (show (1 : Int) ≤ x by omega) hh (by omega) (by omega); omega
      omega
    · rw [h]
      simp only [if_pos, if_neg (show ¬ (4 : Int) = 3 by omega), List.length_cons, List.length_append]
      have p1 := hpart i y
      have p2 := hpart i ((j : Int) - (y + kerf))
      have m1 : (i : Int) * y + (i : Int) * ((j : Int) - (y + kerf)) + i * kerf = (i : Int) * j := by grind
      have m2 : (0 : Int) ≤ i * kerf := Int.mul_nonneg (by omega) (by omega)
      have m3 : (i : Int) * y + 1 ≤ (i : Int) * j := by
        have : (i : Int) * (y + 1) ≤ (i : Int) * j := Int.mul_le_mul_of_nonneg_left (by omega) (by omega)
        rw [Int.mul_add] at this; omega
      have m4 : (1 : Int) ≤ (i : Int) * y := by have := Int.mul_le_mul hw (show (1 : Int) ≤ y by omega) (by omega) (by omega); omega
      omega
/-- The whole plan. -/
def planF (kerf : Nat) (ss : List Sh) (w h : Nat) : List Cu := planN kerf ss (w + h) w h
theorem planF_len {kerf w h : Nat} {ss : List Sh} (h1 : 1 ≤ w) (h2 : 1 ≤ h) (h3 : w ≤ 64) (h4 : h ≤ 64) : (planF kerf ss w h).length ≤ 8191 := by
  have := planN_len kerf ss (w + h) w h (by omega) (by omega)
  have h5 : (w : Int) * h ≤ 64 * 64 := Int.mul_le_mul (by omega) (by omega) (by omega) (by omega)
  unfold planF
  omega
end Go.Proofs.Ytkfjlgjncaddpaa
