/- What is counted by shapes is what is counted by pieces. -/
import Derived.Test.YtkfjlgjncaddpaaWWas
namespace Go.Proofs.Ytkfjlgjncaddpaa

def sq (f : Nat → Int) : Nat → Int
  | 0 => 0
  | n + 1 => sq f n + f n
theorem sq_congr {f g : Nat → Int} {n : Nat} (h : ∀ q, q < n → f q = g q) : sq f n = sq g n := by
  induction n with
  | zero => rfl
  | succ n ih => simp only [sq]; rw [ih fun q hq => h q (by omega), h n (by omega)]
theorem sq_add (f g : Nat → Int) (n : Nat) : sq (fun q => f q + g q) n = sq f n + sq g n := by
  induction n with
  | zero => rfl
  | succ n ih => simp only [sq, ih]; omega
theorem sq_zero (n : Nat) : sq (fun _ => 0) n = 0 := by
  induction n with
  | zero => rfl
  | succ n ih => simp only [sq, ih]; rfl
theorem sq_one (f : Nat → Int) {n q0 : Nat} (h : q0 < n) : sq (fun q => f q * (if (q0 : Int) = (q : Int) then 1 else 0)) n = f q0 := by
  induction n with
  | zero => omega
  | succ n ih =>
    simp only [sq]
    by_cases e : q0 = n
    · subst e
      rw [if_pos rfl, sq_congr (g := fun _ => 0) (fun q hq => by rw [if_neg (by omega)]; omega), sq_zero]
      omega
    · rw [ih (by omega), if_neg (by omega)]
      omega
theorem sq_bd {f : Nat → Int} {n : Nat} {c : Int} (h : ∀ q, q < n → 0 ≤ f q ∧ f q ≤ c) : 0 ≤ sq f n ∧ sq f n ≤ n * c := by
  induction n with
  | zero => simp [sq]
  | succ n ih =>
    have h1 := ih fun q hq => h q (by omega)
    have h2 := h n (by omega)
    simp only [sq]
    have e : ((n + 1 : Nat) : Int) * c = n * c + c := by rw [Int.natCast_add]; simp [Int.add_mul]
    rw [e]
    omega
theorem exch (f : Nat → Int) (L : Nat) {ps : List Pc} (h : ∀ t ∈ ps, ∃ q : Nat, q < L ∧ t.s = q) : sq (fun q => f q * cntN ps q) L = sumP (fun t => f t.s.toNat) ps := by
  induction ps with
  | nil =>
    rw [sq_congr (g := fun _ => 0) (fun q _ => by simp [cntN, sumP]), sq_zero]
    rfl
  | cons t ps ih =>
    obtain ⟨q0, h1, h2⟩ := h t (List.mem_cons_self ..)
    have e : ∀ q, cntN (t :: ps) q = (if (q0 : Int) = (q : Int) then 1 else 0) + cntN ps q := fun q => by
      unfold cntN
      simp only [sumP]
      rw [h2]
    rw [sq_congr (g := fun q => f q * (if (q0 : Int) = (q : Int) then 1 else 0) + f q * cntN ps q) (fun q _ => by rw [e, Int.mul_add]), sq_add, sq_one f h1, ih fun s hs => h s (List.mem_cons_of_mem _ hs)]
    simp only [sumP, h2, Int.toNat_natCast]
/-- The areas of the shapes, as often as they are cut, are those of the pieces; so are the values. -/
theorem area_exch {ss : List Sh} {x y a b : Int} {ps : List Pc} (h : ∀ t ∈ ps, PcOk ss x y a b t) : sq (fun q => cntN ps q * (ss.getD q sh0).w * (ss.getD q sh0).h) ss.length = sumP aOf ps := by
  have h1 : ∀ t ∈ ps, ∃ q : Nat, q < ss.length ∧ t.s = q := fun t ht => by
    obtain ⟨q, a, b, _⟩ := (h t ht).sh
    exact ⟨q, a, b⟩
  rw [sq_congr (g := fun q => ((ss.getD q sh0).w * (ss.getD q sh0).h) * cntN ps q) (fun q _ => by rw [Int.mul_assoc, Int.mul_comm]), exch _ _ h1]
  clear h1
  induction ps with
  | nil => rfl
  | cons t ps ih =>
    obtain ⟨q, h1, h2, h3⟩ := (h t (List.mem_cons_self ..)).sh
    simp only [sumP]
    rw [ih fun s hs => h s (List.mem_cons_of_mem _ hs), h2, Int.toNat_natCast]
    congr 1
    unfold aOf
    rcases h3 with h3 | h3
    · unfold isS at h3
      simp only [Bool.and_eq_true, decide_eq_true_eq] at h3
      rw [h3.1, h3.2]
    · unfold isT at h3
      simp only [Bool.and_eq_true, decide_eq_true_eq] at h3
      rw [h3.2.1, h3.2.2, Int.mul_comm]
theorem value_exch {ss : List Sh} {x y a b : Int} {ps : List Pc} (h : ∀ t ∈ ps, PcOk ss x y a b t) : sq (fun q => cntN ps q * (ss.getD q sh0).v) ss.length = sumP (vOf ss) ps := by
  have h1 : ∀ t ∈ ps, ∃ q : Nat, q < ss.length ∧ t.s = q := fun t ht => by
    obtain ⟨q, a, b, _⟩ := (h t ht).sh
    exact ⟨q, a, b⟩
  rw [sq_congr (g := fun q => (ss.getD q sh0).v * cntN ps q) (fun q _ => by rw [Int.mul_comm]), exch _ _ h1]
  rfl
/-- The pieces' areas are at most the panel's. -/
theorem area_upper {k : Nat} {ss : List Sh} {i j : Nat} {l : List Cu} {ps : List Pc} (h : lay k ss i j l = some ps) : 0 ≤ sumP aOf ps ∧ sumP aOf ps ≤ (i : Int) * j := by
  obtain ⟨⟨u, hu, e⟩, hpo, _⟩ := lay_known h
  subst e
  have key : sumP aOf u.1 ≤ (i : Int) * j ∧ 0 ≤ sumP aOf u.1 := by
    refine rd_ind (P := fun _ _ a b p => (0 ≤ a → 0 ≤ b → sumP aOf p ≤ a * b) ∧ (a < 0 ∨ b < 0 → sumP aOf p = 0) ∧ 0 ≤ sumP aOf p) ?_ ?_ ?_ ?_ _ _ _ _ _ _ _ hu |> fun h => ⟨h.1 (by omega) (by omega), h.2.2⟩
    · intro x y a b
      exact ⟨fun h1 h2 => Int.mul_nonneg h1 h2, fun _ => rfl, Int.le_refl _⟩
    · intro x y a b q h1 h2 _ _
      have h3 : 0 ≤ a * b := Int.mul_nonneg (by omega) (by omega)
      refine ⟨fun _ _ => by simp [sumP, aOf], fun h => by omega, by simp [sumP, aOf]; exact h3⟩
    · intro x y a b z p1 p2 h1 h2 h3 h4 i1 i2
      rw [sumP_append]
      refine ⟨fun _ _ => ?_, fun h => by omega, by omega⟩
      have e1 := i1.1 (by omega) (by omega)
      rcases Int.lt_or_le (a - (z + k)) 0 with hn | hn
      · have e2 := i2.2.1 (.inl hn)
        have : z * b ≤ a * b := Int.mul_le_mul_of_nonneg_right (by omega) (by omega)
        omega
      · have e2 := i2.1 hn (by omega)
        have : (z + (a - (z + k))) * b ≤ a * b := Int.mul_le_mul_of_nonneg_right (by omega) (by omega)
        rw [Int.add_mul] at this
        omega
    · intro x y a b z p1 p2 h1 h2 h3 h4 i1 i2
      rw [sumP_append]
      refine ⟨fun _ _ => ?_, fun h => by omega, by omega⟩
      have e1 := i1.1 (by omega) (by omega)
      rcases Int.lt_or_le (b - (z + k)) 0 with hn | hn
      · have e2 := i2.2.1 (.inr hn)
        have : a * z ≤ a * b := Int.mul_le_mul_of_nonneg_left (by omega) (by omega)
        omega
      · have e2 := i2.1 (by omega) hn
        have : a * (z + (b - (z + k))) ≤ a * b := Int.mul_le_mul_of_nonneg_left (by omega) (by omega)
        rw [Int.mul_add] at this
        omega
  exact ⟨key.2, key.1⟩
end Go.Proofs.Ytkfjlgjncaddpaa
