/- A constant more on the costs of one row: what it does to the cheapest assignment. -/
import Derived.Test.YtncmfjncdhhjoaaWCk
namespace Go.Proofs.Ytncmfjncdhhjoaa
open Go.RowKit

/-- A cost with a constant more; what is no cost stays. -/
def shF (by' x : Int) : Int := if 0 ≤ x then x + by' else x
/-- The first k costs of a row with a constant more. -/
def shL (by' : Int) (k : Nat) (l : List Int) : List Int := (l.take k).map (shF by') ++ l.drop k
theorem shL_zero (by' : Int) (l : List Int) : shL by' 0 l = l := by simp [shL]
theorem shL_len (by' : Int) (k : Nat) (l : List Int) : (shL by' k l).length = l.length := by simp [shL]; omega
theorem shL_at {by' : Int} {k : Nat} {l : List Int} {x : Int} (h : l[k]? = some x) : (shL by' k l)[k]? = some x := by
  have hk := (List.getElem?_eq_some_iff.1 h).1
  have e : ((l.take k).map (shF by')).length = k := by simp; omega
  unfold shL
  rw [List.getElem?_append_right (by omega), e, Nat.sub_self, List.getElem?_drop, Nat.add_zero]; exact h
theorem shL_set {by' : Int} {k : Nat} {l : List Int} {x : Int} (h : l[k]? = some x) : (shL by' k l).set k (shF by' x) = shL by' (k + 1) l := by
  have hk := (List.getElem?_eq_some_iff.1 h).1
  have hx := (List.getElem?_eq_some_iff.1 h).2
  have e : ((l.take k).map (shF by')).length = k := by simp; omega
  unfold shL
  rw [List.set_append_right _ _ (by omega), e, Nat.sub_self, List.drop_eq_getElem_cons hk, hx, List.set_cons_zero, List.take_add_one, h]
  simp
theorem shL_skip {by' : Int} {k : Nat} {l : List Int} {x : Int} (h : l[k]? = some x) (hx : x < 0) : shL by' (k + 1) l = shL by' k l := by
  rw [← shL_set h]
  have e : shF by' x = x := by unfold shF; rw [if_neg (by omega)]
  rw [e]
  have h1 := shL_at (by' := by') h
  apply List.ext_getElem?
  intro j
  rw [List.getElem?_set]
  by_cases hj : k = j
  · subst hj
    rw [if_pos rfl, h1]
    have := (List.getElem?_eq_some_iff.1 h1).1
    rw [if_pos this]
  · rw [if_neg hj]
theorem shL_full {by' : Int} {l : List Int} {k : Nat} (hk : l.length ≤ k) : shL by' k l = l.map (shF by') := by
  unfold shL
  rw [List.take_of_length_le hk, List.drop_eq_nil_of_le hk, List.append_nil]

/-- The table with that row. -/
def shT (by' : Int) (r : Nat) (ls : List (List Int)) : List (List Int) := ls.set r ((ls.getD r []).map (shF by'))
theorem shT_len (by' : Int) (r : Nat) (ls : List (List Int)) : (shT by' r ls).length = ls.length := by simp [shT]
theorem map_getD {by' : Int} {l : List Int} {k : Nat} (hk : k < l.length) : (l.map (shF by')).getD k 0 = shF by' (l.getD k 0) := by
  simp [List.getD_eq_getElem?_getD, hk]
theorem shT_row {by' : Int} {r : Nat} {ls : List (List Int)} {i : Nat} {l : List Int} (h : (shT by' r ls)[i]? = some l) :
    (i = r ∧ ∃ l0, ls[r]? = some l0 ∧ l = l0.map (shF by')) ∨ (i ≠ r ∧ ls[i]? = some l) := by
  unfold shT at h
  rw [List.getElem?_set] at h
  by_cases e : r = i
  · subst e
    rw [if_pos rfl] at h
    by_cases hr : r < ls.length
    · rw [if_pos hr] at h
      injection h with h
      have h2 : ls[r]? = some ls[r] := List.getElem?_eq_getElem hr
      refine .inl ⟨rfl, ls[r], h2, ?_⟩
      rw [← h, List.getD_eq_getElem?_getD, h2]; rfl
    · rw [if_neg hr] at h; cases h
  · rw [if_neg e] at h
    exact .inr ⟨fun h' => e h'.symm, h⟩
theorem shT_cst {by' : Int} {r n m : Nat} {ls : List (List Int)} (G : Good n m ls) {i k : Nat} (hi : i < n) (hk : k < m) :
    cst (shT by' r ls) i k = if i = r then shF by' (cst ls i k) else cst ls i k := by
  have hl : i < (shT by' r ls).length := by rw [shT_len, G.rows]; exact hi
  have h := List.getElem?_eq_getElem hl
  rw [cst_of h]
  rcases shT_row h with ⟨rfl, l0, h0, e⟩ | ⟨hne, h0⟩
  · rw [if_pos rfl, e, cst_of h0, map_getD (by rw [G.cols _ _ h0]; exact hk)]
  · rw [if_neg hne, cst_of h0]

theorem shT_good {by' : Int} {r n m : Nat} {ls : List (List Int)} (G : Good n m ls) (hb : 0 ≤ by') (hr : ∀ k, k < m → cst ls r k + by' ≤ 1000000000) : Good n m (shT by' r ls) := by
  refine ⟨by rw [shT_len]; exact G.rows, fun i l h => ?_, fun i k hi hk => ?_⟩
  · rcases shT_row h with ⟨rfl, l0, h0, e⟩ | ⟨hne, h0⟩
    · rw [e, List.length_map]; exact G.cols _ _ h0
    · exact G.cols _ _ h0
  · rw [shT_cst G hi hk]
    have := G.rng i k hi hk
    split
    · rename_i e
      subst e
      have := hr k hk
      unfold shF; split <;> omega
    · exact this
theorem chkT_of {n m : Nat} {ls : List (List Int)} (h1 : 1 ≤ n) (h2 : n ≤ m) (h3 : m ≤ 64) (G : Good n m ls) : chkT ls = true := by
  obtain ⟨l0, hl0, hm0⟩ := G.row (i := 0) (by omega)
  have e0 : (ls.getD 0 []).length = m := by rw [List.getD_eq_getElem?_getD, hl0]; exact hm0
  unfold chkT
  rw [e0, G.rows]
  have a1 : inB (n : Int) 1 64 = true := by unfold inB; simp; omega
  have a2 : inB (m : Int) (n : Int) 64 = true := by unfold inB; simp; omega
  rw [a1, a2]
  simp only [Bool.true_and, List.all_eq_true]
  intro l hl
  obtain ⟨i, hi, e⟩ := List.mem_iff_getElem.1 hl
  have hli : ls[i]? = some l := by rw [List.getElem?_eq_getElem hi, e]
  have hlm := G.cols i l hli
  unfold rowB
  simp only [Bool.and_eq_true, decide_eq_true_eq, List.all_eq_true]
  refine ⟨hlm, fun x hx => ?_⟩
  obtain ⟨k, hk, e2⟩ := List.mem_iff_getElem.1 hx
  have := G.rng i k (by rw [← G.rows]; exact hi) (by omega)
  rw [cst_of hli, List.getD_eq_getElem?_getD, List.getElem?_eq_getElem hk, e2] at this
  unfold costB inB
  simp
  exact this

section
variable {n m r : Nat} {c c' : Nat → Nat → Int} {by' : Int}
theorem asg_sh (hc : ∀ i k, i < n → k < m → (c' i k = -1 ↔ c i k = -1)) {τ : Nat → Nat} : Asg n m c' τ ↔ Asg n m c τ :=
  ⟨fun h => ⟨fun i hi => ⟨(h.ok i hi).1, fun e => (h.ok i hi).2 ((hc i _ hi (h.ok i hi).1).2 e)⟩, h.inj⟩,
   fun h => ⟨fun i hi => ⟨(h.ok i hi).1, fun e => (h.ok i hi).2 ((hc i _ hi (h.ok i hi).1).1 e)⟩, h.inj⟩⟩
/-- The same assignment is the least one, and costs the constant more. -/
theorem lexmin_sh (hr : r < n) (hc : ∀ i k, i < n → k < m → -1 ≤ c i k ∧ c' i k = if i = r then shF by' (c i k) else c i k) (hb : 0 ≤ by') :
    (∀ τ, Asg n m c' τ ↔ Asg n m c τ) ∧ (∀ τ, Asg n m c τ → costN c' τ n = costN c τ n + by') ∧ ∀ to, LexMin n m c to → LexMin n m c' to := by
  have hiff : ∀ i k, i < n → k < m → (c' i k = -1 ↔ c i k = -1) := by
    intro i k hi hk
    obtain ⟨h1, h2⟩ := hc i k hi hk
    rw [h2]
    unfold shF
    split
    · split <;> omega
    · exact Iff.rfl
  have hasg : ∀ τ, Asg n m c' τ ↔ Asg n m c τ := fun τ => asg_sh hiff
  have hcost : ∀ τ, Asg n m c τ → costN c' τ n = costN c τ n + by' := by
    intro τ h
    have hu := sumN_upd (f := fun i => c i (τ i)) (g := fun i => c' i (τ i)) hr (fun j hj hne => by
      show c' j (τ j) = c j (τ j)
      rw [(hc j _ hj (h.ok j hj).1).2, if_neg hne])
    unfold costN
    rw [hu]
    obtain ⟨h1, h2⟩ := hc r _ hr (h.ok r hr).1
    have h3 := (h.ok r hr).2
    show _ + (c' r (τ r) - c r (τ r)) = _
    rw [h2, if_pos rfl]
    unfold shF
    rw [if_pos (by omega)]
    omega
  refine ⟨hasg, hcost, fun to h => ⟨(hasg to).2 h.asg, fun τ hτ => ?_, fun τ hτ he a ha hp => ?_⟩⟩
  · have h1 := (hasg τ).1 hτ
    rw [hcost _ h.asg, hcost _ h1]
    have := h.least τ h1
    omega
  · have h1 := (hasg τ).1 hτ
    rw [hcost _ h.asg, hcost _ h1] at he
    exact h.lex τ h1 (by omega) a ha hp
end
theorem fl_is (f : Nat → Int) (n : Nat) : fl f n = is ((List.range n).map f) := by simp [fl, is]

end Go.Proofs.Ytncmfjncdhhjoaa
