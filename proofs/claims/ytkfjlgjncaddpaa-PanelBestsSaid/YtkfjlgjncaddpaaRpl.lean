/- The reference's plan, plain: the first of all offers that reaches the greatest value is the best choice. -/
import Derived.Test.YtkfjlgjncaddpaaRtb
import Derived.Test.YtkfjlgjncaddpaaPlanP
namespace Go.Proofs.Ytkfjlgjncaddpaa

theorem pc_best {C : Nat → Nat → Int} {kerf n H : Nat} {ss : List Sh} (hC : ∀ a b, a < n → b < H → C a b = (best kerf ss (a + 1) (b + 1)).v) {a b : Int} (ha : a ≤ n) (hb : b ≤ H) : pc C a b = pv (best kerf ss) a b := by
  unfold pc pv
  split
  · rfl
  · rw [hC _ _ (by omega) (by omega), show a.toNat - 1 + 1 = a.toNat by omega, show b.toNat - 1 + 1 = b.toNat by omega]
theorem offs_best {C : Nat → Nat → Int} {kerf n H i j : Nat} {ss : List Sh} (hC : ∀ a b, a < n → b < H → C a b = (best kerf ss (a + 1) (b + 1)).v) (hi : i ≤ n) (hj : j ≤ H) :
    cho0 :: (offS ss i j ss.length ++ (offA2 C kerf i j (i - 1) ++ offD2 C kerf i j (j - 1))) = cho0 :: offs (best kerf ss) kerf ss i j := by
  unfold offs
  congr 3
  · unfold offA2 offA
    apply List.map_congr_left
    intro q hq
    have hq := List.mem_range.1 hq
    rw [pc_best hC (by omega) (by omega), pc_best hC (by omega) (by omega)]
  · unfold offD2 offD
    apply List.map_congr_left
    intro q hq
    have hq := List.mem_range.1 hq
    rw [pc_best hC (by omega) (by omega), pc_best hC (by omega) (by omega)]
/-- The first place of a value. -/
theorem first_at (l : List Cho) (v : Int) (h : ∃ q, q < l.length ∧ (l.getD q cho0).v = v) : ∃ q, q < l.length ∧ (l.getD q cho0).v = v ∧ ∀ r, r < q → (l.getD r cho0).v ≠ v := by
  obtain ⟨q, h1, h2⟩ := h
  induction q using Nat.strongRecOn with
  | _ q ih =>
    by_cases hm : ∃ r, r < q ∧ (l.getD r cho0).v = v
    · obtain ⟨r, h3, h4⟩ := hm
      exact ih r h3 (by omega) h4
    · exact ⟨q, h1, h2, fun r hr e => hm ⟨r, hr, e⟩⟩
theorem first_best (kerf : Nat) (ss : List Sh) (i j : Nat) : ∃ q, q < (cho0 :: offs (best kerf ss) kerf ss i j).length ∧ (cho0 :: offs (best kerf ss) kerf ss i j).getD q cho0 = best kerf ss i j ∧ ∀ r, r < q → ((cho0 :: offs (best kerf ss) kerf ss i j).getD r cho0).v ≠ (best kerf ss i j).v := by
  obtain ⟨l, hl⟩ : ∃ l, l = offs (best kerf ss) kerf ss i j := ⟨_, rfl⟩
  have hb : best kerf ss i j = l.foldl offer cho0 := by rw [best_eq, hl]; rfl
  rw [← hl, hb]
  have hat : ∀ q x, (cho0 :: l)[q]? = some x → (cho0 :: l).getD q cho0 = x := fun q x h => by rw [List.getD_eq_getElem?_getD, h]; rfl
  have hex : ∃ q, q < (cho0 :: l).length ∧ ((cho0 :: l).getD q cho0).v = (l.foldl offer cho0).v := by
    rcases fold_mem cho0 l with h | h
    · exact ⟨0, by simp, by rw [h]; rfl⟩
    · obtain ⟨q, hq, e⟩ := List.mem_iff_getElem.1 h
      exact ⟨q + 1, by simp; omega, by rw [hat (q + 1) (l.foldl offer cho0) (by rw [List.getElem?_cons_succ, List.getElem?_eq_getElem hq, e])]⟩
  obtain ⟨q, h1, h2, h3⟩ := first_at _ _ hex
  refine ⟨q, h1, ?_, h3⟩
  have hk : (cho0 :: l)[q]? = some ((cho0 :: l).getD q cho0) := by rw [List.getD_eq_getElem?_getD, List.getElem?_eq_getElem h1]; rfl
  refine (fold_first cho0 l q _ hk h2 fun r y hr hy => ?_).symm
  have := h3 r hr
  rw [hat r y hy] at this
  exact this
theorem planN_pos {kerf : Nat} {ss : List Sh} {n i j : Nat} (hi : 1 ≤ i) (hj : 1 ≤ j) (hn : 1 ≤ n) : 0 < (planN kerf ss n i j).length := by
  cases n with
  | zero => omega
  | succ n => rw [planN_at hi hj rfl rfl]; simp
end Go.Proofs.Ytkfjlgjncaddpaa
