/- What is worth more than what: wider panels, thinner saws, more shapes, turned panels; the ceiling. Plain. -/
import Derived.Test.YtkfjlgjncaddpaaPlanP
namespace Go.Proofs.Ytkfjlgjncaddpaa

theorem grow_w (kerf : Nat) (ss : List Sh) (i j : Nat) (hi : 1 ≤ i) (hj : 1 ≤ j) : (best kerf ss i j).v ≤ (best kerf ss (i + 1) j).v := by
  have h := (best_upper kerf ss (i + 1) j).across (i + 1) j i (Nat.le_refl _) (Nat.le_refl _) hj hi (by omega)
  have h1 : pu (fun i j => (best kerf ss i j).v) i j = (best kerf ss i j).v := by unfold pu; rw [if_neg (by omega)]; rfl
  have h2 := pu_nn (U := fun i j => (best kerf ss i j).v) (fun i j => best_nn kerf ss i j) (((i + 1 : Nat) : Int) - i - kerf) j
  rw [h1] at h
  change _ + _ ≤ (best kerf ss (i + 1) j).v at h
  omega
theorem grow_h (kerf : Nat) (ss : List Sh) (i j : Nat) (hi : 1 ≤ i) (hj : 1 ≤ j) : (best kerf ss i j).v ≤ (best kerf ss i (j + 1)).v := by
  have h := (best_upper kerf ss i (j + 1)).down i (j + 1) j (Nat.le_refl _) (Nat.le_refl _) hi hj (by omega)
  have h1 : pu (fun i j => (best kerf ss i j).v) i j = (best kerf ss i j).v := by unfold pu; rw [if_neg (by omega)]; rfl
  have h2 := pu_nn (U := fun i j => (best kerf ss i j).v) (fun i j => best_nn kerf ss i j) i (((j + 1 : Nat) : Int) - j - kerf)
  rw [h1] at h
  change _ + _ ≤ (best kerf ss i (j + 1)).v at h
  omega
theorem grow_wn (kerf : Nat) (ss : List Sh) (i j n : Nat) (hi : 1 ≤ i) (hj : 1 ≤ j) : (best kerf ss i j).v ≤ (best kerf ss (i + n) j).v := by
  induction n with
  | zero => exact Int.le_refl _
  | succ n ih => exact Int.le_trans ih (grow_w kerf ss (i + n) j (by omega) hj)
theorem grow_hn (kerf : Nat) (ss : List Sh) (i j n : Nat) (hi : 1 ≤ i) (hj : 1 ≤ j) : (best kerf ss i j).v ≤ (best kerf ss i (j + n)).v := by
  induction n with
  | zero => exact Int.le_refl _
  | succ n ih => exact Int.le_trans ih (grow_h kerf ss i (j + n) hi (by omega))
theorem grows (kerf : Nat) (ss : List Sh) (i j i' j' : Nat) (hi : 1 ≤ i) (hj : 1 ≤ j) (h1 : i ≤ i') (h2 : j ≤ j') : (best kerf ss i j).v ≤ (best kerf ss i' j').v := by
  have e1 : i' = i + (i' - i) := by omega
  have e2 : j' = j + (j' - j) := by omega
  rw [e1, e2]
  exact Int.le_trans (grow_wn kerf ss i j _ hi hj) (grow_hn kerf ss _ j _ (by omega) hj)
theorem pu_grows (kerf : Nat) (ss : List Sh) (a b c d : Int) (h1 : a ≤ c) (h2 : b ≤ d) : pu (fun i j => (best kerf ss i j).v) a b ≤ pu (fun i j => (best kerf ss i j).v) c d := by
  unfold pu
  by_cases e : a < 1 ∨ b < 1
  · rw [if_pos e]
    split
    · omega
    · exact best_nn _ _ _ _
  · rw [if_neg e, if_neg (by omega)]
    exact grows kerf ss _ _ _ _ (by omega) (by omega) (by omega) (by omega)
/-- A thinner saw and other shapes that serve as well. -/
theorem better {kerf kerf' : Nat} {ss ss' : List Sh} (hk : kerf' ≤ kerf) (hs : ∀ s, s ∈ ss → ∀ i j : Nat, isS s i j = true ∨ isT s i j = true → ∃ s', s' ∈ ss' ∧ s.v ≤ s'.v ∧ (isS s' i j = true ∨ isT s' i j = true)) (i j : Nat) (hi : 1 ≤ i) (hj : 1 ≤ j) : (best kerf ss i j).v ≤ (best kerf' ss' i j).v := by
  refine upper_best (kerf := kerf) (ss := ss) (W := i) (H := j) (U := fun i j => (best kerf' ss' i j).v) ?_ (i + j) i j (Nat.le_refl _) hi hj (Nat.le_refl _) (Nat.le_refl _)
  refine ⟨fun a b _ _ => best_nn _ _ _ _, fun a b s h1 h2 h3 h4 => ?_, fun a b x h1 h2 h3 h4 h5 => ?_, fun a b y h1 h2 h3 h4 h5 => ?_⟩
  · obtain ⟨s', h5, h6, h7⟩ := hs s h3 a b h4
    exact Int.le_trans h6 ((best_upper kerf' ss' i j).shape a b s' h1 h2 h5 h7)
  · have h := (best_upper kerf' ss' i j).across a b x h1 h2 h3 h4 h5
    have g := pu_grows kerf' ss' ((a : Int) - x - kerf) b ((a : Int) - x - kerf') b (by omega) (Int.le_refl _)
    exact Int.le_trans (by omega) h
  · have h := (best_upper kerf' ss' i j).down a b y h1 h2 h3 h4 h5
    have g := pu_grows kerf' ss' a ((b : Int) - y - kerf) a ((b : Int) - y - kerf') (Int.le_refl _) (by omega)
    exact Int.le_trans (by omega) h
/-- The turned panel. -/
theorem turned_le {kerf : Nat} {ss ss' : List Sh} (hs : ∀ s, s ∈ ss → ∀ i j : Nat, isS s i j = true ∨ isT s i j = true → ∃ s', s' ∈ ss' ∧ s.v ≤ s'.v ∧ (isS s' j i = true ∨ isT s' j i = true)) (i j : Nat) (hi : 1 ≤ i) (hj : 1 ≤ j) : (best kerf ss i j).v ≤ (best kerf ss' j i).v := by
  refine upper_best (kerf := kerf) (ss := ss) (W := i) (H := j) (U := fun i j => (best kerf ss' j i).v) ?_ (i + j) i j (Nat.le_refl _) hi hj (Nat.le_refl _) (Nat.le_refl _)
  have hpu : ∀ a b : Int, pu (fun i j => (best kerf ss' j i).v) a b = pu (fun i j => (best kerf ss' i j).v) b a := by
    intro a b
    unfold pu
    by_cases e : a < 1 ∨ b < 1
    · rw [if_pos e, if_pos (by omega)]
    · rw [if_neg e, if_neg (by omega)]
  refine ⟨fun a b _ _ => best_nn _ _ _ _, fun a b s h1 h2 h3 h4 => ?_, fun a b x h1 h2 h3 h4 h5 => ?_, fun a b y h1 h2 h3 h4 h5 => ?_⟩
  · obtain ⟨s', h5, h6, h7⟩ := hs s h3 a b h4
    exact Int.le_trans h6 ((best_upper kerf ss' j i).shape b a s' h2 h1 h5 h7)
  · rw [hpu, hpu]
    exact (best_upper kerf ss' j i).down b a x h2 h1 h3 h4 h5
  · rw [hpu, hpu]
    exact (best_upper kerf ss' j i).across b a y h2 h1 h3 h4 h5
/-- A shape that fits is worth no more than the best. -/
theorem fits_le {kerf : Nat} {ss : List Sh} (hok : OkS ss) {s : Sh} (hs : s ∈ ss) {i j : Nat} (h1 : s.w ≤ i) (h2 : s.h ≤ j) : s.v ≤ (best kerf ss i j).v := by
  obtain ⟨a1, a2, a3, a4, a5, a6⟩ := hok s hs
  have h := (best_upper kerf ss s.w.toNat s.h.toNat).shape s.w.toNat s.h.toNat s (Nat.le_refl _) (Nat.le_refl _) hs (.inl (by unfold isS; simp; omega))
  exact Int.le_trans h (grows kerf ss _ _ i j (by omega) (by omega) (by omega) (by omega))

def fitB (s : Sh) (i j : Int) : Bool := (decide (s.w ≤ i) && decide (s.h ≤ j)) || (s.t && (decide (s.h ≤ i) && decide (s.w ≤ j)))
def ceilS (i j : Int) (c : Int) (s : Sh) : Int := if fitB s i j = true then max c (i * j * s.v / (s.w * s.h)) else c
def ceilF (i j : Int) (ss : List Sh) : Int := ss.foldl (ceilS i j) 0
theorem ceil_ge (i j : Int) (c : Int) (l : List Sh) : c ≤ l.foldl (ceilS i j) c ∧ ∀ s ∈ l, fitB s i j = true → i * j * s.v / (s.w * s.h) ≤ l.foldl (ceilS i j) c := by
  induction l generalizing c with
  | nil => exact ⟨Int.le_refl _, fun s h => by cases h⟩
  | cons s l ih =>
    have h1 := ih (ceilS i j c s)
    have h2 : c ≤ ceilS i j c s ∧ (fitB s i j = true → i * j * s.v / (s.w * s.h) ≤ ceilS i j c s) := by
      unfold ceilS
      split
      · exact ⟨by omega, fun _ => by omega⟩
      · rename_i h; exact ⟨Int.le_refl _, fun h' => absurd h' h⟩
    refine ⟨Int.le_trans h2.1 h1.1, fun x hx hf => ?_⟩
    rcases List.mem_cons.1 hx with rfl | hx
    · exact Int.le_trans (h2.2 hf) h1.1
    · exact h1.2 x hx hf
/-- Of several shapes one is worth most for its area. -/
theorem densest (P : Sh → Prop) (l : List Sh) (hl : ∀ s ∈ l, 0 < s.w * s.h ∧ 0 ≤ s.v) : (∃ m, m ∈ l ∧ P m ∧ ∀ s ∈ l, P s → s.v * (m.w * m.h) ≤ m.v * (s.w * s.h)) ∨ ∀ s ∈ l, ¬ P s := by
  induction l with
  | nil => exact .inr fun s h => by cases h
  | cons a l ih =>
    have ha := hl a (by simp)
    rcases ih (fun s hs => hl s (by simp [hs])) with ⟨m, h1, h2, h3⟩ | h
    · have hm := hl m (by simp [h1])
      by_cases e : P a ∧ m.v * (a.w * a.h) < a.v * (m.w * m.h)
      · refine .inl ⟨a, by simp, e.1, fun s hs hp => ?_⟩
        rcases List.mem_cons.1 hs with rfl | hs
        · exact Int.le_refl _
        · have hss := hl s (by simp [hs])
          have k := h3 s hs hp
          have k1 : s.v * (m.w * m.h) * (a.w * a.h) ≤ m.v * (s.w * s.h) * (a.w * a.h) := Int.mul_le_mul_of_nonneg_right k (by omega)
          have k2 : m.v * (a.w * a.h) * (s.w * s.h) ≤ a.v * (m.w * m.h) * (s.w * s.h) := Int.mul_le_mul_of_nonneg_right (by omega) (by omega)
          have k3 : s.v * (a.w * a.h) * (m.w * m.h) ≤ a.v * (s.w * s.h) * (m.w * m.h) := by
            have e1 : s.v * (a.w * a.h) * (m.w * m.h) = s.v * (m.w * m.h) * (a.w * a.h) := by grind
            have e2 : m.v * (s.w * s.h) * (a.w * a.h) = m.v * (a.w * a.h) * (s.w * s.h) := by grind
            have e3 : a.v * (s.w * s.h) * (m.w * m.h) = a.v * (m.w * m.h) * (s.w * s.h) := by grind
            omega
          exact Int.le_of_mul_le_mul_right k3 (by omega)
      · refine .inl ⟨m, by simp [h1], h2, fun s hs hp => ?_⟩
        rcases List.mem_cons.1 hs with rfl | hs
        · have : ¬ m.v * (s.w * s.h) < s.v * (m.w * m.h) := fun k => e ⟨hp, k⟩
          omega
        · exact h3 s hs hp
    · by_cases e : P a
      · refine .inl ⟨a, by simp, e, fun s hs hp => ?_⟩
        rcases List.mem_cons.1 hs with rfl | hs
        · exact Int.le_refl _
        · exact absurd hp (h s hs)
      · refine .inr fun s hs => ?_
        rcases List.mem_cons.1 hs with rfl | hs
        · exact e
        · exact h s hs
theorem ceil_le {kerf : Nat} {ss : List Sh} (hok : OkS ss) (i j : Nat) (hi : 1 ≤ i) (hj : 1 ≤ j) : (best kerf ss i j).v ≤ ceilF i j ss := by
  have hp : ∀ s ∈ ss, 0 < s.w * s.h ∧ 0 ≤ s.v := fun s hs => by
    obtain ⟨a1, a2, a3, a4, a5, a6⟩ := hok s hs
    exact ⟨Int.mul_pos (by omega) (by omega), a5⟩
  have hfit : ∀ s : Sh, (s.w ≤ i ∧ s.h ≤ j ∨ s.t = true ∧ s.h ≤ i ∧ s.w ≤ j) → fitB s i j = true := fun s h => by
    unfold fitB
    simp only [Bool.or_eq_true, Bool.and_eq_true, decide_eq_true_eq]
    rcases h with h | h
    · exact .inl h
    · exact .inr h
  rcases densest (fun s => s.w ≤ i ∧ s.h ≤ j ∨ s.t = true ∧ s.h ≤ i ∧ s.w ≤ j) ss hp with ⟨m, h1, h2, h3⟩ | h
  · obtain ⟨b1, b2⟩ := hp m h1
    have h := upper_best (area_le (A := m.w * m.h) (V := m.v) i j kerf b1 b2 hok (fun s hs hf => h3 s hs hf)) (i + j) i j (Nat.le_refl _) hi hj (Nat.le_refl _) (Nat.le_refl _)
    have h4 := (ceil_ge i j 0 ss).2 m h1 (hfit m h2)
    have e : (i : Int) * j * m.v = m.v * ((i : Int) * j) := by grind
    rw [e] at h4
    exact Int.le_trans h h4
  · have h := upper_best (area_le (A := 1) (V := 0) i j kerf (by omega) (by omega) hok (fun s hs hf => absurd hf (h s hs))) (i + j) i j (Nat.le_refl _) hi hj (Nat.le_refl _) (Nat.le_refl _)
    have h4 := (ceil_ge i j 0 ss).1
    simp at h
    exact Int.le_trans h h4
end Go.Proofs.Ytkfjlgjncaddpaa
