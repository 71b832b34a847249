/- Plain: Koenig; a table turned. -/
import Derived.Test.YtncmfjncdhhjoaaMMst
import Derived.Test.YtncmfjncdhhjoaaMLeast

/- Plain: Koenig: how many rows can have columns is the least number of rows and columns that contain all. -/
namespace Go.Proofs.Ytncmfjncdhhjoaa

def cntP (p : Nat → Prop) [DecidablePred p] (n : Nat) : Nat := ((List.range n).filter (fun k => decide (p k))).length
theorem cntP_le {p q : Nat → Prop} [DecidablePred p] [DecidablePred q] {n m : Nat} {f : Nat → Nat} (hf : ∀ k, k < n → p k → f k < m ∧ q (f k)) (hi : ∀ a b, a < n → b < n → p a → p b → f a = f b → a = b) : cntP p n ≤ cntP q m := by
  unfold cntP
  have h := nodup_le (l1 := ((List.range n).filter (fun k => decide (p k))).map f) (l2 := (List.range m).filter (fun k => decide (q k)))
    (nodup_map (List.Pairwise.filter _ List.nodup_range) fun a b ha hb e => by
      simp only [List.mem_filter, List.mem_range, decide_eq_true_eq] at ha hb
      exact hi a b ha.1 hb.1 ha.2 hb.2 e)
    (by
      intro x hx
      obtain ⟨k, hk, rfl⟩ := List.mem_map.1 hx
      simp only [List.mem_filter, List.mem_range, decide_eq_true_eq] at hk ⊢
      exact hf k hk.1 hk.2)
  rwa [List.length_map] at h
theorem cntP_split (p q : Nat → Prop) [DecidablePred p] [DecidablePred q] (n : Nat) : cntP p n = cntP (fun k => p k ∧ q k) n + cntP (fun k => p k ∧ ¬ q k) n := by
  unfold cntP
  induction n with
  | zero => rfl
  | succ n ih =>
    simp only [List.range_succ, List.filter_append, List.length_append]
    rw [ih]
    by_cases hp : p n <;> by_cases hq : q n <;> simp [hp, hq] <;> omega
theorem cntP_succ (p : Nat → Prop) [DecidablePred p] (n : Nat) : cntP p (n + 1) = cntP p n + (if p n then 1 else 0) := by
  unfold cntP
  rw [List.range_succ, List.filter_append, List.length_append]
  by_cases h : p n <;> simp [h]
theorem cntP_congr {p q : Nat → Prop} [DecidablePred p] [DecidablePred q] {n : Nat} (h : ∀ k, k < n → (p k ↔ q k)) : cntP p n = cntP q n := by
  unfold cntP
  refine congrArg List.length (List.filter_congr fun k hk => ?_)
  exact decide_eq_decide.2 (h k (List.mem_range.1 hk))

open Classical in
/-- What the search leaves: a matching, and columns that show that it is a greatest one. -/
structure Kon (m : Nat) (may : Nat → Nat → Bool) (i : Nat) (o : Nat → Int) (c : Nat) (X : Nat → Prop) : Prop where
  inj : Inj m o
  own : ∀ q, Has m o q → q < i
  edge : ∀ j, j < m → ∀ q : Nat, o j = (q : Int) → may q j = true
  cnt : c = cntP (fun q => Has m o q) i
  shut : Shut m may o X
  bare : ∀ q, q < i → ¬ Has m o q → ∀ k, k < m → may q k = true → X k

open Classical in
theorem Mst.kon {m : Nat} {may : Nat → Nat → Bool} {i c : Nat} {o : Nat → Int} (h : Mst m may i o c) : ∃ X, Kon m may i o c X := by
  induction h with
  | zero =>
    refine ⟨fun _ => False, ⟨fun i j _ _ _ h => ?_, fun q ⟨j, _, e⟩ => ?_, fun j _ q e => ?_, rfl, fun j _ h => h.elim, fun q h => by omega⟩⟩
    all_goals first | (exfalso; (try dsimp only at h); omega) | (exfalso; (try dsimp only at e); omega)
  | hit h R ih =>
    rename_i i c o o' s
    obtain ⟨X, K⟩ := ih
    have hr : ¬ Has m o i := fun hh => by have := K.own i hh; omega
    have A := R.found K.inj hr
    obtain ⟨e1, _⟩ := R.shut K.shut
    refine ⟨X, ⟨A.inj, fun q hq => ?_, fun j hj q e => ?_, ?_, fun j hj hX => ?_, fun q hq hn k hk hm => ?_⟩⟩
    · rcases (A.rows q).1 hq with h3 | rfl
      · have := K.own q h3; omega
      · omega
    · rcases A.edge j hj q e with h1 | h1
      · exact K.edge j hj q h1
      · exact h1
    · rw [cntP_succ, if_pos ((A.rows i).2 (.inr rfl)), K.cnt]
      congr 1
      refine cntP_congr fun q hq => ⟨fun h => (A.rows q).2 (.inl h), fun h => ?_⟩
      rcases (A.rows q).1 h with h | rfl
      · exact h
      · omega
    · obtain ⟨q, e, hc⟩ := K.shut j hj hX
      exact ⟨q, by rw [e1 j hX]; exact e, hc⟩
    · have hqi : q ≠ i := fun e => hn ((A.rows q).2 (.inr e))
      exact K.bare q (by omega) (fun h => hn ((A.rows q).2 (.inl h))) k hk hm
  | miss h R ih =>
    rename_i i c o s
    obtain ⟨X, K⟩ := ih
    obtain ⟨v1, v2⟩ := R.vain rfl
    have hr : ¬ Has m o i := fun hh => by have := K.own i hh; omega
    refine ⟨fun k => X k ∨ s k = true, ⟨K.inj, fun q hq => by have := K.own q hq; omega, K.edge, ?_, fun j hj hX => ?_, fun q hq hn k hk hm => ?_⟩⟩
    · rw [cntP_succ, if_neg hr, K.cnt]
      rfl
    · rcases hX with hX | hX
      · obtain ⟨q, e, hc⟩ := K.shut j hj hX
        exact ⟨q, e, fun k hk hm => .inl (hc k hk hm)⟩
      · obtain ⟨q, e, hc⟩ := v1 j hj rfl hX
        exact ⟨q, e, fun k hk hm => .inr (hc k hk hm)⟩
    · by_cases e : q = i
      · subst e
        exact .inr (v2 k (Nat.zero_le _) hk hm)
      · exact .inl (K.bare q (by omega) hn k hk hm)

open Classical in
/-- Rows and columns that contain all are at least as many. -/
theorem Kon.least {m n c : Nat} {may : Nat → Nat → Bool} {o : Nat → Int} {X : Nat → Prop} (K : Kon m may n o c X) (S : Nat → Prop) :
    c ≤ cntP S n + cntP (fun k => ∃ q, q < n ∧ ¬ S q ∧ may q k = true) m := by
  rw [K.cnt, cntP_split _ S]
  have h1 : cntP (fun q => Has m o q ∧ S q) n ≤ cntP S n := cntP_le (f := fun q => q) (fun k hk h => ⟨hk, h.2⟩) (fun a b _ _ _ _ e => e)
  let κ : Nat → Nat := fun q => if h : Has m o q then h.choose else 0
  have hκ : ∀ q, Has m o q → κ q < m ∧ o (κ q) = (q : Int) := fun q h => by
    simp only [κ, dif_pos h]
    exact h.choose_spec
  have h2 : cntP (fun q => Has m o q ∧ ¬ S q) n ≤ cntP (fun k => ∃ q, q < n ∧ ¬ S q ∧ may q k = true) m := cntP_le (f := κ) (fun q hq h => by
      obtain ⟨k1, k2⟩ := hκ q h.1
      exact ⟨k1, q, hq, h.2, K.edge _ k1 q k2⟩) (fun a b _ _ ha hb e => by
      have h1 := (hκ a ha.1).2
      have h2 := (hκ b hb.1).2
      rw [e, h2] at h1
      omega)
  omega

open Classical in
/-- Some rows and columns that contain all are no more. -/
theorem Kon.cover {m n c : Nat} {may : Nat → Nat → Bool} {o : Nat → Int} {X : Nat → Prop} (K : Kon m may n o c X) :
    ∃ S : Nat → Prop, cntP S n + cntP (fun k => ∃ q, q < n ∧ ¬ S q ∧ may q k = true) m ≤ c := by
  obtain ⟨S, hS⟩ : ∃ S : Nat → Prop, ∀ q, S q ↔ (Has m o q ∧ ¬ ∃ k, k < m ∧ X k ∧ o k = (q : Int)) := ⟨_, fun _ => Iff.rfl⟩
  refine ⟨S, ?_⟩
  have e1 : cntP S n = cntP (fun q => Has m o q ∧ ¬ ∃ k, k < m ∧ X k ∧ o k = (q : Int)) n := cntP_congr fun q _ => hS q
  rw [K.cnt, cntP_split (fun q => Has m o q) (fun q => ∃ k, k < m ∧ X k ∧ o k = (q : Int)), e1, Nat.add_comm]
  refine Nat.add_le_add ?_ (Nat.le_of_eq (cntP_congr fun _ _ => Iff.rfl))
  have hX : ∀ k, k < m → (∃ q, q < n ∧ ¬ S q ∧ may q k = true) → X k := by
    rintro k hk ⟨q, hq, hn, hm⟩
    rw [hS] at hn
    by_cases h : Has m o q
    · have : ∃ k, k < m ∧ X k ∧ o k = (q : Int) := Classical.byContradiction fun h2 => hn ⟨h, h2⟩
      obtain ⟨j, hj, hXj, e⟩ := this
      obtain ⟨q', e', hc⟩ := K.shut j hj hXj
      rw [e] at e'
      have : q = q' := by omega
      subst this
      exact hc k hk hm
    · exact K.bare q hq h k hk hm
  refine cntP_le (f := fun k => (o k).toNat) (fun k hk h => ?_) (fun a b ha hb h1 h2 e => ?_)
  · have hx := hX k hk h
    obtain ⟨q, e, _⟩ := K.shut k hk hx
    have e2 : (o k).toNat = q := by rw [e]; simp
    rw [e2]
    exact ⟨K.own q ⟨k, hk, e⟩, ⟨k, hk, e⟩, k, hk, hx, e⟩
  · obtain ⟨p, e1, _⟩ := K.shut a ha (hX a ha h1)
    obtain ⟨q, e2, _⟩ := K.shut b hb (hX b hb h2)
    exact K.inj a b ha hb (by omega) (by omega)
end Go.Proofs.Ytncmfjncdhhjoaa

/- Plain: as many rows as columns can be matched: a square graph turned. -/
namespace Go.Proofs.Ytncmfjncdhhjoaa

theorem turned_le {n c1 c2 : Nat} {may may' : Nat → Nat → Bool} {o1 o2 : Nat → Int} (hm : ∀ i k, i < n → k < n → may' k i = may i k) (h1 : Mst n may n o1 c1) (h2 : Mst n may' n o2 c2) : c1 ≤ c2 := by
  classical
  obtain ⟨X1, K1⟩ := h1.kon
  obtain ⟨X2, K2⟩ := h2.kon
  obtain ⟨S, hS⟩ := K2.cover
  refine Nat.le_trans ?_ hS
  let κ : Nat → Nat := fun q => if h : Has n o1 q then h.choose else 0
  have hκ : ∀ q, Has n o1 q → κ q < n ∧ o1 (κ q) = (q : Int) := fun q h => by
    simp only [κ, dif_pos h]
    exact h.choose_spec
  have hinj : ∀ a b, Has n o1 a → Has n o1 b → κ a = κ b → a = b := fun a b ha hb e => by
    have e1 := (hκ a ha).2
    have e2 := (hκ b hb).2
    rw [e, e2] at e1
    omega
  rw [K1.cnt, cntP_split _ (fun q => S (κ q))]
  refine Nat.add_le_add ?_ ?_
  · exact cntP_le (f := κ) (fun q hq h => ⟨(hκ q h.1).1, h.2⟩) (fun a b _ _ ha hb e => hinj a b ha.1 hb.1 e)
  · refine cntP_le (f := fun q => q) (fun q hq h => ⟨hq, κ q, (hκ q h.1).1, h.2, ?_⟩) (fun a b _ _ _ _ e => e)
    obtain ⟨k1, k2⟩ := hκ q h.1
    rw [hm q _ hq k1]
    exact K1.edge _ k1 q k2
/-- As many of the rows as of the columns. -/
theorem turned_most {n c1 c2 : Nat} {may may' : Nat → Nat → Bool} {o1 o2 : Nat → Int} (hm : ∀ i k, i < n → k < n → may' k i = may i k) (h1 : Mst n may n o1 c1) (h2 : Mst n may' n o2 c2) : c1 = c2 :=
  Nat.le_antisymm (turned_le hm h1 h2) (turned_le (fun i k hi hk => (hm k i hk hi).symm) h2 h1)
end Go.Proofs.Ytncmfjncdhhjoaa

/- A square table with rows and columns exchanged: the same least cost. -/
namespace Go.Proofs.Ytncmfjncdhhjoaa

/-- An assignment read from the columns. -/
theorem asg_turn {n : Nat} {c : Nat → Nat → Int} {τ : Nat → Nat} (A : Asg n n c τ) :
    ∃ σ : Nat → Nat, Asg n n (fun i k => c k i) σ ∧ costN (fun i k => c k i) σ n = costN c τ n := by
  classical
  have honto : ∀ k, k < n → ∃ i, i < n ∧ τ i = k := fun k hk => by
    obtain ⟨i, hi, _, e⟩ := pigeon (m := n) (X := fun _ => True) (f := τ) (fun j hj _ => ⟨(A.ok j hj).1, trivial⟩) (fun i j hi hj _ _ e => A.inj i j hi hj e) hk trivial
    exact ⟨i, hi, e⟩
  let σ : Nat → Nat := fun k => if h : ∃ i, i < n ∧ τ i = k then h.choose else 0
  have hs : ∀ k, k < n → σ k < n ∧ τ (σ k) = k := fun k hk => by
    have h := honto k hk
    simp only [σ, dif_pos h]
    exact h.choose_spec
  have hst : ∀ i, i < n → σ (τ i) = i := fun i hi => by
    obtain ⟨h1, h2⟩ := hs (τ i) (A.ok i hi).1
    exact A.inj _ _ h1 hi h2
  refine ⟨σ, ⟨fun k hk => ⟨(hs k hk).1, ?_⟩, fun i j hi hj e => ?_⟩, ?_⟩
  · have := (A.ok (σ k) (hs k hk).1).2
    rwa [(hs k hk).2] at this
  · rw [← (hs i hi).2, ← (hs j hj).2, e]
  · have h := sum_cols (n := n) (m := n) (v := fun k => c (σ k) k) (rest := fun _ => 0) (fun i hi => (A.ok i hi).1) A.inj
      (fun k hk h => by obtain ⟨i, hi, e⟩ := honto k hk; exact absurd e (h i hi)) (fun _ _ => rfl)
    rw [sumN_zero (f := fun _ => (0 : Int)) fun _ _ => rfl] at h
    show sumN (fun k => c (σ k) k) n = sumN (fun i => c i (τ i)) n
    rw [h, Int.add_zero]
    exact sumN_congr fun i hi => by rw [hst i hi]
/-- The least costs are the same. -/
theorem least_turn {n : Nat} {c : Nat → Nat → Int} {a b : Nat → Nat} (h : LexMin n n c a) (g : LexMin n n (fun i k => c k i) b) : costN c a n = costN (fun i k => c k i) b n := by
  obtain ⟨σ, s1, s2⟩ := asg_turn h.asg
  obtain ⟨ρ, r1, r2⟩ := asg_turn g.asg
  have h1 := g.least σ s1
  have h2 := h.least ρ r1
  have e : costN (fun i k => (fun i k => c k i) k i) ρ n = costN c ρ n := rfl
  rw [e] at r2
  omega
end Go.Proofs.Ytncmfjncdhhjoaa

