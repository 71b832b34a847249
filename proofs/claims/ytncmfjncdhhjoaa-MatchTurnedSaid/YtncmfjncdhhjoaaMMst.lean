/- Plain: rows look for columns one after the other; how many find one; all of them do exactly if there is an assignment. -/
import Derived.Test.YtncmfjncdhhjoaaWAll
namespace Go.Proofs.Ytncmfjncdhhjoaa

/-- The first i rows have looked for columns; c of them have one. -/
inductive Mst (m : Nat) (may : Nat → Nat → Bool) : Nat → (Nat → Int) → Nat → Prop
  | zero : Mst m may 0 (fun _ => -1) 0
  | hit {i c : Nat} {o o' : Nat → Int} {s : Nat → Bool} : Mst m may i o c → Room m may i 0 o (fun _ => false) true o' s → Mst m may (i + 1) o' (c + 1)
  | miss {i c : Nat} {o : Nat → Int} {s : Nat → Bool} : Mst m may i o c → Room m may i 0 o (fun _ => false) false o s → Mst m may (i + 1) o c

/-- A row that is stuck while all before it have columns. -/
def StuckAt (m : Nat) (may : Nat → Nat → Bool) (j : Nat) : Prop := ∃ (o : Nat → Int) (s : Nat → Bool), PairSt m may o j ∧ Room m may j 0 o (fun _ => false) false o s
theorem Mst.part {m : Nat} {may : Nat → Nat → Bool} {i c : Nat} {o : Nat → Int} (h : Mst m may i o c) : (c = i ∧ PairSt m may o i) ∨ (c < i ∧ ∃ j, j < i ∧ StuckAt m may j) := by
  induction h with
  | zero => exact .inl ⟨rfl, pair_start m may⟩
  | hit h R ih =>
    rcases ih with ⟨rfl, S⟩ | ⟨h1, j, h2, h3⟩
    · exact .inl ⟨rfl, S.add R⟩
    · exact .inr ⟨by omega, j, by omega, h3⟩
  | miss h R ih =>
    rename_i i c o s
    rcases ih with ⟨rfl, S⟩ | ⟨h1, j, h2, h3⟩
    · exact .inr ⟨by omega, _, Nat.lt_succ_self _, o, s, S, R⟩
    · exact .inr ⟨by omega, j, by omega, h3⟩
theorem Mst.det {m : Nat} {may : Nat → Nat → Bool} {i c1 c2 : Nat} {o1 o2 : Nat → Int} (h : Mst m may i o1 c1) (g : Mst m may i o2 c2) : o1 = o2 ∧ c1 = c2 := by
  induction h generalizing o2 c2 with
  | zero => cases g; exact ⟨rfl, rfl⟩
  | hit h R ih =>
    cases g with
    | hit g R2 =>
      obtain ⟨rfl, rfl⟩ := ih g
      obtain ⟨_, rfl, _⟩ := R.det R2
      exact ⟨rfl, rfl⟩
    | miss g R2 =>
      obtain ⟨rfl, rfl⟩ := ih g
      exact absurd (R.det R2).1 (by simp)
  | miss h R ih =>
    cases g with
    | hit g R2 =>
      obtain ⟨rfl, rfl⟩ := ih g
      exact absurd (R.det R2).1 (by simp)
    | miss g R2 => exact ih g
theorem Mst.dom {m : Nat} {may : Nat → Nat → Bool} {i c : Nat} {o : Nat → Int} (h : Mst m may i o c) : ∀ j, j < m → -1 ≤ o j := by
  induction h with
  | zero => intro j _; show (-1 : Int) ≤ -1; omega
  | hit h R ih => exact R.dom ih
  | miss h R ih => exact ih
/-- Who is stuck hinders every assignment. -/
theorem StuckAt.no {n m j : Nat} {c : Nat → Nat → Int} (h : StuckAt m (mayC c) j) (hj : j < n) (τ : Nat → Nat) : ¬ Asg n m c τ := fun A => by
  obtain ⟨o, s, S, R⟩ := h
  have hm : ∀ q, q < n → mayC c q (τ q) = true := fun q hq => by
    have := (A.ok q hq).2
    unfold mayC
    simp; omega
  obtain ⟨v1, v2⟩ := R.vain rfl
  have hr : ¬ Has m o j := fun hh => by have := (S.rows j).1 hh; omega
  have hq : ∀ q : Nat, (∃ k, k < m ∧ s k = true ∧ o k = (q : Int)) → q < j := fun q ⟨k, hk, _, e⟩ => (S.rows q).1 ⟨k, hk, e⟩
  refine stuck (X := fun k => s k = true) (may := mayC c) (o := o) (r := j) (τ := τ) (fun k hk hs => v1 k hk rfl hs) S.inj hr ⟨(A.ok j hj).1, v2 _ (Nat.zero_le _) (A.ok j hj).1 (hm j hj)⟩ ?_ ?_
  · intro q hh
    have := hq q hh
    exact ⟨(A.ok q (by omega)).1, hm q (by omega)⟩
  · intro p q hp hq' e
    have hb : ∀ p : Nat, (p = j ∨ ∃ k, k < m ∧ s k = true ∧ o k = (p : Int)) → p < n := by
      rintro p (rfl | hh)
      · exact hj
      · have := hq p hh; omega
    exact A.inj p q (hb p hp) (hb q hq') e
/-- All rows have columns: that is an assignment. -/
theorem PairSt.asg {n m : Nat} {c : Nat → Nat → Int} {o : Nat → Int} (S : PairSt m (mayC c) o n) (hc : ∀ i k, i < n → k < m → -1 ≤ c i k) : ∃ τ, Asg n m c τ := by
  classical
  have h : ∀ i, i < n → ∃ k, k < m ∧ o k = ((i : Nat) : Int) := fun i hi => (S.rows i).2 hi
  let τ : Nat → Nat := fun i => if hi : i < n then (h i hi).choose else 0
  have hs : ∀ i, i < n → τ i < m ∧ o (τ i) = (i : Int) := fun i hi => by
    simp only [τ, dif_pos hi]
    exact (h i hi).choose_spec
  refine ⟨τ, ⟨fun i hi => ?_, fun i j hi hj e => ?_⟩⟩
  · obtain ⟨h1, h2⟩ := hs i hi
    have h3 := S.edge _ h1 i h2
    unfold mayC at h3
    have h4 := hc i (τ i) hi h1
    refine ⟨h1, ?_⟩
    simp at h3
    omega
  · have h1 := (hs i hi).2
    have h2 := (hs j hj).2
    rw [e] at h1
    omega
end Go.Proofs.Ytncmfjncdhhjoaa
