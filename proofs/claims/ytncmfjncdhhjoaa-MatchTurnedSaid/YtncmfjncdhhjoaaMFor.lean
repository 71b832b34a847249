/- The first rows keep their columns, and the next one takes a lesser one: that costs more. -/
import Derived.Test.YtncmfjncdhhjoaaMLeast
namespace Go.Proofs.Ytncmfjncdhhjoaa

/-- What stays of the table. -/
def forM (r : Nat) (to : Nat → Nat) (c : Nat → Nat → Int) (i k : Nat) : Int := if (i < r ∧ k ≠ to i) ∨ (i = r ∧ to i ≤ k) then -1 else c i k
/-- The same, done for the first j rows and k0 columns of the row j. -/
def forP (r : Nat) (to : Nat → Nat) (c : Nat → Nat → Int) (j k0 i k : Nat) : Int := if i < j ∨ (i = j ∧ k < k0) then forM r to c i k else c i k
theorem forced {n m r : Nat} {c : Nat → Nat → Int} {to τ : Nat → Nat} (hr : r < n) (L : LexMin n m c to) (A : Asg n m (forM r to c) τ) : costN c to n < costN (forM r to c) τ n := by
  have hf : ∀ i, i < n → ¬ ((i < r ∧ τ i ≠ to i) ∨ (i = r ∧ to i ≤ τ i)) := fun i hi h => (A.ok i hi).2 (by unfold forM; rw [if_pos h])
  have he : ∀ i, i < n → forM r to c i (τ i) = c i (τ i) := fun i hi => by unfold forM; rw [if_neg (hf i hi)]
  have A' : Asg n m c τ := ⟨fun i hi => ⟨(A.ok i hi).1, by rw [← he i hi]; exact (A.ok i hi).2⟩, A.inj⟩
  have hc : costN (forM r to c) τ n = costN c τ n := sumN_congr fun i hi => he i hi
  rw [hc]
  have h1 := L.least τ A'
  suffices hne : costN c to n ≠ costN c τ n by omega
  intro e
  have h2 := L.lex τ A' e.symm r hr fun b hb => by
    have := hf b (by omega)
    omega
  have h3 := hf r hr
  omega
end Go.Proofs.Ytncmfjncdhhjoaa
