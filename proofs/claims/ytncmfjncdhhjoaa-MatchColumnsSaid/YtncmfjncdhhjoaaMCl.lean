/- Plain: a column more, or a cost more, takes no assignment away and makes none dearer. -/
import Derived.Test.YtncmfjncdhhjoaaMLeast
namespace Go.Proofs.Ytncmfjncdhhjoaa

section
variable {n m : Nat} {c c' : Nat → Nat → Int}
theorem asg_wide {m' : Nat} {τ : Nat → Nat} (h : Asg n m c τ) (hm : m ≤ m') (e : ∀ i k, i < n → k < m → c i k ≠ -1 → c' i k = c i k) : Asg n m' c' τ ∧ costN c' τ n = costN c τ n :=
  ⟨⟨fun i hi => ⟨Nat.lt_of_lt_of_le (h.ok i hi).1 hm, by rw [e i _ hi (h.ok i hi).1 (h.ok i hi).2]; exact (h.ok i hi).2⟩, h.inj⟩,
    sumN_congr fun i hi => e i _ hi (h.ok i hi).1 (h.ok i hi).2⟩
/-- The cheapest of a table that allows more costs no more. -/
theorem least_wide {m' : Nat} {to to' : Nat → Nat} (h : LexMin n m c to) (hm : m ≤ m') (e : ∀ i k, i < n → k < m → c i k ≠ -1 → c' i k = c i k) (g : LexMin n m' c' to') : costN c' to' n ≤ costN c to n := by
  obtain ⟨h1, h2⟩ := asg_wide h.asg hm e
  rw [← h2]
  exact g.least to h1
end
end Go.Proofs.Ytncmfjncdhhjoaa
