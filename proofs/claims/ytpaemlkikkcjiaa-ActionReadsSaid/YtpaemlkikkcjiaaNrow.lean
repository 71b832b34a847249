/- The block of a row. -/
import Derived.Test.YtpaemlkikkcjiaaACl
namespace Go.Proofs.Ytpaemlkikkcjiaa
theorem nrow2 {g g' : Nat} {n c : Nat} (h : g ≠ g') : some g ≠ (Value.slice (some ⟨g', 0, none⟩) n c).ownBlock := by
  simp only [Value.ownBlock, ne_eq, Option.some.injEq]
  exact h
end Go.Proofs.Ytpaemlkikkcjiaa
