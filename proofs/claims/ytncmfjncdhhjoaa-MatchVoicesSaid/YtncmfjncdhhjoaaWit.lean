/- Part of the proof of MatchVoices. -/
import Derived.Test.YtncmfjncdhhjoaaRows
import Derived.Test.YtncmfjncdhhjoaaVals
namespace Go.Proofs.Ytncmfjncdhhjoaa
open Go.RowKit

def inB (v lo hi : Int) : Bool := decide (lo ≤ v) && decide (v ≤ hi)
theorem inB_t {v lo hi : Int} (h : inB v lo hi = true) : lo ≤ v ∧ v ≤ hi := by simpa [inB] using h
theorem inB_f {v lo hi : Int} (h : inB v lo hi = false) : ¬ (lo ≤ v ∧ v ≤ hi) := by intro k; simp [inB, k.1, k.2] at h
theorem inB_of {v lo hi : Int} (h : lo ≤ v ∧ v ≤ hi) : inB v lo hi = true := by simp [inB, h.1, h.2]
theorem inB_not {v lo hi : Int} (h : ¬ (lo ≤ v ∧ v ≤ hi)) : inB v lo hi = false := by
  cases e : inB v lo hi
  · rfl
  · exact absurd (inB_t e) h

end Go.Proofs.Ytncmfjncdhhjoaa
