/- What the frame of a law's proof tells of its arguments: a slice of ints reads as a list, a structure of ints is what it holds. -/
import Derived.Test.YtncmfjncdhhjoaaRows
import Derived.Test.YtncmfjncdhhjoaaVals
import Derived.ProofKit
import Derived.OpenShut
import Derived.ShutString
import Derived.ChangeOld
import Derived.WalkKit
import Derived.WalkSpells
import Derived.WalkLawsBesides
import Derived.Deep.QuietTactic
import Derived.Deep.OwnRows
import Derived.BigQuiet
import Derived.Lib.Hide
import Derived.Laws.Rows
import Derived.Below
namespace Go.Proofs.Ytncmfjncdhhjoaa
open Go.ChangeShapes Go.WideShapes Go.ChangeAt Go.RowKit

/-- What the frame tells of a slice of integers that came in: nil, or a row of cap cells. -/
def IsRow (w : World) (a : Option Addr) (len cap : Nat) (zs : List Int) : Prop :=
  (a = none ∧ len = 0 ∧ cap = 0 ∧ zs = []) ∨
  ∃ x, a = some x ∧ len ≤ cap ∧ cap ≤ maxLen ∧ zs.length = cap ∧ (∀ i, i < zs.length → w.cell? (x.add i) = some (.int .i64 (zs.getD i 0))) ∧ ∀ n ∈ zs, (Lit.int .i64 n).wf = true
theorem rows_ints {w : World} {a : Option Addr} {len cap : Nat} {zs : List Int} (h : IsRow w a len cap zs) :
    ∃ l : List Int, Ints w a l ∧ len = l.length ∧ len ≤ cap ∧ (a = none → cap = 0) ∧ cap ≤ maxLen ∧ ∀ x ∈ l, (Lit.int .i64 x).wf = true := by
  rcases h with ⟨rfl, rfl, rfl, rfl⟩ | ⟨x, rfl, hl, hm, hz, hcell, hwf⟩
  · exact ⟨[], Vals.nil, rfl, Nat.le_refl _, fun _ => rfl, by unfold maxLen; omega, by simp⟩
  · refine ⟨zs.take len, fun hp => ?_, by simp; omega, hl, (fun h => by cases h), hm, fun x hx => hwf x (List.mem_of_mem_take hx)⟩
    have hlen : 0 < zs.length := by simp [is] at hp; omega
    have h0 := hcell 0 hlen
    obtain ⟨b, off, spot⟩ := x
    have hspot : spot = none := by simpa [Addr.add] using World.cell?_spot h0
    subst hspot
    refine ⟨b, off, rfl, ?_, fun i v hv => ?_⟩
    · have := block_lt_of_cell h0
      simpa [Addr.add] using this
    · simp only [is, List.getElem?_map, Option.map_eq_some_iff] at hv
      obtain ⟨z, hz1, rfl⟩ := hv
      rw [List.getElem?_take] at hz1
      split at hz1
      · have hi := (List.getElem?_eq_some_iff.1 hz1).1
        have hc := hcell i hi
        have hzz : zs.getD i 0 = z := by rw [List.getD_eq_getElem?_getD, hz1]; rfl
        rw [hzz] at hc
        have ea : (⟨b, off, none⟩ : Addr).add i = ⟨b, off + i, none⟩ := by
          unfold Addr.add
          split
          · rename_i h; subst h; rfl
          · rfl
        rw [ea] at hc
        exact hc
      · cases hz1

theorem and_t {a b : Bool} (h : a = true) (k : b = true) : (a && b) = true := by rw [h, k]; rfl

end Go.Proofs.Ytncmfjncdhhjoaa
