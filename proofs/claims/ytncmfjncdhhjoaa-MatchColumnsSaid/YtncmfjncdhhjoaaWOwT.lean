/- A table of the call's own, with all that the laws ask of it. -/
import Derived.Test.YtncmfjncdhhjoaaWShi
import Derived.Test.YtncmfjncdhhjoaaWRTot
namespace Go.Proofs.Ytncmfjncdhhjoaa
open Go.RowKit

/-- A table of the call's own, with all that the laws ask of it. -/
structure OwnT (w : World) (g : Nat) (us : List (List Int)) : Prop where
  tab : Tab w.heap.size w (some ⟨g, 0, none⟩) us
  inn : TabIn w (some ⟨g, 0, none⟩) us
theorem ownT_of {B : Nat} {w : World} {v : Value} {es : List (Value × List Int)} {us : List (List Int)} (h : Held B w v es) (hv : v ≠ .slice none 0 0) (hn : ∀ x, x ∈ es → x.1 ≠ .slice none 0 0) (he : es.map (·.2) = us) :
    ∃ g cap, v = .slice (some ⟨g, 0, none⟩) us.length cap ∧ OwnT w g us := by
  subst he
  obtain ⟨g, cap, e, hT⟩ := h.tab hv hn
  obtain ⟨g', cap', e', hTI⟩ := h.tabIn hv hn
  rw [e] at e'
  injection e' with e1 e2 e3
  injection e1 with e1
  injection e1 with e1
  subst e1
  exact ⟨g, cap, by rw [e, List.length_map], hT, hTI⟩
theorem OwnT.keep {w w' : World} {g : Nat} {us : List (List Int)} (h : OwnT w g us) (hb : Below w.heap.size w w') : OwnT w' g us := ⟨(h.tab.keep hb).mono hb.size, h.inn.keep hb⟩
theorem chkT_tbl {ts : List (List Int)} {R C : Nat} (h : chkT ts = true) (hR : 1 ≤ R) (hRC : R ≤ C) : chkT (tblL ts R C) = true := by
  obtain ⟨n, m, hn, hm, h1, h2, h3, G⟩ := chkT_good h
  have hat : ∀ i l, (tblL ts R C)[i]? = some l → ∃ l', ts[i]? = some l' ∧ l = l'.take C ∧ i < R := fun i l hl => by
    unfold tblL at hl
    rw [List.getElem?_map, List.getElem?_take] at hl
    split at hl
    · obtain ⟨l', hl', rfl⟩ := Option.map_eq_some_iff.1 hl
      exact ⟨l', hl', rfl, by assumption⟩
    · cases hl
  have hlen : (tblL ts R C).length = min R n := by unfold tblL; rw [List.length_map, List.length_take, hn]
  refine chkT_of (n := min R n) (m := min C m) ?_ ?_ ?_ ⟨hlen, fun i l hl => ?_, fun i k hi hk => ?_⟩
  · omega
  · omega
  · omega
  · obtain ⟨l', hl', rfl, _⟩ := hat i l hl
    rw [List.length_take, G.cols i l' hl']
  · obtain ⟨l, hl⟩ : ∃ l, (tblL ts R C)[i]? = some l := ⟨_, List.getElem?_eq_getElem (by rw [hlen]; exact hi)⟩
    obtain ⟨l', hl', rfl, _⟩ := hat i l hl
    have hkC : k < C := by omega
    have e : cst (tblL ts R C) i k = cst ts i k := by
      rw [cst_of hl, cst_of hl', List.getD_eq_getElem?_getD, List.getElem?_take, if_pos hkC, ← List.getD_eq_getElem?_getD]
    rw [e]
    exact G.rng i k (by omega) (by omega)
/-- An assignment as a list of its columns. -/
theorem isAsg_of2 {n m : Nat} {c : Nat → Nat → Int} {to : Nat → Nat} (h : Asg n m c to) : IsAsg n m c ((List.range n).map fun i => (to i : Int)) ∧ ∀ i, i < n → colOf ((List.range n).map fun i => (to i : Int)) i = to i := by
  have hg : ∀ i, i < n → ((List.range n).map fun i => (to i : Int)).getD i 0 = (to i : Int) := fun i hi => by simp [List.getD_eq_getElem?_getD, hi]
  have hc : ∀ i, i < n → colOf ((List.range n).map fun i => (to i : Int)) i = to i := fun i hi => by unfold colOf; rw [hg i hi]; simp
  exact ⟨⟨by simp, fun i hi => by rw [hg i hi]; omega, ⟨fun i hi => by rw [hc i hi]; exact h.ok i hi, fun i j hi hj e => by rw [hc i hi, hc j hj] at e; exact h.inj i j hi hj e⟩⟩, hc⟩


end Go.Proofs.Ytncmfjncdhhjoaa
