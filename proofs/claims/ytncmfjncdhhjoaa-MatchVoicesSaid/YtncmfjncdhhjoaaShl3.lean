/- What the frame of a law's proof tells of a slice of slices of ints. -/
import Derived.Test.YtncmfjncdhhjoaaShl2
import Derived.Test.YtncmfjncdhhjoaaWTbl
import Derived.Deep.Matrix
namespace Go.Proofs.Ytncmfjncdhhjoaa
open Go.ChangeShapes Go.WideShapes Go.ChangeAt Go.RowKit

def IsRows (w : World) (a : Option Addr) (len cap : Nat) : Prop :=
  (a = none ∧ len = 0 ∧ cap = 0) ∨
  ∃ (x : Addr) (A : Nat → Option Addr) (L C : Nat → Nat) (Z : Nat → List Int), a = some x ∧ len ≤ cap ∧ cap ≤ maxLen ∧
    ∀ r, r < cap → w.cell? (x.add r) = some (.slice (A r) (L r) (C r)) ∧ L r ≤ C r ∧ (Z r).length = C r ∧ (A r = none → C r = 0) ∧
      ∀ a', A r = some a' → ∀ c, c < C r → w.cell? (a'.add c) = some (.int .i64 ((Z r).getD c 0))

theorem addr_add {b off i : Nat} : (⟨b, off, none⟩ : Addr).add i = ⟨b, off + i, none⟩ := by
  unfold Addr.add
  split
  · rename_i h; subst h; rfl
  · rfl
theorem rows_tab {w : World} {a : Option Addr} {len cap : Nat} (h : IsRows w a len cap) : ∃ ls : List (List Int), TabIn w a ls ∧ len = ls.length := by
  rcases h with ⟨rfl, rfl, rfl⟩ | ⟨x, A, L, C, Z, rfl, hl, hm, hall⟩
  · exact ⟨[], ⟨[], rfl, Vals.nil, fun i l hl => by simp at hl⟩, rfl⟩
  · refine ⟨(List.range len).map fun r => (Z r).take (L r), ⟨(List.range len).map fun r => .slice (A r) (L r) (C r), by simp, fun hp => ?_, fun i l hi => ?_⟩, by simp⟩
    · have hlen : 0 < len := by simpa using hp
      obtain ⟨h0, _⟩ := hall 0 (by omega)
      obtain ⟨b, off, spot⟩ := x
      have hspot : spot = none := by simpa [Addr.add] using World.cell?_spot h0
      subst hspot
      refine ⟨b, off, rfl, ?_, fun i v hv => ?_⟩
      · have := block_lt_of_cell h0
        rw [addr_add] at this
        exact this
      · rw [List.getElem?_map] at hv
        obtain ⟨r, hr, rfl⟩ := Option.map_eq_some_iff.1 hv
        have hri := List.getElem?_eq_some_iff.1 hr
        obtain ⟨hr1, hr2⟩ := hri
        rw [List.getElem_range] at hr2
        subst hr2
        rw [List.length_range] at hr1
        have := (hall i (by omega)).1
        rwa [addr_add] at this
    · rw [List.getElem?_map] at hi
      obtain ⟨r, hr, rfl⟩ := Option.map_eq_some_iff.1 hi
      obtain ⟨hr1, hr2⟩ := List.getElem?_eq_some_iff.1 hr
      rw [List.getElem_range] at hr2
      subst hr2
      rw [List.length_range] at hr1
      obtain ⟨h0, h1, h2, h3, h4⟩ := hall i (by omega)
      have hlen : ((Z i).take (L i)).length = L i := by rw [List.length_take]; omega
      refine ⟨A i, C i, ?_, by omega, h3, fun hp => ?_⟩
      · rw [List.getElem?_map, hr]
        show some _ = some _
        rw [hlen]
      · rw [is_len, hlen] at hp
        cases hA : A i with
        | none => have := h3 hA; omega
        | some a' =>
          have hc := h4 a' hA
          have hc0 := hc 0 (by omega)
          obtain ⟨b, off, spot⟩ := a'
          have hspot : spot = none := by simpa [Addr.add] using World.cell?_spot hc0
          subst hspot
          refine ⟨b, off, rfl, ?_, fun j v hv => ?_⟩
          · have := block_lt_of_cell hc0
            rw [addr_add] at this
            exact this
          · have hj : j < L i := by
              have := (List.getElem?_eq_some_iff.1 hv).1
              rw [is_len, hlen] at this; exact this
            have hv2 := is_cell (l := (Z i).take (L i)) (k := j) (by rw [hlen]; exact hj)
            rw [hv] at hv2
            injection hv2 with hv2
            subst hv2
            have := hc j (by omega)
            rw [addr_add] at this
            rw [this]
            congr 2
            rw [List.getD_eq_getElem?_getD, List.getD_eq_getElem?_getD, List.getElem?_take, if_pos hj]

end Go.Proofs.Ytncmfjncdhhjoaa
