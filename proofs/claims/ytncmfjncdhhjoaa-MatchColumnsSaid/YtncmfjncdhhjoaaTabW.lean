/- A table of the call's own, all rows of which may be written: n rows of m ints, read as a function. -/
import Derived.Test.YtncmfjncdhhjoaaWLiw
import Derived.Test.YtncmfjncdhhjoaaWTbl
import Derived.Test.YtncmfjncdhhjoaaMShi
namespace Go.Proofs.Ytncmfjncdhhjoaa
open Go.RowKit

/-- The table as a list of rows. -/
def tbF (n m : Nat) (C : Nat → Nat → Int) : List (List Int) := (List.range n).map fun i => (List.range m).map (C i)
theorem tbF_at {n m : Nat} {C : Nat → Nat → Int} {i : Nat} {l : List Int} (h : (tbF n m C)[i]? = some l) : i < n ∧ l = (List.range m).map (C i) := by
  unfold tbF at h
  rw [List.getElem?_map] at h
  obtain ⟨x, hx, rfl⟩ := Option.map_eq_some_iff.1 h
  obtain ⟨h1, h2⟩ := List.getElem?_eq_some_iff.1 hx
  simp at h1 h2
  subst h2
  exact ⟨h1, rfl⟩
theorem tbF_get {n m : Nat} {C : Nat → Nat → Int} {i : Nat} (h : i < n) : (tbF n m C)[i]? = some ((List.range m).map (C i)) := by simp [tbF, h]
theorem tbF_cst {n m : Nat} {C : Nat → Nat → Int} {i k : Nat} (hi : i < n) (hk : k < m) : cst (tbF n m C) i k = C i k := by
  rw [cst_of (tbF_get hi)]; simp [List.getD_eq_getElem?_getD, hk]
theorem tbF_good {n m : Nat} {C : Nat → Nat → Int} (h : ∀ i k, i < n → k < m → -1 ≤ C i k ∧ C i k ≤ 1000000000) : Good n m (tbF n m C) :=
  ⟨by simp [tbF], fun i l hl => by obtain ⟨_, rfl⟩ := tbF_at hl; simp, fun i k hi hk => by rw [tbF_cst hi hk]; exact h i k hi hk⟩
theorem Good.eq_tbF {n m : Nat} {ls : List (List Int)} (G : Good n m ls) : ls = tbF n m (cst ls) := by
  apply List.ext_getElem?
  intro i
  by_cases hi : i < n
  · obtain ⟨l, hl, hm⟩ := G.row hi
    rw [hl, tbF_get hi]
    congr 1
    apply List.ext_getElem?
    intro k
    by_cases hk : k < m
    · have e : ((List.range m).map (cst ls i))[k]? = some (cst ls i k) := by simp [hk]
      rw [e, cst_of hl, List.getD_eq_getElem?_getD, List.getElem?_eq_getElem (by omega)]; rfl
    · rw [List.getElem?_eq_none (by omega), List.getElem?_eq_none (by simp; omega)]
  · rw [List.getElem?_eq_none (by rw [G.rows]; omega), List.getElem?_eq_none (by simp [tbF]; omega)]

structure TW (B : Nat) (w : World) (g cap n m : Nat) (rows : List Value) (gs cs : Nat → Nat) (C : Nat → Nat → Int) : Prop where
  spine : Hd 23 w g cap rows
  num : rows.length = n
  at_ : ∀ i, i < n → rows[i]? = some (.slice (some ⟨gs i, 0, none⟩) m (cs i))
  row : ∀ i, i < n → Hd 3 w (gs i) (cs i) (fl (C i) m)
  far : B ≤ g ∧ ∀ i, i < n → B ≤ gs i ∧ g ≠ gs i
  apart : ∀ i j, i < n → j < n → gs i = gs j → i = j
section
variable {B : Nat} {w w' : World} {g cap n m : Nat} {rows : List Value} {gs cs : Nat → Nat} {C : Nat → Nat → Int}
theorem TW.set (h : TW B w g cap n m rows gs cs C) {i k : Nat} (hi : i < n) (hk : k < m) (x : Int) :
    TW B (w.setCell ⟨gs i, k, none⟩ (.int .i64 x)) g cap n m rows gs cs (upd C i (upd (C i) k x)) := by
  refine ⟨h.spine.setOther (a := ⟨gs i, k, none⟩) (h.far.2 i hi).2 _, h.num, h.at_, fun j hj => ?_, h.far, h.apart⟩
  by_cases e : j = i
  · subst e
    rw [upd_at]
    have := (h.row j hj).set (i := k) (by rw [fl_len]; exact hk) (.int .i64 x)
    rwa [fl_set] at this
  · rw [upd_ne e]
    exact (h.row j hj).setOther (a := ⟨gs i, k, none⟩) (fun e' => e (h.apart j i hj hi e')) _
theorem TW.keep (h : TW B w g cap n m rows gs cs C) (hb : Below w.heap.size w w') : TW B w' g cap n m rows gs cs C :=
  ⟨h.spine.keep hb, h.num, h.at_, fun i hi => (h.row i hi).keep hb, h.far, h.apart⟩
theorem TW.drewN (h : TW B w g cap n m rows gs cs C) (z : Nat) : TW B (w.drewN z) g cap n m rows gs cs C :=
  ⟨h.spine.drewN z, h.num, h.at_, fun i hi => (h.row i hi).drewN z, h.far, h.apart⟩
theorem TW.congr {C' : Nat → Nat → Int} (h : TW B w g cap n m rows gs cs C) (e : ∀ i k, i < n → k < m → C' i k = C i k) : TW B w g cap n m rows gs cs C' :=
  ⟨h.spine, h.num, h.at_, fun i hi => by rw [fl_congr (f := C' i) (g := C i) fun k hk => e i k hi hk]; exact h.row i hi, h.far, h.apart⟩
theorem TW.rowCell (h : TW B w g cap n m rows gs cs C) {i : Nat} (hi : i < n) : w.cell? ⟨g, i, none⟩ = some (.slice (some ⟨gs i, 0, none⟩) m (cs i)) := h.spine.cell (h.at_ i hi)
theorem TW.cell (h : TW B w g cap n m rows gs cs C) {i k : Nat} (hi : i < n) (hk : k < m) : w.cell? ⟨gs i, k, none⟩ = some (.int .i64 (C i k)) := (h.row i hi).cell (fl_at hk)
theorem TW.frozen (h : TW B w g cap n m rows gs cs C) {i : Nat} (hi : i < n) (k : Nat) : w.frozen? ⟨gs i, k, none⟩ = false := (h.row i hi).frozen k
theorem TW.tab (h : TW B w g cap n m rows gs cs C) : Tab w.heap.size w (some ⟨g, 0, none⟩) (tbF n m C) := by
  refine ⟨rows, by rw [h.num]; simp [tbF], VB.of_vals h.spine.vals, fun i l hl => ?_⟩
  obtain ⟨hi, rfl⟩ := tbF_at hl
  have := VB.of_vals (h.row i hi).vals
  rw [fl_is] at this
  exact ⟨some ⟨gs i, 0, none⟩, cs i, by rw [h.at_ i hi]; simp, this⟩
end
theorem own_row' {B : Nat} {w : World} {e : Value × List Int} (h : OwnLs B w e.1 e.2) (hv : e.1 ≠ .slice none 0 0) :
    ∃ g cap, e.1 = .slice (some ⟨g, 0, none⟩) e.2.length cap ∧ B ≤ g ∧ Hd 3 w g cap (is e.2) := by
  obtain ⟨g, cap, e1, h1, _, h3⟩ := Hd.of_owns h hv
  rw [is_len] at e1
  exact ⟨g, cap, e1, h1, h3⟩
theorem choose2 {P : Nat → Nat → Nat → Prop} {n : Nat} (h : ∀ i, i < n → ∃ a b, P i a b) : ∃ f g : Nat → Nat, ∀ i, i < n → P i (f i) (g i) := by
  induction n with
  | zero => exact ⟨fun _ => 0, fun _ => 0, fun i hi => by omega⟩
  | succ n ih =>
    obtain ⟨f, g, hf⟩ := ih fun i hi => h i (by omega)
    obtain ⟨a, b, hab⟩ := h n (by omega)
    refine ⟨upd f n a, upd g n b, fun i hi => ?_⟩
    by_cases e : i = n
    · subst e; rw [upd_at, upd_at]; exact hab
    · rw [upd_ne e, upd_ne e]; exact hf i (by omega)
/-- What table made is such a table. -/
theorem tw_of {B : Nat} {w : World} {v : Value} {es : List (Value × List Int)} (h : Held B w v es) (hv : v ≠ .slice none 0 0) (hn : ∀ x, x ∈ es → x.1 ≠ .slice none 0 0) {ls : List (List Int)} (he : es.map (·.2) = ls)
    {n m : Nat} (G : Good n m ls) : ∃ g cap gs cs, v = .slice (some ⟨g, 0, none⟩) n cap ∧ TW B w g cap n m (es.map (·.1)) gs cs (cst ls) := by
  subst he
  have hl : es.length = n := by have := G.rows; rwa [List.length_map] at this
  obtain ⟨g, cap, e1, hg, _, hH⟩ := Hd.of_owns h.spine hv
  rw [List.length_map, hl] at e1
  obtain ⟨gs, cs, hgc⟩ := choose2 (n := n) (P := fun i a b => ∃ e, es[i]? = some e ∧ e.1 = .slice (some ⟨a, 0, none⟩) m b ∧ B ≤ a ∧ Hd 3 w a b (is e.2)) (fun i hi => by
    have hx : es[i]? = some es[i] := List.getElem?_eq_getElem (by omega)
    have hm := List.mem_of_getElem? hx
    obtain ⟨gr, cr, e2, h2, h3⟩ := own_row' (h.each _ hm) (hn _ hm)
    have hlen := G.cols i (es[i].2) (by rw [List.getElem?_map, hx]; rfl)
    rw [hlen] at e2
    exact ⟨gr, cr, _, hx, e2, h2, h3⟩)
  refine ⟨g, cap, gs, cs, e1, hH, by simp [hl], fun i hi => ?_, fun i hi => ?_, ⟨hg, fun i hi => ?_⟩, fun i j hi hj e => ?_⟩
  · obtain ⟨e, h1, h2, _⟩ := hgc i hi
    rw [List.getElem?_map, h1, Option.map_some, h2]
  · obtain ⟨e, h1, h2, h3, h4⟩ := hgc i hi
    have hx : (es.map (·.2))[i]? = some e.2 := by rw [List.getElem?_map, h1]; rfl
    have e3 : is e.2 = fl (cst (es.map (·.2)) i) m := by
      rw [fl_is]
      congr 1
      have hm := G.cols i _ hx
      apply List.ext_getElem?
      intro k
      by_cases hk : k < m
      · have e4 : ((List.range m).map (cst (es.map (·.2)) i))[k]? = some (cst (es.map (·.2)) i k) := by simp [hk]
        rw [e4, cst_of hx, List.getD_eq_getElem?_getD, List.getElem?_eq_getElem (by omega)]; rfl
      · rw [List.getElem?_eq_none (by omega), List.getElem?_eq_none (by simp; omega)]
    rw [← e3]; exact h4
  · obtain ⟨e, h1, h2, h3, h4⟩ := hgc i hi
    refine ⟨h3, fun e5 => ?_⟩
    exact h.off e (List.mem_of_getElem? h1) (gs i) (by rw [h2]; rfl) (by rw [e1, e5]; rfl)
  · obtain ⟨a, h1, h2, _⟩ := hgc i hi
    obtain ⟨b, h3, h4, _⟩ := hgc j hj
    exact h.apart i j a b (gs i) h1 h3 (by rw [h2]; rfl) (by rw [h4, e]; rfl)

end Go.Proofs.Ytncmfjncdhhjoaa
