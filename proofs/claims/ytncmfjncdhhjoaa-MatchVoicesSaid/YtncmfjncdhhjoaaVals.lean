/- What is said of memory, whatever its cells hold: a slice that reads as a list of values; a block that is known whole. -/
import Derived.WalkKit
import Derived.WalkSpells
import Derived.WalkLawsBesides
import Derived.Deep.QuietTactic
import Derived.Deep.OwnRows
import Derived.BigQuiet
import Derived.Lib.Hide
import Derived.Laws.Rows
import Derived.Below
namespace Go.Proofs.Ytncmfjncdhhjoaa
open Go.RowKit

/-- The slice at A reads as these cells; they lie in a block that is there. -/
def Vals (w : World) (A : Option Addr) (vs : List Value) : Prop :=
  0 < vs.length → ∃ g off, A = some ⟨g, off, none⟩ ∧ g < w.heap.size ∧ ∀ (i : Nat) (v : Value), vs[i]? = some v → w.cell? ⟨g, off + i, none⟩ = some v

theorem Vals.nil {w : World} {A : Option Addr} : Vals w A [] := fun h => absurd h (by simp)
theorem Vals.keep {w w' : World} {A : Option Addr} {vs : List Value} (h : Vals w A vs) (hb : Below w.heap.size w w') : Vals w' A vs := by
  intro hl
  obtain ⟨g, off, e, hg, hc⟩ := h hl
  exact ⟨g, off, e, Nat.lt_of_lt_of_le hg hb.size, fun i v hv => (hb.cell (p := ⟨g, off + i, none⟩) hg).trans (hc i v hv)⟩
theorem Vals.drew {w : World} {A : Option Addr} {vs : List Value} (h : Vals w A vs) : Vals w.drew A vs := h
theorem Vals.drewN {w : World} {A : Option Addr} {vs : List Value} (h : Vals w A vs) (n : Nat) : Vals (w.drewN n) A vs := h
theorem Vals.alloc {w : World} {A : Option Addr} {vs : List Value} (h : Vals w A vs) (o : Obj) : Vals (w.alloc o) A vs := h.keep ((Below.refl _ _).alloc (Nat.le_refl _) o)
theorem Vals.at_ {w : World} {A : Option Addr} {vs : List Value} (h : Vals w A vs) {i : Nat} (hi : i < vs.length) :
    ∃ g off v, A = some ⟨g, off, none⟩ ∧ g < w.heap.size ∧ vs[i]? = some v ∧ w.cell? ⟨g, off + i, none⟩ = some v := by
  obtain ⟨g, off, e, hg, hc⟩ := h (by omega)
  exact ⟨g, off, vs[i], e, hg, List.getElem?_eq_getElem hi, hc _ _ (List.getElem?_eq_getElem hi)⟩
theorem Vals.take {w : World} {A : Option Addr} {vs : List Value} (h : Vals w A vs) (n : Nat) : Vals w A (vs.take n) := by
  intro hl
  obtain ⟨g, off, e, hg, hc⟩ := h (by simp at hl; omega)
  refine ⟨g, off, e, hg, fun i v hv => hc i v ?_⟩
  rw [List.getElem?_take] at hv
  split at hv
  · exact hv
  · cases hv
theorem Vals.drop {w : World} {g off : Nat} {vs : List Value} (h : Vals w (some ⟨g, off, none⟩) vs) (n : Nat) : Vals w (some ⟨g, off + n, none⟩) (vs.drop n) := by
  intro hl
  obtain ⟨g', off', e, hg, hc⟩ := h (by simp at hl; omega)
  injection e with e
  injection e with e1 e2
  subst e1 e2
  refine ⟨_, _, rfl, hg, fun i v hv => ?_⟩
  rw [List.getElem?_drop] at hv
  have := hc _ _ hv
  rwa [← Nat.add_assoc] at this

/-- Block g holds just these cells, none frozen. -/
def Blk (T : TypeId) (w : World) (g : Nat) (vs : List Value) : Prop := w.heap[g]? = some (.cells vs.toArray T (0, 0))
namespace Blk
variable {T : TypeId} {w w' : World} {g : Nat} {vs : List Value}
theorem lt (h : Blk T w g vs) : g < w.heap.size := by
  rcases Nat.lt_or_ge g w.heap.size with hlt | hge
  · exact hlt
  · unfold Blk at h; rw [Array.getElem?_eq_none hge] at h; cases h
theorem cell (h : Blk T w g vs) (i : Nat) : w.cell? ⟨g, i, none⟩ = vs[i]? := by
  have := cell_of_row w g i _ T (0, 0) h
  simpa using this
theorem frozen (h : Blk T w g vs) (i : Nat) : w.frozen? ⟨g, i, none⟩ = false := frozen_of_row w g i _ T h
theorem of_block (h : Blk T w g vs) (e : w'.heap[g]? = w.heap[g]?) : Blk T w' g vs := e.trans h
theorem new (w : World) (T : TypeId) (vs : List Value) : Blk T (w.alloc (.cells vs.toArray T)) w.heap.size vs := heap_alloc_new w _
theorem drew (h : Blk T w g vs) : Blk T w.drew g vs := h
theorem drewN (h : Blk T w g vs) (n : Nat) : Blk T (w.drewN n) g vs := h
theorem alloc (h : Blk T w g vs) (o : Obj) : Blk T (w.alloc o) g vs := (Below.heap_alloc w o g h.lt).trans h
theorem set (h : Blk T w g vs) (i : Nat) (v : Value) : Blk T (w.setCell ⟨g, i, none⟩ v) g (vs.set i v) := by
  have := heap_setCell_same w g i vs.toArray T v h
  unfold Blk
  rw [this]
  simp
theorem setOther (h : Blk T w g vs) {a : Addr} (ha : g ≠ a.block) (v : Value) : Blk T (w.setCell a v) g vs := (heap_setCell_other w a g v ha).trans h
theorem below {B : Nat} (h : Blk T w g vs) (hb : Below B w w') (hg : g < B) : Blk T w' g vs := (hb.block g hg).trans h
theorem keep (h : Blk T w g vs) (hb : Below w.heap.size w w') : Blk T w' g vs := h.below hb h.lt
theorem grown {row : Option Nat} (h : Blk T w g vs) (hb : w.grownBy w' row) (hg : some g ≠ row) : Blk T w' g vs := (hb.block g h.lt hg).trans h
theorem vals (h : Blk T w g vs) (off n : Nat) : Vals w (some ⟨g, off, none⟩) ((vs.drop off).take n) := by
  intro _
  refine ⟨g, off, rfl, h.lt, fun i v hv => ?_⟩
  rw [h.cell]
  rw [List.getElem?_take] at hv
  split at hv
  · rwa [List.getElem?_drop] at hv
  · cases hv
theorem vals0 (h : Blk T w g vs) : Vals w (some ⟨g, 0, none⟩) vs := by
  have := h.vals 0 vs.length
  simpa using this
theorem pair {a b : Value} (h : Blk T w g [a, b]) (c d : Value) : Blk T ((w.setCell ⟨g, 0, none⟩ c).setCell ⟨g, 1, none⟩ d) g [c, d] := by
  have := (h.set 0 c).set 1 d
  simpa using this
theorem far2 {g' : Nat} (h : Blk T w g vs) (hg : g ≠ g') (n : Nat) (c d : Value) : Blk T (((w.drewN n).setCell ⟨g', 0, none⟩ c).setCell ⟨g', 1, none⟩ d) g vs :=
  ((h.drewN n).setOther (a := ⟨g', 0, none⟩) hg c).setOther (a := ⟨g', 1, none⟩) hg d
end Blk

/-- Numbers as cells. -/
def is (l : List Int) : List Value := l.map (.int .i64)
theorem is_len (l : List Int) : (is l).length = l.length := by simp [is]
theorem is_at {l : List Int} {i : Nat} {x : Int} (h : l[i]? = some x) : (is l)[i]? = some (.int .i64 x) := by simp [is, h]
theorem is_set (l : List Int) (i : Nat) (x : Int) : (is l).set i (.int .i64 x) = is (l.set i x) := by simp [is, List.map_set]
theorem is_take (l : List Int) (n : Nat) : (is l).take n = is (l.take n) := by simp [is, List.map_take]
theorem is_drop (l : List Int) (n : Nat) : (is l).drop n = is (l.drop n) := by simp [is, List.map_drop]
theorem is_append (l m : List Int) : is (l ++ m) = is l ++ is m := by simp [is]
/-- The slice at A reads as these ints. -/
abbrev Ints (w : World) (A : Option Addr) (l : List Int) : Prop := Vals w A (is l)
theorem Ints.at_ {w : World} {A : Option Addr} {l : List Int} (h : Ints w A l) {i : Nat} (hi : i < l.length) :
    ∃ g off x, A = some ⟨g, off, none⟩ ∧ g < w.heap.size ∧ l[i]? = some x ∧ w.cell? ⟨g, off + i, none⟩ = some (.int .i64 x) := by
  obtain ⟨g, off, v, e, hg, hv, hc⟩ := Vals.at_ h (i := i) (by rw [is_len]; exact hi)
  refine ⟨g, off, l[i], e, hg, List.getElem?_eq_getElem hi, ?_⟩
  rw [is_at (List.getElem?_eq_getElem hi)] at hv
  injection hv with hv
  rw [hc, hv]

theorem below_drewN {B : Nat} {a w : World} (h : Below B a w) (n : Nat) : Below B a (w.drewN n) := ⟨h.os, h.tape, h.output, h.size, h.block⟩
theorem below_set {B : Nat} {a w : World} (h : Below B a w) {g i : Nat} (hg : B ≤ g) (v : Value) : Below B a (w.setCell ⟨g, i, none⟩ v) := h.setCell (p := ⟨g, i, none⟩) hg v
theorem below_on {B : Nat} {w w1 w2 : World} (h : Below B w w1) (hB : B ≤ w1.heap.size) (k : Below w1.heap.size w1 w2) : Below B w w2 := h.trans (k.mono hB)
theorem below_new (w : World) (o : Obj) : Below w.heap.size w (w.alloc o) := (Below.refl _ _).alloc (Nat.le_refl _) o
theorem wrapI {x : Int} (h : -9223372036854775808 ≤ x) (h' : x ≤ 9223372036854775807) : IntKind.i64.wrap x = x := by rw [IntKind.wrap_i64]; omega
/-- The number in a cell, 0 if there is none. -/
def cellI (w : World) (p : Addr) : Int := match w.cell? p with | some (.int _ x) => x | _ => 0
theorem cellI_of {w : World} {p : Addr} {k : IntKind} {x : Int} (h : w.cell? p = some (.int k x)) : cellI w p = x := by unfold cellI; rw [h]
end Go.Proofs.Ytncmfjncdhhjoaa
