/- What is said of memory in package action: functions as rows of ints, ties as cells, the structure that raises. -/
import Derived.Test.YtpaemlkikkcjiaaProg
import Derived.Test.YtpaemlkikkcjiaaMemN
import Derived.Test.YtpaemlkikkcjiaaReg
namespace Go.Proofs.Ytpaemlkikkcjiaa
open Go.RowKit

/-- The first n values of a function, as cells. -/
def fl (f : Nat → Int) (n : Nat) : List Value := (List.range n).map fun i => .int .i64 (f i)
theorem fl_len (f : Nat → Int) (n : Nat) : (fl f n).length = n := by simp [fl]
theorem fl_at {f : Nat → Int} {n i : Nat} (h : i < n) : (fl f n)[i]? = some (.int .i64 (f i)) := by simp [fl, h]
theorem fl_const (x : Int) (n : Nat) : fl (fun _ => x) n = List.replicate n (.int .i64 x) := by
  apply List.ext_getElem?
  intro i
  by_cases h : i < n
  · rw [fl_at h, List.getElem?_replicate, if_pos h]
  · rw [List.getElem?_eq_none (by rw [fl_len]; omega), List.getElem?_eq_none (by simp; omega)]
theorem fl_set (f : Nat → Int) (n k : Nat) (v : Int) : (fl f n).set k (.int .i64 v) = fl (upd f k v) n := by
  apply List.ext_getElem?
  intro i
  rw [List.getElem?_set]
  by_cases hi : i < n
  · by_cases e : k = i
    · subst e
      rw [if_pos rfl, fl_at hi, upd_at]
      simp [fl_len, hi]
    · rw [if_neg e, fl_at hi, fl_at hi, upd_ne (fun h => e h.symm)]
  · rw [List.getElem?_eq_none (l := fl (upd f k v) n) (by rw [fl_len]; omega)]
    split
    · simp [fl_len]; omega
    · rw [List.getElem?_eq_none (by rw [fl_len]; omega)]
theorem fl_congr {f g : Nat → Int} {n : Nat} (h : ∀ i, i < n → f i = g i) : fl f n = fl g n := by
  unfold fl
  apply List.map_congr_left
  intro i hi
  rw [h i (List.mem_range.1 hi)]
theorem fl_one (f : Nat → Int) (n : Nat) : ∀ v ∈ fl f n, v.oneCell' = true := by
  intro v hv
  simp only [fl, List.mem_map] at hv
  obtain ⟨x, _, rfl⟩ := hv
  rfl
theorem fl_is (f : Nat → Int) (n : Nat) : fl f n = is ((List.range n).map f) := by simp [fl, is, List.map_map, Function.comp_def]
theorem is_fl (l : List Int) : is l = fl (fun i => l.getD i 0) l.length := by
  apply List.ext_getElem?
  intro i
  by_cases h : i < l.length
  · rw [fl_at h, is_at (List.getElem?_eq_getElem h), List.getD_eq_getElem?_getD, List.getElem?_eq_getElem h]; rfl
  · rw [List.getElem?_eq_none (by rw [is_len]; omega), List.getElem?_eq_none (by rw [fl_len]; omega)]
theorem Blk.int {T : TypeId} {w : World} {g n k : Nat} {f : Nat → Int} (h : Blk T w g (fl f n)) (hk : k < n) : w.cell? ⟨g, k, none⟩ = some (.int .i64 (f k)) := (h.cell k).trans (fl_at hk)
theorem Blk.setI {T : TypeId} {w : World} {g n : Nat} {f : Nat → Int} (h : Blk T w g (fl f n)) (k : Nat) (x : Int) : Blk T (w.setCell ⟨g, k, none⟩ (.int .i64 x)) g (fl (upd f k x) n) := by
  have := h.set k (.int .i64 x)
  rwa [fl_set] at this

/-- Elements of k cells each. -/
theorem flat_at {α : Type} {f : α → List Value} {k : Nat} (hf : ∀ x, (f x).length = k) : ∀ {l : List α} {i j : Nat} {x : α}, l[i]? = some x → j < k → (l.flatMap f)[i * k + j]? = (f x)[j]?
  | [], i, j, x, h, _ => by simp at h
  | a :: l, 0, j, x, h, hj => by
    simp at h
    subst h
    rw [List.flatMap_cons, Nat.zero_mul, Nat.zero_add, List.getElem?_append_left (by rw [hf]; exact hj)]
  | a :: l, i + 1, j, x, h, hj => by
    have h' : l[i]? = some x := by simpa using h
    rw [List.flatMap_cons, List.getElem?_append_right (by rw [hf, Nat.succ_mul]; omega), hf]
    have e : (i + 1) * k + j - k = i * k + j := by rw [Nat.succ_mul]; omega
    rw [e]
    exact flat_at hf h' hj
theorem flat_len {α : Type} {f : α → List Value} {k : Nat} (hf : ∀ x, (f x).length = k) (l : List α) : (l.flatMap f).length = l.length * k := by
  induction l with
  | nil => simp
  | cons a l ih => rw [List.flatMap_cons, List.length_append, hf, ih, List.length_cons, Nat.succ_mul]; omega

/-- A tie as cells. -/
def tieC (t : T3) : List Value := [.int .i64 t.a, .int .i64 t.b, .int .i64 t.l]
def tc (ts : List T3) : List Value := ts.flatMap tieC
theorem tieC_len (t : T3) : (tieC t).length = 3 := rfl
theorem tc_len (ts : List T3) : (tc ts).length = ts.length * 3 := flat_len tieC_len ts
theorem tc_append (a b : List T3) : tc (a ++ b) = tc a ++ tc b := by simp [tc]
theorem tc_one (ts : List T3) : ∀ v ∈ tc ts, v.oneCell' = true := by
  intro v hv
  simp only [tc, List.mem_flatMap, tieC, List.mem_cons, List.not_mem_nil, or_false] at hv
  obtain ⟨t, _, rfl | rfl | rfl⟩ := hv <;> rfl
/-- The slice at A reads as these ties. -/
def TiesAt (w : World) (A : Option Addr) (ts : List T3) : Prop := Vals w A (tc ts)
theorem TiesAt.keep {w w' : World} {A : Option Addr} {ts : List T3} (h : TiesAt w A ts) (hb : Below w.heap.size w w') : TiesAt w' A ts := Vals.keep h hb
theorem TiesAt.at_ {w : World} {A : Option Addr} {ts : List T3} (h : TiesAt w A ts) {i : Nat} {t : T3} (ht : ts[i]? = some t) :
    ∃ g off, A = some ⟨g, off, none⟩ ∧ g < w.heap.size ∧ w.cell? ⟨g, off + i * 3, none⟩ = some (.int .i64 t.a) ∧ w.cell? ⟨g, off + i * 3 + 1, none⟩ = some (.int .i64 t.b) ∧ w.cell? ⟨g, off + i * 3 + 2, none⟩ = some (.int .i64 t.l) := by
  have hlt : i < ts.length := (List.getElem?_eq_some_iff.1 ht).1
  obtain ⟨g, off, e, hg, hc⟩ := h (by rw [tc_len]; omega)
  have hc2 : ∀ (a b : Nat) (v : Value), (tc ts)[a + b]? = some v → w.cell? ⟨g, off + a + b, none⟩ = some v := fun a b v hv => by rw [Nat.add_assoc off]; exact hc _ _ hv
  refine ⟨g, off, e, hg, hc _ _ ?_, hc2 _ _ _ ?_, hc2 _ _ _ ?_⟩
  · have := flat_at tieC_len ht (j := 0) (by omega); simpa [tc, tieC] using this
  · have := flat_at tieC_len ht (j := 1) (by omega); simpa [tc, tieC] using this
  · have := flat_at tieC_len ht (j := 2) (by omega); simpa [tc, tieC] using this

/-- The structure that raises: its ties, the heights of all places, the tie by which each was raised last. -/
structure RaM (B : Nat) (w : World) (p gt ct gh gb n : Nat) (ts : List T3) (h : Nat → Int) (by_ : Nat → Nat) : Prop where
  box : Blk 119 w p [.slice (some ⟨gt, 0, none⟩) ts.length ct, .slice (some ⟨gh, 0, none⟩) (n + 1) (n + 1), .slice (some ⟨gb, 0, none⟩) (n + 1) (n + 1)]
  ties : TiesAt w (some ⟨gt, 0, none⟩) ts
  hs : Blk 3 w gh (fl h (n + 1))
  bs : Blk 3 w gb (fl (fun i => (by_ i : Int)) (n + 1))
  far : B ≤ p ∧ B ≤ gt ∧ B ≤ gh ∧ B ≤ gb ∧ gt < w.heap.size ∧ p ≠ gh ∧ p ≠ gb ∧ gt ≠ gh ∧ gt ≠ gb ∧ gh ≠ gb
section
variable {B : Nat} {w w' : World} {p gt ct gh gb n : Nat} {ts : List T3} {h : Nat → Int} {by_ : Nat → Nat}
theorem ties_block {ts : List T3} {g : Nat} (h : TiesAt w (some ⟨g, 0, none⟩) ts) (e : w'.heap[g]? = w.heap[g]?) (hs : w.heap.size ≤ w'.heap.size) : TiesAt w' (some ⟨g, 0, none⟩) ts := by
  intro hl
  obtain ⟨g', off, e1, hg, hc⟩ := h hl
  injection e1 with e1
  injection e1 with e2 e3
  subst e2 e3
  refine ⟨_, _, rfl, by omega, fun i v hv => ?_⟩
  rw [← hc i v hv]
  simp only [World.cell?, e]
theorem RaM.keep (m : RaM B w p gt ct gh gb n ts h by_) (hb : Below w.heap.size w w') : RaM B w' p gt ct gh gb n ts h by_ := by
  obtain ⟨a1, a2, a3, a4, a5, a6⟩ := m.far
  exact ⟨m.box.keep hb, m.ties.keep hb, m.hs.keep hb, m.bs.keep hb, ⟨a1, a2, a3, a4, by have := hb.size; omega, a6⟩⟩
theorem RaM.drewN (m : RaM B w p gt ct gh gb n ts h by_) (k : Nat) : RaM B (w.drewN k) p gt ct gh gb n ts h by_ := ⟨m.box, m.ties, m.hs, m.bs, m.far⟩
theorem RaM.drew (m : RaM B w p gt ct gh gb n ts h by_) : RaM B w.drew p gt ct gh gb n ts h by_ := ⟨m.box, m.ties, m.hs, m.bs, m.far⟩
theorem set_size (w : World) (g k : Nat) (v : Value) : (w.setCell ⟨g, k, none⟩ v).heap.size = w.heap.size := by simp
theorem RaM.setH (m : RaM B w p gt ct gh gb n ts h by_) (k : Nat) (x : Int) : RaM B (w.setCell ⟨gh, k, none⟩ (.int .i64 x)) p gt ct gh gb n ts (upd h k x) by_ := by
  obtain ⟨a1, a2, a3, a4, a5, e1, e2, e3, e4, e5⟩ := m.far
  exact ⟨m.box.setOther (a := ⟨gh, k, none⟩) e1 _, ties_block m.ties (heap_setCell_other w ⟨gh, k, none⟩ gt _ e3) (Nat.le_of_eq (set_size _ _ _ _).symm), m.hs.setI k x, m.bs.setOther (a := ⟨gh, k, none⟩) (Ne.symm e5) _,
    ⟨a1, a2, a3, a4, by rw [set_size]; exact a5, e1, e2, e3, e4, e5⟩⟩
theorem RaM.setB (m : RaM B w p gt ct gh gb n ts h by_) (k x : Nat) : RaM B (w.setCell ⟨gb, k, none⟩ (.int .i64 (x : Int))) p gt ct gh gb n ts h (upd by_ k x) := by
  obtain ⟨a1, a2, a3, a4, a5, e1, e2, e3, e4, e5⟩ := m.far
  have hb := m.bs.setI k (x : Int)
  have e : upd (fun i => (by_ i : Int)) k (x : Int) = fun i => ((upd by_ k x i : Nat) : Int) := by funext i; simp only [upd]; split <;> rfl
  rw [e] at hb
  exact ⟨m.box.setOther (a := ⟨gb, k, none⟩) e2 _, ties_block m.ties (heap_setCell_other w ⟨gb, k, none⟩ gt _ e4) (Nat.le_of_eq (set_size _ _ _ _).symm), m.hs.setOther (a := ⟨gb, k, none⟩) e5 _, hb,
    ⟨a1, a2, a3, a4, by rw [set_size]; exact a5, e1, e2, e3, e4, e5⟩⟩
theorem RaM.cells (m : RaM B w p gt ct gh gb n ts h by_) : w.cell? ⟨p, 0, none⟩ = some (.slice (some ⟨gt, 0, none⟩) ts.length ct) ∧ w.cell? ⟨p, 1, none⟩ = some (.slice (some ⟨gh, 0, none⟩) (n + 1) (n + 1)) ∧ w.cell? ⟨p, 2, none⟩ = some (.slice (some ⟨gb, 0, none⟩) (n + 1) (n + 1)) :=
  ⟨m.box.cell 0, m.box.cell 1, m.box.cell 2⟩
theorem RaM.lt (m : RaM B w p gt ct gh gb n ts h by_) : p < w.heap.size ∧ gt < w.heap.size ∧ gh < w.heap.size ∧ gb < w.heap.size := ⟨m.box.lt, m.far.2.2.2.2.1, m.hs.lt, m.bs.lt⟩
end
end Go.Proofs.Ytpaemlkikkcjiaa
