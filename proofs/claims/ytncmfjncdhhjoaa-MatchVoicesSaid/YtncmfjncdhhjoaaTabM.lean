/- What is said of memory: rows of ints and bools as functions, tables, the structures of the program. -/
import Derived.Test.YtncmfjncdhhjoaaRows
import Derived.Test.YtncmfjncdhhjoaaMemN
import Derived.Test.YtncmfjncdhhjoaaMLeast
namespace Go.Proofs.Ytncmfjncdhhjoaa
open Go.RowKit

/-- The cells of a row of ints; of bools. -/
def fl (f : Nat → Int) (n : Nat) : List Value := (List.range n).map fun k => .int .i64 (f k)
def flB (s : Nat → Bool) (n : Nat) : List Value := (List.range n).map fun k => .bool (s k)
theorem fl_len (f : Nat → Int) (n : Nat) : (fl f n).length = n := by simp [fl]
theorem flB_len (s : Nat → Bool) (n : Nat) : (flB s n).length = n := by simp [flB]
theorem fl_at {f : Nat → Int} {n k : Nat} (h : k < n) : (fl f n)[k]? = some (.int .i64 (f k)) := by simp [fl, h]
theorem flB_at {s : Nat → Bool} {n k : Nat} (h : k < n) : (flB s n)[k]? = some (.bool (s k)) := by simp [flB, h]
theorem fl_congr {f g : Nat → Int} {n : Nat} (h : ∀ k, k < n → f k = g k) : fl f n = fl g n := by
  unfold fl
  refine List.map_congr_left fun k hk => ?_
  rw [h k (List.mem_range.1 hk)]
theorem flB_congr {f g : Nat → Bool} {n : Nat} (h : ∀ k, k < n → f k = g k) : flB f n = flB g n := by
  unfold flB
  refine List.map_congr_left fun k hk => ?_
  rw [h k (List.mem_range.1 hk)]
theorem fl_set (f : Nat → Int) (n k : Nat) (x : Int) : (fl f n).set k (.int .i64 x) = fl (upd f k x) n := by
  apply List.ext_getElem?
  intro j
  rw [List.getElem?_set, fl_len]
  by_cases hj : j < n
  · rw [fl_at hj]
    by_cases e : k = j
    · subst e; rw [if_pos rfl, if_pos hj, fl_at hj, upd_at]
    · rw [if_neg e, fl_at hj, upd_ne fun h => e h.symm]
  · have e1 : (fl f n)[j]? = none := List.getElem?_eq_none (by rw [fl_len]; omega)
    have e2 : (fl (upd f k x) n)[j]? = none := List.getElem?_eq_none (by rw [fl_len]; omega)
    rw [e2]
    by_cases e : k = j
    · rw [if_pos e, if_neg (by omega)]
    · rw [if_neg e, e1]
theorem flB_set (f : Nat → Bool) (n k : Nat) (x : Bool) : (flB f n).set k (.bool x) = flB (upd f k x) n := by
  apply List.ext_getElem?
  intro j
  rw [List.getElem?_set, flB_len]
  by_cases hj : j < n
  · rw [flB_at hj]
    by_cases e : k = j
    · subst e; rw [if_pos rfl, if_pos hj, flB_at hj, upd_at]
    · rw [if_neg e, flB_at hj, upd_ne fun h => e h.symm]
  · have e1 : (flB f n)[j]? = none := List.getElem?_eq_none (by rw [flB_len]; omega)
    have e2 : (flB (upd f k x) n)[j]? = none := List.getElem?_eq_none (by rw [flB_len]; omega)
    rw [e2]
    by_cases e : k = j
    · rw [if_pos e, if_neg (by omega)]
    · rw [if_neg e, e1]
theorem fl_const (x : Int) (n : Nat) : fl (fun _ => x) n = List.replicate n (.int .i64 x) := by
  unfold fl; rw [List.map_const']; simp
theorem flB_const (x : Bool) (n : Nat) : flB (fun _ => x) n = List.replicate n (.bool x) := by
  unfold flB; rw [List.map_const']; simp

theorem Blk.int {T : TypeId} {w : World} {g n k : Nat} {f : Nat → Int} (h : Blk T w g (fl f n)) (hk : k < n) : w.cell? ⟨g, k, none⟩ = some (.int .i64 (f k)) := by
  rw [h.cell]; exact fl_at hk
theorem Blk.bool {T : TypeId} {w : World} {g n k : Nat} {f : Nat → Bool} (h : Blk T w g (flB f n)) (hk : k < n) : w.cell? ⟨g, k, none⟩ = some (.bool (f k)) := by
  rw [h.cell]; exact flB_at hk
theorem Blk.setI {T : TypeId} {w : World} {g n : Nat} {f : Nat → Int} (h : Blk T w g (fl f n)) (k : Nat) (x : Int) : Blk T (w.setCell ⟨g, k, none⟩ (.int .i64 x)) g (fl (upd f k x) n) := by
  have := h.set k (.int .i64 x); rwa [fl_set] at this
theorem Blk.setB {T : TypeId} {w : World} {g n : Nat} {f : Nat → Bool} (h : Blk T w g (flB f n)) (k : Nat) (x : Bool) : Blk T (w.setCell ⟨g, k, none⟩ (.bool x)) g (flB (upd f k x) n) := by
  have := h.set k (.bool x); rwa [flB_set] at this

/-- The slice at A reads as these cells, in a block below B. -/
def VB (B : Nat) (w : World) (A : Option Addr) (vs : List Value) : Prop :=
  0 < vs.length → ∃ g off, A = some ⟨g, off, none⟩ ∧ g < B ∧ ∀ (i : Nat) (v : Value), vs[i]? = some v → w.cell? ⟨g, off + i, none⟩ = some v
theorem VB.keep {B : Nat} {w w' : World} {A : Option Addr} {vs : List Value} (h : VB B w A vs) (hb : Below B w w') : VB B w' A vs := by
  intro hl
  obtain ⟨g, off, e, hg, hc⟩ := h hl
  exact ⟨g, off, e, hg, fun i v hv => (hb.cell (p := ⟨g, off + i, none⟩) hg).trans (hc i v hv)⟩
theorem VB.mono {B B' : Nat} {w : World} {A : Option Addr} {vs : List Value} (h : VB B w A vs) (hb : B ≤ B') : VB B' w A vs := by
  intro hl
  obtain ⟨g, off, e, hg, hc⟩ := h hl
  exact ⟨g, off, e, by omega, hc⟩
theorem VB.at_ {B : Nat} {w : World} {A : Option Addr} {vs : List Value} (h : VB B w A vs) {i : Nat} {v : Value} (hv : vs[i]? = some v) :
    ∃ g off, A = some ⟨g, off, none⟩ ∧ g < B ∧ w.cell? ⟨g, off + i, none⟩ = some v := by
  obtain ⟨g, off, e, hg, hc⟩ := h (by have := (List.getElem?_eq_some_iff.1 hv).1; omega)
  exact ⟨g, off, e, hg, hc _ _ hv⟩
theorem VB.of_vals {w : World} {A : Option Addr} {vs : List Value} (h : Vals w A vs) : VB w.heap.size w A vs := h
theorem VB.vals {B : Nat} {w : World} {A : Option Addr} {vs : List Value} (h : VB B w A vs) (hB : B ≤ w.heap.size) : Vals w A vs := by
  intro hl
  obtain ⟨g, off, e, hg, hc⟩ := h hl
  exact ⟨g, off, e, by omega, hc⟩
theorem VB.of_blk {T : TypeId} {w : World} {g B : Nat} {vs : List Value} (h : Blk T w g vs) (hg : g < B) : VB B w (some ⟨g, 0, none⟩) vs := by
  intro _
  refine ⟨g, 0, rfl, hg, fun i v hv => ?_⟩
  rw [Nat.zero_add, h.cell]; exact hv

/-- The slice at A reads as these rows of ints, all below B. -/
def Tab (B : Nat) (w : World) (A : Option Addr) (ls : List (List Int)) : Prop :=
  ∃ rows : List Value, rows.length = ls.length ∧ VB B w A rows ∧
    ∀ (i : Nat) (l : List Int), ls[i]? = some l → ∃ Ai ci, rows[i]? = some (.slice Ai l.length ci) ∧ VB B w Ai (is l)
theorem Tab.keep {B : Nat} {w w' : World} {A : Option Addr} {ls : List (List Int)} (h : Tab B w A ls) (hb : Below B w w') : Tab B w' A ls := by
  obtain ⟨rows, h1, h2, h3⟩ := h
  refine ⟨rows, h1, h2.keep hb, fun i l hl => ?_⟩
  obtain ⟨Ai, ci, e, hv⟩ := h3 i l hl
  exact ⟨Ai, ci, e, hv.keep hb⟩
theorem Tab.mono {B B' : Nat} {w : World} {A : Option Addr} {ls : List (List Int)} (h : Tab B w A ls) (hb : B ≤ B') : Tab B' w A ls := by
  obtain ⟨rows, h1, h2, h3⟩ := h
  refine ⟨rows, h1, h2.mono hb, fun i l hl => ?_⟩
  obtain ⟨Ai, ci, e, hv⟩ := h3 i l hl
  exact ⟨Ai, ci, e, hv.mono hb⟩
/-- The row i of a table: where it stands, and what it reads as. -/
theorem Tab.row {B : Nat} {w : World} {A : Option Addr} {ls : List (List Int)} (h : Tab B w A ls) {i : Nat} {l : List Int} (hl : ls[i]? = some l) :
    ∃ g off Ai ci, A = some ⟨g, off, none⟩ ∧ g < B ∧ w.cell? ⟨g, off + i, none⟩ = some (.slice Ai l.length ci) ∧ VB B w Ai (is l) := by
  obtain ⟨rows, h1, h2, h3⟩ := h
  obtain ⟨Ai, ci, e, hv⟩ := h3 i l hl
  obtain ⟨g, off, e1, e2, e3⟩ := h2.at_ e
  exact ⟨g, off, Ai, ci, e1, e2, e3, hv⟩

/-- The cost of a row and a column. -/
def cst (ls : List (List Int)) (i k : Nat) : Int := (ls.getD i []).getD k 0
theorem cst_of {ls : List (List Int)} {i k : Nat} {l : List Int} (h : ls[i]? = some l) : cst ls i k = l.getD k 0 := by
  have e : ls.getD i [] = l := by rw [List.getD_eq_getElem?_getD, h]; rfl
  unfold cst; rw [e]
theorem is_cell {l : List Int} {k : Nat} (h : k < l.length) : (is l)[k]? = some (.int .i64 (l.getD k 0)) := by
  simp [is, h]

/-- A table of n rows with m columns each, all costs in range. -/
structure Good (n m : Nat) (ls : List (List Int)) : Prop where
  rows : ls.length = n
  cols : ∀ (i : Nat) (l : List Int), ls[i]? = some l → l.length = m
  rng : ∀ i k, i < n → k < m → -1 ≤ cst ls i k ∧ cst ls i k ≤ 1000000000

theorem Good.row {n m : Nat} {ls : List (List Int)} (h : Good n m ls) {i : Nat} (hi : i < n) : ∃ l, ls[i]? = some l ∧ l.length = m := by
  have hl : i < ls.length := by rw [h.rows]; exact hi
  exact ⟨ls[i], List.getElem?_eq_getElem hl, h.cols i _ (List.getElem?_eq_getElem hl)⟩

/-- Where a cost stands. -/
theorem Good.at_ {B : Nat} {w : World} {A : Option Addr} {n m : Nat} {ls : List (List Int)} (h : Good n m ls) (T : Tab B w A ls) {i : Nat} (hi : i < n) :
    ∃ g off Ai ci, A = some ⟨g, off, none⟩ ∧ g < B ∧ w.cell? ⟨g, off + i, none⟩ = some (.slice Ai m ci) ∧
      (0 < m → ∃ g2 off2, Ai = some ⟨g2, off2, none⟩ ∧ g2 < B ∧ ∀ k, k < m → w.cell? ⟨g2, off2 + k, none⟩ = some (.int .i64 (cst ls i k))) := by
  obtain ⟨l, hl, hm⟩ := h.row hi
  obtain ⟨g, off, Ai, ci, e1, e2, e3, hv⟩ := T.row hl
  refine ⟨g, off, Ai, ci, e1, e2, by rw [← hm]; exact e3, fun h0 => ?_⟩
  obtain ⟨g2, off2, e4, e5, e6⟩ := hv (by rw [is_len, hm]; exact h0)
  refine ⟨g2, off2, e4, e5, fun k hk => ?_⟩
  rw [cst_of hl]
  exact e6 k _ (is_cell (by rw [hm]; exact hk))

/-- The structure 'pricing' in the block p, and its three rows. -/
structure PrM (B : Nat) (w : World) (p gu gv go : Nat) (cost : Value) (n m : Nat) (u v o : Nat → Int) : Prop where
  box : Blk 80 w p [cost, .slice (some ⟨gu, 0, none⟩) n n, .slice (some ⟨gv, 0, none⟩) m m, .slice (some ⟨go, 0, none⟩) m m]
  rows : Blk 3 w gu (fl u n)
  cols : Blk 3 w gv (fl v m)
  own : Blk 3 w go (fl o m)
  far : B ≤ p ∧ B ≤ gu ∧ B ≤ gv ∧ B ≤ go ∧ p ≠ gu ∧ p ≠ gv ∧ p ≠ go ∧ gu ≠ gv ∧ gu ≠ go ∧ gv ≠ go
/-- The structure 'reach' in the block q, and its three rows. -/
structure ReM (B : Nat) (w : World) (q ga gf gd : Nat) (m : Nat) (a f : Nat → Int) (d : Nat → Bool) : Prop where
  box : Blk 102 w q [.slice (some ⟨ga, 0, none⟩) m m, .slice (some ⟨gf, 0, none⟩) m m, .slice (some ⟨gd, 0, none⟩) m m]
  away : Blk 3 w ga (fl a m)
  from_ : Blk 3 w gf (fl f m)
  done : Blk 4 w gd (flB d m)
  far : B ≤ q ∧ B ≤ ga ∧ B ≤ gf ∧ B ≤ gd ∧ q ≠ ga ∧ q ≠ gf ∧ q ≠ gd ∧ ga ≠ gf ∧ ga ≠ gd ∧ gf ≠ gd
/-- The structure 'pairing' in the block p, and its three rows; L are other rows of ints that are known whole. -/
structure PaM (L : List (Nat × List Value)) (B : Nat) (w : World) (p go gk gs : Nat) (may : Value) (m : Nat) (o : Nat → Int) (k s : Nat → Bool) : Prop where
  box : Blk 93 w p [.int .i64 (m : Int), may, .slice (some ⟨go, 0, none⟩) m m, .slice (some ⟨gk, 0, none⟩) m m, .slice (some ⟨gs, 0, none⟩) m m]
  own : Blk 3 w go (fl o m)
  kept : Blk 4 w gk (flB k m)
  seen : Blk 4 w gs (flB s m)
  far : B ≤ p ∧ B ≤ go ∧ B ≤ gk ∧ B ≤ gs ∧ p ≠ go ∧ p ≠ gk ∧ p ≠ gs ∧ go ≠ gk ∧ go ≠ gs ∧ gk ≠ gs
  ext : ∀ x, x ∈ L → Blk 3 w x.1 x.2 ∧ x.1 ≠ p ∧ x.1 ≠ go ∧ x.1 ≠ gk ∧ x.1 ≠ gs
section
variable {L : List (Nat × List Value)} {B : Nat} {w w' : World} {p go gk gs : Nat} {may : Value} {m : Nat} {o : Nat → Int} {k s : Nat → Bool}
theorem PaM.setO (h : PaM L B w p go gk gs may m o k s) (j : Nat) (x : Int) : PaM L B (w.setCell ⟨go, j, none⟩ (.int .i64 x)) p go gk gs may m (upd o j x) k s := by
  obtain ⟨_, _, _, _, e1, e2, e3, e4, e5, e6⟩ := h.far
  exact ⟨h.box.setOther (a := ⟨go, j, none⟩) e1 _, h.own.setI j x, h.kept.setOther (a := ⟨go, j, none⟩) (Ne.symm e4) _, h.seen.setOther (a := ⟨go, j, none⟩) (Ne.symm e5) _, h.far,
    fun y hy => ⟨(h.ext y hy).1.setOther (a := ⟨go, j, none⟩) (h.ext y hy).2.2.1 _, (h.ext y hy).2⟩⟩
theorem PaM.setK (h : PaM L B w p go gk gs may m o k s) (j : Nat) (x : Bool) : PaM L B (w.setCell ⟨gk, j, none⟩ (.bool x)) p go gk gs may m o (upd k j x) s := by
  obtain ⟨_, _, _, _, e1, e2, e3, e4, e5, e6⟩ := h.far
  exact ⟨h.box.setOther (a := ⟨gk, j, none⟩) e2 _, h.own.setOther (a := ⟨gk, j, none⟩) e4 _, h.kept.setB j x, h.seen.setOther (a := ⟨gk, j, none⟩) (Ne.symm e6) _, h.far,
    fun y hy => ⟨(h.ext y hy).1.setOther (a := ⟨gk, j, none⟩) (h.ext y hy).2.2.2.1 _, (h.ext y hy).2⟩⟩
theorem PaM.setS (h : PaM L B w p go gk gs may m o k s) (j : Nat) (x : Bool) : PaM L B (w.setCell ⟨gs, j, none⟩ (.bool x)) p go gk gs may m o k (upd s j x) := by
  obtain ⟨_, _, _, _, e1, e2, e3, e4, e5, e6⟩ := h.far
  exact ⟨h.box.setOther (a := ⟨gs, j, none⟩) e3 _, h.own.setOther (a := ⟨gs, j, none⟩) e5 _, h.kept.setOther (a := ⟨gs, j, none⟩) e6 _, h.seen.setB j x, h.far,
    fun y hy => ⟨(h.ext y hy).1.setOther (a := ⟨gs, j, none⟩) (h.ext y hy).2.2.2.2 _, (h.ext y hy).2⟩⟩
theorem PaM.drew (h : PaM L B w p go gk gs may m o k s) : PaM L B w.drew p go gk gs may m o k s := ⟨h.box, h.own, h.kept, h.seen, h.far, h.ext⟩
theorem PaM.drewN (h : PaM L B w p go gk gs may m o k s) (n : Nat) : PaM L B (w.drewN n) p go gk gs may m o k s := ⟨h.box, h.own, h.kept, h.seen, h.far, h.ext⟩
theorem PaM.keepAll (h : PaM L B w p go gk gs may m o k s) (hb : Below w.heap.size w w') : PaM L B w' p go gk gs may m o k s :=
  ⟨h.box.keep hb, h.own.keep hb, h.kept.keep hb, h.seen.keep hb, h.far, fun y hy => ⟨(h.ext y hy).1.keep hb, (h.ext y hy).2⟩⟩
theorem PaM.copied {s' : Nat → Bool} (h : PaM L B w p go gk gs may m o k s) (hg : w.grownBy w' (some gs)) (hn : Blk 4 w' gs (flB s' m)) : PaM L B w' p go gk gs may m o k s' := by
  obtain ⟨_, _, _, _, e1, e2, e3, e4, e5, e6⟩ := h.far
  exact ⟨h.box.grown hg (fun e => by injection e with e; exact e3 e), h.own.grown hg (fun e => by injection e with e; exact e5 e), h.kept.grown hg (fun e => by injection e with e; exact e6 e), hn, h.far,
    fun y hy => ⟨(h.ext y hy).1.grown hg (fun e => by injection e with e; exact (h.ext y hy).2.2.2.2 e), (h.ext y hy).2⟩⟩
theorem PaM.more (h : PaM L B w p go gk gs may m o k s) {g : Nat} {vs : List Value} (hb : Blk 3 w g vs) (hne : g ≠ p ∧ g ≠ go ∧ g ≠ gk ∧ g ≠ gs) : PaM ((g, vs) :: L) B w p go gk gs may m o k s :=
  ⟨h.box, h.own, h.kept, h.seen, h.far, fun y hy => by
    rcases List.mem_cons.1 hy with rfl | hy
    · exact ⟨hb, hne⟩
    · exact h.ext y hy⟩
theorem PaM.one {g : Nat} {vs : List Value} (h : PaM [(g, vs)] B w p go gk gs may m o k s) : Blk 3 w g vs ∧ g ≠ p ∧ g ≠ go ∧ g ≠ gk ∧ g ≠ gs := h.ext (g, vs) (by simp)
theorem PaM.bare (h : PaM L B w p go gk gs may m o k s) : PaM [] B w p go gk gs may m o k s := ⟨h.box, h.own, h.kept, h.seen, h.far, fun y hy => by simp at hy⟩
theorem PaM.setX {g : Nat} {f : Nat → Int} {n : Nat} (h : PaM [(g, fl f n)] B w p go gk gs may m o k s) (j : Nat) (x : Int) : PaM [(g, fl (upd f j x) n)] B (w.setCell ⟨g, j, none⟩ (.int .i64 x)) p go gk gs may m o k s := by
  obtain ⟨hb, e1, e2, e3, e4⟩ := h.one
  exact (⟨h.box.setOther (a := ⟨g, j, none⟩) (Ne.symm e1) _, h.own.setOther (a := ⟨g, j, none⟩) (Ne.symm e2) _, h.kept.setOther (a := ⟨g, j, none⟩) (Ne.symm e3) _, h.seen.setOther (a := ⟨g, j, none⟩) (Ne.symm e4) _, h.far, fun y hy => by simp at hy⟩ : PaM [] B _ p go gk gs may m o k s).more (hb.setI j x) ⟨e1, e2, e3, e4⟩
end

theorem ReM.drewN {B : Nat} {w : World} {q ga gf gd m : Nat} {a f : Nat → Int} {d : Nat → Bool} (h : ReM B w q ga gf gd m a f d) (n : Nat) : ReM B (w.drewN n) q ga gf gd m a f d :=
  ⟨h.box, h.away, h.from_, h.done, h.far⟩
theorem ReM.keep {B B' : Nat} {w w' : World} {q ga gf gd m : Nat} {a f : Nat → Int} {d : Nat → Bool} (h : ReM B w q ga gf gd m a f d) (hb : Below B' w w')
    (hp : q < B' ∧ ga < B' ∧ gf < B' ∧ gd < B') : ReM B w' q ga gf gd m a f d :=
  ⟨h.box.below hb hp.1, h.away.below hb hp.2.1, h.from_.below hb hp.2.2.1, h.done.below hb hp.2.2.2, h.far⟩
theorem ReM.lt {B : Nat} {w : World} {q ga gf gd m : Nat} {a f : Nat → Int} {d : Nat → Bool} (h : ReM B w q ga gf gd m a f d) :
    q < w.heap.size ∧ ga < w.heap.size ∧ gf < w.heap.size ∧ gd < w.heap.size := ⟨h.box.lt, h.away.lt, h.from_.lt, h.done.lt⟩
theorem PrM.keep {B B' : Nat} {w w' : World} {p gu gv go : Nat} {cost : Value} {n m : Nat} {u v o : Nat → Int} (h : PrM B w p gu gv go cost n m u v o)
    (hb : Below B' w w') (hp : p < B' ∧ gu < B' ∧ gv < B' ∧ go < B') : PrM B w' p gu gv go cost n m u v o :=
  ⟨h.box.below hb hp.1, h.rows.below hb hp.2.1, h.cols.below hb hp.2.2.1, h.own.below hb hp.2.2.2, h.far⟩
theorem PrM.lt {B : Nat} {w : World} {p gu gv go : Nat} {cost : Value} {n m : Nat} {u v o : Nat → Int} (h : PrM B w p gu gv go cost n m u v o) :
    p < w.heap.size ∧ gu < w.heap.size ∧ gv < w.heap.size ∧ go < w.heap.size := ⟨h.box.lt, h.rows.lt, h.cols.lt, h.own.lt⟩
end Go.Proofs.Ytncmfjncdhhjoaa
