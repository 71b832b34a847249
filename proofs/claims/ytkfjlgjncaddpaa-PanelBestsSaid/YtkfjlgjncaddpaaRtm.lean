/- The reference's table as memory: a list of rows that grows, whose rows are written. -/
import Derived.Test.YtkfjlgjncaddpaaRtb
import Derived.Test.YtkfjlgjncaddpaaWTbl
import Derived.Laws.OwnMore
namespace Go.Proofs.Ytkfjlgjncaddpaa
open Go.RowKit

theorem own_farR {B T k n : Nat} {w : World} {g c : Nat} {vs : List Value} (h : w.ownsRow B T k (.slice (some ⟨g, 0, none⟩) n c) n vs) {a : Addr} (ha : g ≠ a.block) (u : Value) : (w.setCell a u).ownsRow B T k (.slice (some ⟨g, 0, none⟩) n c) n vs := by
  obtain ⟨g', cap, e, h1, h3, h4, h5, h6⟩ := own_hd h (by intro e; injection e with e; cases e)
  injection e with e1 e2 e3
  injection e1 with e1
  injection e1 with e1
  subst e1 e3
  exact hd_own ⟨g, c, rfl, h1, h3, h4, h5, h6.setOther (a := a) ha u⟩
theorem spine_more (m H q : Nat) (gs : Nat → Nat) : spine (m + 1) H (m + 1) (upd gs m q) = spine m H m gs ++ [.slice (some ⟨q, 0, none⟩) H H] := by
  unfold spine
  rw [List.range_succ, List.map_append]
  congr 1
  · apply List.map_congr_left
    intro r hr
    have hr := List.mem_range.1 hr
    rw [if_pos hr, if_pos (by omega), upd_ne (by omega)]
  · simp [upd_at]
/-- The m rows that are there: row r reads as C r; the rows lie apart, the later ones in later blocks. -/
structure RtM (B : Nat) (w wr : World) (m H g cap : Nat) (gs : Nat → Nat) (C : Nat → Nat → Int) : Prop where
  ow : wr.ownsRow B 34 1 (.slice (some ⟨g, 0, none⟩) m cap) m (spine m H m gs)
  row : ∀ r, r < m → Blk 3 wr (gs r) (fl (C r) H)
  far : ∀ r, r < m → B ≤ gs r ∧ gs r ≠ g
  inj : ∀ r s, r < s → s < m → gs r < gs s
  bel : Below B w wr
  siz : B ≤ wr.heap.size
section
variable {B : Nat} {w wr : World} {m H g cap : Nat} {gs : Nat → Nat} {C : Nat → Nat → Int}
theorem RtM.start (w : World) (H : Nat) (gs : Nat → Nat) (C : Nat → Nat → Int) : RtM w.heap.size w (w.alloc (.cells #[] 34)) 0 H w.heap.size 0 gs C :=
  ⟨own_new w 34 1, fun r hr => by omega, fun r hr => by omega, fun r s _ hs => by omega, below_new w _, by simp⟩
theorem RtM.read (h : RtM B w wr m H g cap gs C) : TbR wr g m H gs C :=
  ⟨fun r hr => by rw [h.ow.cellAt r (by omega), spine_at hr, if_pos hr], fun r y hr hy => (h.row r hr).int hy, fun _ => own_ltS h.ow g rfl, fun r hr => (h.row r hr).lt⟩
theorem RtM.keep {wr' : World} (h : RtM B w wr m H g cap gs C) (hb : Below wr.heap.size wr wr') : RtM B w wr' m H g cap gs C :=
  ⟨own_keep h.ow hb, fun r hr => (h.row r hr).keep hb, h.far, h.inj, below_on h.bel h.siz hb, Nat.le_trans h.siz hb.size⟩
theorem RtM.drewN (h : RtM B w wr m H g cap gs C) (z : Nat) : RtM B w (wr.drewN z) m H g cap gs C := ⟨h.ow, fun r hr => (h.row r hr).drewN z, h.far, h.inj, below_drewN h.bel z, h.siz⟩
theorem RtM.set (h : RtM B w wr m H g cap gs C) {r0 : Nat} (hr0 : r0 < m) (y : Nat) (v : Int) : RtM B w (wr.setCell ⟨gs r0, y, none⟩ (.int .i64 v)) m H g cap gs (upd C r0 (upd (C r0) y v)) := by
  refine ⟨own_farR h.ow (a := ⟨gs r0, y, none⟩) (fun e => (h.far r0 hr0).2 e.symm) _, fun r hr => ?_, h.far, h.inj, below_set h.bel (h.far r0 hr0).1 _, by simpa using h.siz⟩
  by_cases e : r = r0
  · subst e
    rw [upd_at]
    exact (h.row r hr).setI y v
  · rw [upd_ne e]
    refine (h.row r hr).setOther (a := ⟨gs r0, y, none⟩) ?_ _
    show gs r ≠ gs r0
    rcases Nat.lt_or_ge r r0 with k | k
    · have := h.inj r r0 k hr0; omega
    · have := h.inj r0 r (by omega) hr; omega
theorem RtM.congr {C' : Nat → Nat → Int} (h : RtM B w wr m H g cap gs C) (e : ∀ r y, r < m → y < H → C r y = C' r y) : RtM B w wr m H g cap gs C' :=
  ⟨h.ow, fun r hr => by rw [← fl_congr (f := C r) (g := C' r) (fun y hy => e r y hr hy)]; exact h.row r hr, h.far, h.inj, h.bel, h.siz⟩
theorem RtM.grow {w5 : World} {g5 c5 : Nat} (h : RtM B w wr m H g cap gs C)
    (o5 : w5.ownsRow B 34 1 (.slice (some ⟨g5, 0, none⟩) (m + 1 : Nat) c5) (m + 1) (spine m H m gs ++ [.slice (some ⟨wr.heap.size, 0, none⟩) H H]))
    (gr : ((wr.alloc (.cells (Array.replicate H (.int .i64 0)) 3)).alloc (.cells #[.slice (some ⟨wr.heap.size, 0, none⟩) H H] 34)).grownBy w5 (some g))
    (at5 : some g = some g5 ∨ g5 = ((wr.alloc (.cells (Array.replicate H (.int .i64 0)) 3)).alloc (.cells #[.slice (some ⟨wr.heap.size, 0, none⟩) H H] 34)).heap.size) :
    RtM B w w5 (m + 1) H g5 c5 (upd gs m wr.heap.size) (upd C m fun _ => 0) := by
  have hg : g < wr.heap.size := own_ltS h.ow g rfl
  have hgB : B ≤ g := own_ge h.ow g rfl
  have hB := h.siz
  have s1 : ((wr.alloc (.cells (Array.replicate H (.int .i64 0)) 3)).alloc (.cells #[.slice (some ⟨wr.heap.size, 0, none⟩) H H] 34)).heap.size = wr.heap.size + 2 := by simp
  rw [s1] at at5
  have s5 := gr.size
  rw [s1] at s5
  have hg5 : g5 = g ∨ g5 = wr.heap.size + 2 := by
    rcases at5 with e | e
    · injection e with e; exact .inl e.symm
    · exact .inr e
  have hnew : Blk 3 (wr.alloc (.cells (Array.replicate H (.int .i64 0)) 3)) wr.heap.size (fl (fun _ => 0) H) := by
    rw [fl_const]
    have := Blk.new wr 3 (List.replicate H (.int .i64 0))
    simpa using this
  refine ⟨?_, fun r hr => ?_, fun r hr => ?_, fun r s hrs hs => ?_, ?_, by omega⟩
  · rw [spine_more]
    exact o5
  · by_cases e : r = m
    · subst e
      rw [upd_at, upd_at]
      exact (hnew.alloc _).grown gr (by intro e; injection e with e; omega)
    · rw [upd_ne e, upd_ne e]
      have := h.far r (by omega)
      exact (((h.row r (by omega)).alloc _).alloc _).grown gr (by intro e; injection e with e; exact this.2 e)
  · by_cases e : r = m
    · subst e
      rw [upd_at]
      omega
    · rw [upd_ne e]
      have h1 := h.far r (by omega)
      have h2 := (h.row r (by omega)).lt
      omega
  · by_cases e : s = m
    · subst e
      rw [upd_at, upd_ne (by omega)]
      exact (h.row r (by omega)).lt
    · rw [upd_ne e, upd_ne (by omega)]
      exact h.inj r s hrs (by omega)
  · exact h.bel.trans ((((Below.refl _ _).alloc h.siz _).alloc (by simp; omega) _).trans (below_gr gr (by omega) (fun g' e => by injection e with e; omega)))
end
end Go.Proofs.Ytkfjlgjncaddpaa
