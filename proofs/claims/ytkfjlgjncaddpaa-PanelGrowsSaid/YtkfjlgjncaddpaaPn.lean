/- The panel of a law. -/
import Derived.Test.YtkfjlgjncaddpaaPan2
import Derived.Test.YtkfjlgjncaddpaaWLiv
import Derived.Test.YtkfjlgjncaddpaaWFew
import Derived.Test.YtkfjlgjncaddpaaWRck
namespace Go.Proofs.Ytkfjlgjncaddpaa
open Go.RowKit

/-- A panel with a copy of its shapes, in memory of the call's own. -/
structure PnM (w wr : World) (q g n cap : Nat) (X Y K : Int) (ss : List Sh) : Prop where
  bx : Blk 24 wr q [.int .i64 X, .int .i64 Y, .int .i64 K, .slice (some ⟨g, 0, none⟩) n cap]
  sh : Hd 65 wr g (cap * 4) (sc ss)
  bel : Below w.heap.size w wr
  far : w.heap.size ≤ q ∧ w.heap.size ≤ g ∧ q ≠ g
  len : n = ss.length ∧ n ≤ 17 ∧ n ≤ cap ∧ cap ≤ maxLen
theorem PnM.keep {w wr wr' : World} {q g n cap : Nat} {X Y K : Int} {ss : List Sh} (h : PnM w wr q g n cap X Y K ss) (hb : Below wr.heap.size wr wr') : PnM w wr' q g n cap X Y K ss :=
  ⟨h.bx.keep hb, h.sh.keep hb, below_on h.bel h.bel.size hb, h.far, h.len⟩
theorem PnM.drewN {w wr : World} {q g n cap : Nat} {X Y K : Int} {ss : List Sh} (h : PnM w wr q g n cap X Y K ss) (z : Nat) : PnM w (wr.drewN z) q g n cap X Y K ss := ⟨h.bx.drewN z, h.sh.drewN z, below_drewN h.bel z, h.far, h.len⟩
theorem PnM.cells {w wr : World} {q g n cap : Nat} {X Y K : Int} {ss : List Sh} (h : PnM w wr q g n cap X Y K ss) : wr.cell? ⟨q, 0, none⟩ = some (.int .i64 X) ∧ wr.cell? ⟨q, 1, none⟩ = some (.int .i64 Y) ∧ wr.cell? ⟨q, 2, none⟩ = some (.int .i64 K) ∧ wr.cell? ⟨q, 3, none⟩ = some (.slice (some ⟨g, 0, none⟩) n cap) :=
  ⟨h.bx.cell 0, h.bx.cell 1, h.bx.cell 2, h.bx.cell 3⟩
/-- The panel's box, just made, of what few gave. -/
theorem pn_new {w w0 w1 : World} {g cap : Nat} {X Y K : Int} {ss : List Sh} (h0 : Below w.heap.size w w0) (hg : w0.heap.size ≤ g) (hl : (fewL ss).length ≤ cap) (hc : cap ≤ maxLen) (hH : Hd 65 w1 g (cap * 4) (sc (fewL ss))) (hb : Below w0.heap.size w0 w1) :
    PnM w (w1.alloc (.cells #[.int .i64 X, .int .i64 Y, .int .i64 K, .slice (some ⟨g, 0, none⟩) (fewL ss).length cap] 24)) w1.heap.size g (fewL ss).length cap X Y K (fewL ss) := by
  have hbn := below_new w1 (.cells #[.int .i64 X, .int .i64 Y, .int .i64 K, .slice (some ⟨g, 0, none⟩) (fewL ss).length cap] 24)
  have h1 := below_on h0 h0.size hb
  have hlt := hH.lt
  refine ⟨Blk.new w1 24 [_, _, _, _], hH.keep hbn, below_on h1 h1.size hbn, ⟨h1.size, Nat.le_trans h0.size hg, by omega⟩, rfl, ?_, hl, hc⟩
  unfold fewL
  rw [List.length_take]
  omega
theorem below2 {w w1 w2 : World} (h : Below w.heap.size w w1) (k : Below w1.heap.size w1 w2) : Below w.heap.size w w2 := below_on h h.size k

end Go.Proofs.Ytkfjlgjncaddpaa
