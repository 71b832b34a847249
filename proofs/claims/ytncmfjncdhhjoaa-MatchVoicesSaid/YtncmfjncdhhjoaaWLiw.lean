/- lives returns true. -/
import Derived.Test.YtncmfjncdhhjoaaWLiv
namespace Go.Proofs.Ytncmfjncdhhjoaa
open Go.RowKit

set_option maxHeartbeats 4000000 in
set_option maxRecDepth 100000 in
theorem lives_any (w : World) : Calls Try.prog 26 #[] w fun e w' => e = .returned (.bool true) ∧ Below w.heap.size w w' := by
  have hb1 : ∀ (W : World) (H : Nat) (a b c d : Int), W.heap.size = H → Tab (((W.alloc (.cells #[.int .i64 a, .int .i64 b] 3)).alloc (.cells #[.int .i64 c, .int .i64 d] 3)).alloc (.cells #[.slice (some ⟨H, 0, none⟩) 2 2, .slice (some ⟨H + 1, 0, none⟩) 2 2] 23)).heap.size
      (((W.alloc (.cells #[.int .i64 a, .int .i64 b] 3)).alloc (.cells #[.int .i64 c, .int .i64 d] 3)).alloc (.cells #[.slice (some ⟨H, 0, none⟩) 2 2, .slice (some ⟨H + 1, 0, none⟩) 2 2] 23)) (some ⟨H + 1 + 1, 0, none⟩) [[a, b], [c, d]] := by
    intro W H a b c d hH
    subst hH
    have k1 : Blk 3 (W.alloc (.cells #[.int .i64 a, .int .i64 b] 3)) W.heap.size (is [a, b]) := Blk.new W 3 [.int .i64 a, .int .i64 b]
    have k2 : Blk 3 ((W.alloc (.cells #[.int .i64 a, .int .i64 b] 3)).alloc (.cells #[.int .i64 c, .int .i64 d] 3)) (W.heap.size + 1) (is [c, d]) := by
      have := Blk.new (W.alloc (.cells #[.int .i64 a, .int .i64 b] 3)) 3 [.int .i64 c, .int .i64 d]
      simpa [is] using this
    have k3 : Blk 23 (((W.alloc (.cells #[.int .i64 a, .int .i64 b] 3)).alloc (.cells #[.int .i64 c, .int .i64 d] 3)).alloc (.cells #[.slice (some ⟨W.heap.size, 0, none⟩) 2 2, .slice (some ⟨W.heap.size + 1, 0, none⟩) 2 2] 23)) (W.heap.size + 1 + 1) [.slice (some ⟨W.heap.size, 0, none⟩) 2 2, .slice (some ⟨W.heap.size + 1, 0, none⟩) 2 2] := by
      have := Blk.new ((W.alloc (.cells #[.int .i64 a, .int .i64 b] 3)).alloc (.cells #[.int .i64 c, .int .i64 d] 3)) 23 [.slice (some ⟨W.heap.size, 0, none⟩) 2 2, .slice (some ⟨W.heap.size + 1, 0, none⟩) 2 2]
      simpa using this
    exact tab2 ((k1.alloc _).alloc _) (k2.alloc _) k3
  have hl3 : ∀ (W : World) (x y z : Obj), Below W.heap.size W (((W.alloc x).alloc y).alloc z) := fun W x y z => (((Below.refl _ _).alloc (Nat.le_refl _) _).alloc (by simp) _).alloc (by simp; omega) _
  have hsm := fun (A A' : Option Addr) (c c' : Nat) (l : List Int) (W : World) (hA : Ints W A l) (hA' : Ints W A' l) (hl : 2 = l.length) => (same_any A A' c c' 2 2 l l W hA hA' hl hl (by omega) (by omega)).mono (R' := fun e w' => e = .returned (.bool true) ∧ Below W.heap.size W w') fun e w' h => ⟨by rw [h.1]; simp, h.2⟩
  have HB1 := Lib.hid hb1
  have HL3 := Lib.hid hl3
  have HSM := Lib.hid hsm
  clear hb1 hl3 hsm
  go_enter Try.func26, Try.ntmps26
  go_wp2_with (first
    | (go_at_call 28; refine (best_any (some ⟨w.heap.size + 1 + 1, 0, none⟩) 2 2 [[4, 1], [2, 0]] _ (HB1.out w _ 4 1 2 0 rfl) rfl).mono ?_
       intro e w1 hpost
       obtain ⟨hl1, gt, gu, gv, rfl, hbt⟩ := lives1 hpost
       have hl1' := (HL3.out w _ _ _).trans (hl1.mono (HL3.out w _ _ _).size)
       clear hpost hl1)
    | (go_at_call 38; refine (hall_any 12 sortK_12 (some ⟨w1.heap.size + 1 + 1 + 1, 0, none⟩) 2 2 [[5, -1], [7, -1]] _ (HB1.out (w1.alloc _) _ 5 (-1) 7 (-1) (by simp)) rfl (by omega)).mono ?_
       intro e w2 hpost
       obtain ⟨hl2, gh, ch, rfl, hbh⟩ := lives2 hpost
       have hl3 := HL3.out (w1.alloc (.cells #[.slice (some ⟨gt, 0, none⟩) 2 2, .slice (some ⟨gu, 0, none⟩) 2 2, .slice (some ⟨gv, 0, none⟩) 2 2, .int .i64 3] 35)) (.cells #[.int .i64 5, .int .i64 (-1)] 3) (.cells #[.int .i64 7, .int .i64 (-1)] 3) (.cells #[.slice (some ⟨w1.heap.size + 1, 0, none⟩) 2 2, .slice (some ⟨w1.heap.size + 1 + 1, 0, none⟩) 2 2] 23)
       have hl4 := hl3.trans (hl2.mono hl3.size)
       have hr : Blk 35 w2 w1.heap.size [.slice (some ⟨gt, 0, none⟩) 2 2, .slice (some ⟨gu, 0, none⟩) 2 2, .slice (some ⟨gv, 0, none⟩) 2 2, .int .i64 3] := (Blk.new w1 35 _).keep hl4
       have hbt2 : Blk 3 w2 gt (is [1, 0]) := (hbt.alloc _).keep hl4
       have hl5 := (below_new w1 (.cells #[.slice (some ⟨gt, 0, none⟩) 2 2, .slice (some ⟨gu, 0, none⟩) 2 2, .slice (some ⟨gv, 0, none⟩) 2 2, .int .i64 3] 35))
       have hl6 := hl5.trans (hl4.mono hl5.size)
       have r3 : w2.cell? ⟨w1.heap.size, 3, none⟩ = some (.int .i64 3) := hr.cell 3
       have r0 : w2.cell? ⟨w1.heap.size, 0, none⟩ = some (.slice (some ⟨gt, 0, none⟩) 2 2) := hr.cell 0
       have n1 := below_new w2 (.cells #[.int .i64 1, .int .i64 0] 3)
       have HS1 := Lib.hid (HSM.out (some ⟨gt, 0, none⟩) (some ⟨w2.heap.size, 0, none⟩) 2 2 [1, 0] (w2.alloc (.cells #[.int .i64 1, .int .i64 0] 3)) (hbt2.alloc _).vals0 (Blk.new w2 3 [.int .i64 1, .int .i64 0]).vals0 rfl)
       clear hpost hl2 hl3 hl4 hl5 hbt hbt2)
    | (go_at_call 31; refine (HS1.out).mono ?_; rintro e w3 ⟨rfl, hl7⟩
       have hb3 := (hbh.keep (n1.trans (hl7.mono n1.size))).vals
       have HS2 := Lib.hid (HSM.out (some ⟨gh, 0, none⟩) (some ⟨w3.heap.size, 0, none⟩) ch 2 [0, 1] (w3.alloc (.cells #[.int .i64 0, .int .i64 1] 3)) (hb3.alloc _) (Blk.new w3 3 [.int .i64 0, .int .i64 1]).vals0 rfl)
       have hl8 := n1.trans (hl7.mono n1.size)
       have n2 := below_new w3 (.cells #[.int .i64 0, .int .i64 1] 3)
       clear HS1)
    | (go_at_call 31; refine (HS2.out).mono ?_; rintro e w4 ⟨rfl, hl9⟩))
  have g1 := hl1'.trans (hl6.mono hl1'.size)
  have g2 := g1.trans (hl8.mono g1.size)
  have g3 := g2.trans ((n2.trans (hl9.mono n2.size)).mono g2.size)
  go_ret
  exact ⟨rfl, g3⟩

end Go.Proofs.Ytncmfjncdhhjoaa
