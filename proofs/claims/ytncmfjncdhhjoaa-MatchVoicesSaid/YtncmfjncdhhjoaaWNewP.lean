/- newPricing. -/
import Derived.Test.YtncmfjncdhhjoaaWNew
namespace Go.Proofs.Ytncmfjncdhhjoaa
open Go.RowKit

theorem pricing_end {w W : World} {e : Ending} {p gu gv go n m : Nat} {C : Value} {u v o : Nat → Int} (he : e = .returned (.pointer (some ⟨p, 0, none⟩)))
    (h1 : Blk 80 W p [C, .slice (some ⟨gu, 0, none⟩) n n, .slice (some ⟨gv, 0, none⟩) m m, .slice (some ⟨go, 0, none⟩) m m])
    (h2 : Blk 3 W gu (fl u n)) (h3 : Blk 3 W gv (fl v m)) (h4 : Blk 3 W go (fl o m))
    (h5 : w.heap.size ≤ p ∧ w.heap.size ≤ gu ∧ w.heap.size ≤ gv ∧ w.heap.size ≤ go ∧ p ≠ gu ∧ p ≠ gv ∧ p ≠ go ∧ gu ≠ gv ∧ gu ≠ go ∧ gv ≠ go) (h6 : Below w.heap.size w W) :
    ∃ p gu gv go, e = .returned (.pointer (some ⟨p, 0, none⟩)) ∧ PrM w.heap.size W p gu gv go C n m u v o ∧ Below w.heap.size w W :=
  ⟨p, gu, gv, go, he, ⟨h1, h2, h3, h4, h5⟩, h6⟩
set_option maxHeartbeats 2000000 in
set_option maxRecDepth 100000 in
theorem newPricing_any (A : Option Addr) (c n m : Nat) (h1 : 1 ≤ m) (hm : m ≤ 64) (hn : n ≤ 64) (w : World) :
    Calls Try.prog 51 #[.slice A n c, .int .i64 (m : Int)] w fun e w' => ∃ p gu gv go, e = .returned (.pointer (some ⟨p, 0, none⟩)) ∧
      PrM w.heap.size w' p gu gv go (.slice A n c) n m (fun _ => 0) (fun _ => 0) (fun _ => -1) ∧ Below w.heap.size w w' := by
  have hmk := fun W => makeI m hm W
  have hmk2 := fun W => makeI n hn W
  have hm2 : m ≤ 1048576 := by omega
  go_enter Try.func51, Try.ntmps51
  go_wp2_with (fail)
  go_region_held3 (fun _ => True) (first | exact trivial | go_keep)
    ((go_at_call 68; (with_reducible refine (repeatI_any _ 0 _ _ (-1) _ (one_ints ?_ ?_) h1 hm2).mono ?_); (focus ((repeat (first | ((with_reducible refine cell_found ?_); focus (simp; done)) | (with_reducible refine cell_drew.trans ?_) | ((with_reducible refine (cell_alloc ?_).trans ?_); focus (first | (simp; done) | (simp; omega) | (have h9 := hl1.size; simp at h9 ⊢; omega))))); done)); (focus (first | (simp; done) | (simp; omega) | (have h9 := hl1.size; simp at h9 ⊢; omega))); rintro e w1 ⟨g1, rfl, hg1, hb1, hl1⟩))
  all_goals
    go_wp2
    go_ret
    rw [rep_fl] at hb1
    have s1 := hl1.size
    have s3 := hb1.lt
    try simp at s1
    try simp at hg1
    refine pricing_end (go := g1) rfl (blk_found (by first | (simp; done) | rfl)) ?_ ?_ ?_ ?_ ?_
    · repeat (first | ((with_reducible refine blk_madeI' ?_); focus (simp; done)) | (with_reducible refine Blk.drew ?_) | (with_reducible refine Blk.alloc ?_ _) | (with_reducible refine Blk.keep ?_ hl1))
    · repeat (first | ((with_reducible refine blk_madeI' ?_); focus (simp; done)) | (with_reducible refine Blk.drew ?_) | (with_reducible refine Blk.alloc ?_ _) | (with_reducible refine Blk.keep ?_ hl1))
    · repeat (first | exact hb1 | (with_reducible refine Blk.drew ?_) | (with_reducible refine Blk.alloc ?_ _))
    · refine ⟨?_, ?_, ?_, ?_, ?_, ?_, ?_, ?_, ?_, ?_⟩ <;> (try simp) <;> omega
    · repeat (first | exact Below.refl _ _ | (with_reducible refine Below.drew ?_) | ((with_reducible refine bel_alloc ?_ ?_); rotate_left; focus (first | (simp; done) | omega | (simp; omega))) | ((with_reducible refine below_on ?_ ?_ hl1); rotate_left; focus (first | (simp; done) | omega | (simp; omega))))

end Go.Proofs.Ytncmfjncdhhjoaa
