/- newPairing. -/
import Derived.Test.YtncmfjncdhhjoaaWNew
namespace Go.Proofs.Ytncmfjncdhhjoaa
open Go.RowKit

theorem cell_alloc' {W : World} {b i : Nat} {o : Obj} (h : b < W.heap.size) : (W.alloc o).cell? ⟨b, i, none⟩ = W.cell? ⟨b, i, none⟩ := (below_new W o).cell h
theorem pairing_end {w W : World} {e : Ending} {p go gk gs m : Nat} {may : Value} {o : Nat → Int} {k s : Nat → Bool} (he : e = .returned (.pointer (some ⟨p, 0, none⟩)))
    (h1 : Blk 93 W p [.int .i64 (m : Int), may, .slice (some ⟨go, 0, none⟩) m m, .slice (some ⟨gk, 0, none⟩) m m, .slice (some ⟨gs, 0, none⟩) m m])
    (h4 : Blk 4 W gk (flB k m)) (h3 : Blk 4 W gs (flB s m)) (h2 : Blk 3 W go (fl o m))
    (h5 : w.heap.size ≤ p ∧ w.heap.size ≤ go ∧ w.heap.size ≤ gk ∧ w.heap.size ≤ gs ∧ p ≠ go ∧ p ≠ gk ∧ p ≠ gs ∧ go ≠ gk ∧ go ≠ gs ∧ gk ≠ gs) (h6 : Below w.heap.size w W) :
    ∃ p go gk gs, e = .returned (.pointer (some ⟨p, 0, none⟩)) ∧ PaM [] w.heap.size W p go gk gs may m o k s ∧ Below w.heap.size w W :=
  ⟨p, go, gk, gs, he, ⟨h1, h2, h4, h3, h5, fun y hy => by simp at hy⟩, h6⟩
set_option maxHeartbeats 2000000 in
set_option maxRecDepth 100000 in
theorem newPairing_any (fn : Fn) (fa fb : Array Value) (m : Nat) (h1 : 1 ≤ m) (hm : m ≤ 64) (w : World) :
    Calls Try.prog 59 #[.agg #[.int .i64 (m : Int), .func fn fa fb]] w fun e w' => ∃ p go gk gs, e = .returned (.pointer (some ⟨p, 0, none⟩)) ∧
      PaM [] w.heap.size w' p go gk gs (.func fn fa fb) m (fun _ => -1) (fun _ => false) (fun _ => false) ∧ Below w.heap.size w w' := by
  have hmk := fun W => makeB m hm W
  have hm2 : m ≤ 1048576 := by omega
  have e0 : (w.alloc (.cells #[.int .i64 (m : Int), .func fn fa fb] 87)).cell? ⟨w.heap.size, 0, none⟩ = some (.int .i64 (m : Int)) := by simp
  have e1 : (w.alloc (.cells #[.int .i64 (m : Int), .func fn fa fb] 87)).cell? ⟨w.heap.size, 1, none⟩ = some (.func fn fa fb) := by simp
  go_enter Try.func59, Try.ntmps59
  go_wp2_with (fail)
  go_region_held3 (fun w' => w'.cell? ⟨w.heap.size, 0, none⟩ = some (.int .i64 (m : Int)) ∧ w'.cell? ⟨w.heap.size, 1, none⟩ = some (.func fn fa fb))
    (first
      | exact ⟨e0, e1⟩
      | go_keep
      | (refine ⟨?_, ?_⟩ <;> (repeat (first | exact e0 | exact e1 | (with_reducible refine cell_drew.trans ?_) | ((with_reducible refine (cell_alloc' ?_).trans ?_); focus (first | (simp; done) | (simp; omega) | (have h9 := hl1.size; simp at h9 ⊢; omega))) | ((with_reducible refine (hl1.cell (p := ⟨_, 0, none⟩) ?_).trans ?_); focus (first | (simp; done) | (simp; omega) | (have h9 := hl1.size; simp at h9 ⊢; omega))) | ((with_reducible refine (hl1.cell (p := ⟨_, 1, none⟩) ?_).trans ?_); focus (first | (simp; done) | (simp; omega) | (have h9 := hl1.size; simp at h9 ⊢; omega)))))))
    ((go_at_call 68; (with_reducible refine (repeatI_any _ 0 _ _ (-1) _ (one_ints ?_ ?_) h1 hm2).mono ?_); (focus ((repeat (first | ((with_reducible refine cell_found ?_); focus (simp; done)) | (with_reducible refine cell_drew.trans ?_) | ((with_reducible refine (cell_alloc ?_).trans ?_); focus (first | (simp; done) | (simp; omega) | (have h9 := hl1.size; simp at h9 ⊢; omega))))); done)); (focus (first | (simp; done) | (simp; omega) | (have h9 := hl1.size; simp at h9 ⊢; omega))); rintro e w1 ⟨g1, rfl, hg1, hb1, hl1⟩))
  all_goals
    go_wp2
    go_ret
    rw [rep_fl] at hb1
    have s1 := hl1.size
    have s3 := hb1.lt
    try simp at s1
    try simp at hg1
    refine pairing_end (go := g1) rfl (blk_found (by first | (simp; done) | rfl)) ?_ ?_ ?_ ?_ ?_
    · repeat (first | ((with_reducible refine blk_madeB' ?_); focus (simp; done)) | (with_reducible refine Blk.drew ?_) | (with_reducible refine Blk.alloc ?_ _) | (with_reducible refine Blk.keep ?_ hl1))
    · repeat (first | ((with_reducible refine blk_madeB' ?_); focus (simp; done)) | (with_reducible refine Blk.drew ?_) | (with_reducible refine Blk.alloc ?_ _) | (with_reducible refine Blk.keep ?_ hl1))
    · repeat (first | exact hb1 | (with_reducible refine Blk.drew ?_) | (with_reducible refine Blk.alloc ?_ _))
    · refine ⟨?_, ?_, ?_, ?_, ?_, ?_, ?_, ?_, ?_, ?_⟩ <;> (try simp) <;> omega
    · repeat (first | exact Below.refl _ _ | (with_reducible refine Below.drew ?_) | ((with_reducible refine bel_alloc ?_ ?_); rotate_left; focus (first | (simp; done) | omega | (simp; omega))) | ((with_reducible refine below_on ?_ ?_ hl1); rotate_left; focus (first | (simp; done) | omega | (simp; omega))))
end Go.Proofs.Ytncmfjncdhhjoaa
