/- newReach, newPricing. -/
import Derived.Test.YtncmfjncdhhjoaaTabM
import Derived.Test.YtncmfjncdhhjoaaRep
import Derived.Deep.RegionHeld3
namespace Go.Proofs.Ytncmfjncdhhjoaa
open Go.RowKit

theorem one_ints {W : World} {g : Nat} {x : Int} (hc : W.cell? ⟨g, 0, none⟩ = some (.int .i64 x)) (hg : g < W.heap.size) : Ints W (some ⟨g, 0, none⟩) [x] := by
  intro _
  refine ⟨g, 0, rfl, hg, fun i v hv => ?_⟩
  match i, hv with
  | 0, hv =>
    have : v = .int .i64 x := by simpa [is] using hv.symm
    rw [this]; exact hc
  | i + 1, hv => simp [is] at hv
theorem infoB : (Try.prog.info? 4).map (fun i => (i.zero, i.size, i.bytes)) = some (some (.bool false), 1, 1) := by kernel_rfl
theorem makeB (n : Nat) (h : n ≤ 64) (w : World) : (Instr.makeSlice 89 (.int .i64 (n : Int)) (.int .i64 (n : Int))).run Try.prog w = .ok (.slice (some ⟨w.heap.size, 0, none⟩) n n) (w.alloc (.cells (Array.replicate n (.bool false)) 4)) :=
  run_make_same 89 4 (.bool false) (.bool false) 1 1 Try.underlying89 infoB rfl (by omega) n n (by omega) (by omega) (by omega) w
theorem makeI (n : Nat) (h : n ≤ 64) (w : World) : (Instr.makeSlice 23 (.int .i64 (n : Int)) (.int .i64 (n : Int))).run Try.prog w = .ok (.slice (some ⟨w.heap.size, 0, none⟩) n n) (w.alloc (.cells (Array.replicate n (.int .i64 0)) 3)) :=
  run_make_same 23 3 (.int .i64 0) (.int .i64 0) 1 8 Try.underlying23 infoI rfl (by omega) n n (by omega) (by omega) (by omega) w
theorem blk_madeB (n : Nat) (w : World) : Blk 4 (w.alloc (.cells (Array.replicate n (.bool false)) 4)) w.heap.size (flB (fun _ => false) n) := by
  rw [flB_const]
  have := Blk.new w 4 (List.replicate n (.bool false))
  simpa using this
theorem blk_madeI (n : Nat) (w : World) : Blk 3 (w.alloc (.cells (Array.replicate n (.int .i64 0)) 3)) w.heap.size (fl (fun _ => 0) n) := by
  rw [fl_const]
  have := Blk.new w 3 (List.replicate n (.int .i64 0))
  simpa using this
theorem rep_fl (n : Nat) (x : Int) : (List.replicate n (is [x])).flatten = fl (fun _ => x) n := by
  rw [fl_const]
  induction n with
  | zero => rfl
  | succ n ih => rw [List.replicate_succ, List.flatten_cons, ih, List.replicate_succ]; rfl

theorem cell_alloc {W : World} {b : Nat} {o : Obj} (h : b < W.heap.size) : (W.alloc o).cell? ⟨b, 0, none⟩ = W.cell? ⟨b, 0, none⟩ := (below_new W o).cell h
theorem cell_found {W : World} {b : Nat} {v : Value} {T : TypeId} (h : b = W.heap.size) : (W.alloc (.cells #[v] T)).cell? ⟨b, 0, none⟩ = some v := by
  subst h
  simp
theorem blk_found {W : World} {b : Nat} {vs : List Value} {T : TypeId} (h : b = W.heap.size) : Blk T (W.alloc (.cells vs.toArray T)) b vs := by subst h; exact Blk.new W T vs
theorem blk_madeB' {W : World} {b n : Nat} (h : b = W.heap.size) : Blk 4 (W.alloc (.cells (Array.replicate n (.bool false)) 4)) b (flB (fun _ => false) n) := by subst h; exact blk_madeB n W
theorem blk_madeI' {W : World} {b n : Nat} (h : b = W.heap.size) : Blk 3 (W.alloc (.cells (Array.replicate n (.int .i64 0)) 3)) b (fl (fun _ => 0) n) := by subst h; exact blk_madeI n W
theorem bel_alloc {B : Nat} {w W : World} {o : Obj} (h : Below B w W) (hB : B ≤ W.heap.size) : Below B w (W.alloc o) := h.alloc hB o
theorem cell_drew {W : World} {p : Addr} : W.drew.cell? p = W.cell? p := rfl
theorem reach_end {w W : World} {e : Ending} {q ga gf gd m : Nat} {a f : Nat → Int} {d : Nat → Bool} (he : e = .returned (.pointer (some ⟨q, 0, none⟩)))
    (h1 : Blk 102 W q [.slice (some ⟨ga, 0, none⟩) m m, .slice (some ⟨gf, 0, none⟩) m m, .slice (some ⟨gd, 0, none⟩) m m])
    (h2 : Blk 3 W ga (fl a m)) (h3 : Blk 3 W gf (fl f m)) (h4 : Blk 4 W gd (flB d m))
    (h5 : w.heap.size ≤ q ∧ w.heap.size ≤ ga ∧ w.heap.size ≤ gf ∧ w.heap.size ≤ gd ∧ q ≠ ga ∧ q ≠ gf ∧ q ≠ gd ∧ ga ≠ gf ∧ ga ≠ gd ∧ gf ≠ gd) (h6 : Below w.heap.size w W) :
    ∃ q ga gf gd, e = .returned (.pointer (some ⟨q, 0, none⟩)) ∧ ReM w.heap.size W q ga gf gd m a f d ∧ Below w.heap.size w W :=
  ⟨q, ga, gf, gd, he, ⟨h1, h2, h3, h4, h5⟩, h6⟩
set_option maxHeartbeats 2000000 in
set_option maxRecDepth 100000 in
theorem newReach_any (m : Nat) (h1 : 1 ≤ m) (hm : m ≤ 64) (w : World) :
    Calls Try.prog 69 #[.int .i64 (m : Int)] w fun e w' => ∃ q ga gf gd, e = .returned (.pointer (some ⟨q, 0, none⟩)) ∧
      ReM w.heap.size w' q ga gf gd m (fun _ => 1152921504606846976) (fun _ => -1) (fun _ => false) ∧ Below w.heap.size w w' := by
  have hmk := fun W => makeB m hm W
  have hm2 : m ≤ 1048576 := by omega
  go_enter Try.func69, Try.ntmps69
  go_wp2_with (fail)
  go_region_held3 (fun _ => True) (first | exact trivial | go_keep)
    (first
      | (go_at_call 68; (with_reducible refine (repeatI_any _ 0 _ _ (1152921504606846976) _ (one_ints ?_ ?_) h1 hm2).mono ?_); (focus ((repeat (first | ((with_reducible refine cell_found ?_); focus (simp; done)) | (with_reducible refine cell_drew.trans ?_) | ((with_reducible refine (cell_alloc ?_).trans ?_); focus (first | (simp; done) | (simp; omega) | (have h9 := hl1.size; simp at h9 ⊢; omega))) | ((with_reducible refine (hl1.cell (p := ⟨_, 0, none⟩) ?_).trans ?_); focus (first | (simp; done) | (simp; omega) | (have h9 := hl1.size; simp at h9 ⊢; omega))))); done)); (focus (first | (simp; done) | (simp; omega) | (have h9 := hl1.size; simp at h9 ⊢; omega))); rintro e w1 ⟨g1, rfl, hg1, hb1, hl1⟩)
      | (go_at_call 68; (with_reducible refine (repeatI_any _ 0 _ _ (-1) _ (one_ints ?_ ?_) h1 hm2).mono ?_); (focus ((repeat (first | ((with_reducible refine cell_found ?_); focus (simp; done)) | (with_reducible refine cell_drew.trans ?_) | ((with_reducible refine (cell_alloc ?_).trans ?_); focus (first | (simp; done) | (simp; omega) | (have h9 := hl1.size; simp at h9 ⊢; omega))) | ((with_reducible refine (hl1.cell (p := ⟨_, 0, none⟩) ?_).trans ?_); focus (first | (simp; done) | (simp; omega) | (have h9 := hl1.size; simp at h9 ⊢; omega))))); done)); (focus (first | (simp; done) | (simp; omega) | (have h9 := hl1.size; simp at h9 ⊢; omega))); rintro e w2 ⟨g2, rfl, hg2, hb2, hl2⟩))
  all_goals
    go_wp2
    go_ret
    rw [rep_fl] at hb1 hb2
    have s1 := hl1.size
    have s2 := hl2.size
    have s3 := hb1.lt
    have s4 := hb2.lt
    try simp at s1
    try simp at s2
    try simp at hg1
    try simp at hg2
    refine reach_end (ga := g1) (gf := g2) rfl (blk_found (by first | (simp; done) | rfl)) ?_ ?_ ?_ ?_ ?_
    · repeat (first | exact hb1 | (with_reducible refine Blk.drew ?_) | (with_reducible refine Blk.alloc ?_ _) | (with_reducible refine Blk.keep ?_ hl2))
    · repeat (first | exact hb2 | (with_reducible refine Blk.drew ?_) | (with_reducible refine Blk.alloc ?_ _))
    · repeat (first | ((with_reducible refine blk_madeB' ?_); focus (simp; done)) | (with_reducible refine Blk.drew ?_) | (with_reducible refine Blk.alloc ?_ _) | (with_reducible refine Blk.keep ?_ hl2) | (with_reducible refine Blk.keep ?_ hl1))
    · refine ⟨?_, ?_, ?_, ?_, ?_, ?_, ?_, ?_, ?_, ?_⟩ <;> (try simp) <;> omega
    · repeat (first | exact Below.refl _ _ | (with_reducible refine Below.drew ?_) | ((with_reducible refine bel_alloc ?_ ?_); rotate_left; focus (first | (simp; done) | omega | (simp; omega))) | ((with_reducible refine below_on ?_ ?_ hl2); rotate_left; focus (first | (simp; done) | omega | (simp; omega))) | ((with_reducible refine below_on ?_ ?_ hl1); rotate_left; focus (first | (simp; done) | omega | (simp; omega))))

end Go.Proofs.Ytncmfjncdhhjoaa
