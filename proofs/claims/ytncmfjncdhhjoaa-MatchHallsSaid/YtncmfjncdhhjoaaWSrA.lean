/- slices.Sort of any number of ints. -/
import Derived.Test.YtncmfjncdhhjoaaWHall
import Derived.Test.YtncmfjncdhhjoaaShf
namespace Go.Proofs.Ytncmfjncdhhjoaa
open Go.RowKit

theorem fl_isA (f : Nat → Int) (n : Nat) : fl f n = is ((List.range n).map f) := by simp [fl, is, List.map_map, Function.comp_def]
theorem sort_block {w : World} {g n : Nat} {zs ys : List Int} {rest : List Value} (h : Blk 3 w g (is zs ++ rest)) (hl : ys.length = zs.length) : Blk 3 (Go.Sort.putRow (Value.int .i64) (Go.Sort.ahead w n) g 0 ys.toArray) g (is ys ++ rest) := by
  unfold Blk at h ⊢
  unfold Go.Sort.putRow Go.Sort.mapBlock Go.Sort.ahead
  simp only [Array.getElem?_modify, if_true]
  rw [h]
  simp only [Option.map_some, Go.Sort.onCells]
  congr 2
  unfold Go.Sort.putCells
  apply Array.ext_getElem?
  intro k
  simp only [Array.getElem?_mapIdx, List.getElem?_toArray]
  by_cases hk : k < zs.length
  · rw [List.getElem?_append_left (by rw [is_len]; exact hk), List.getElem?_append_left (by rw [is_len]; omega), is_at (List.getElem?_eq_getElem hk), is_at (List.getElem?_eq_getElem (by omega : k < ys.length))]
    simp only [Option.map_some, Nat.zero_le, true_and, Nat.sub_zero, Nat.zero_add]
    rw [if_pos (by simp; omega)]
    simp [getElem!_pos, hk, hl]
  · rw [List.getElem?_append_right (by rw [is_len]; omega), List.getElem?_append_right (by rw [is_len]; omega), is_len, is_len, hl]
    cases rest[k - zs.length]? with
    | none => rfl
    | some v =>
      simp only [Option.map_some]
      rw [if_neg (by simp; omega)]
theorem sort_other {w : World} {g n k : Nat} {ys : List Int} (h : k ≠ g) : (Go.Sort.putRow (Value.int .i64) (Go.Sort.ahead w n) g 0 ys.toArray).heap[k]? = w.heap[k]? := by
  unfold Go.Sort.putRow Go.Sort.mapBlock Go.Sort.ahead
  simp only [Array.getElem?_modify]
  rw [if_neg (fun e => h e.symm)]
theorem sort_size {w : World} {g n : Nat} {ys : List Int} : (Go.Sort.putRow (Value.int .i64) (Go.Sort.ahead w n) g 0 ys.toArray).heap.size = w.heap.size := by
  unfold Go.Sort.putRow Go.Sort.mapBlock Go.Sort.ahead
  simp
theorem swp_of_perm {n : Nat} {f : Nat → Int} {ys : List Int} (h : ys.Perm ((List.range n).map f)) : Swp n f (fun k => ys.getD k 0) := by
  have hlen : ys.length = n := by rw [h.length_eq]; simp
  have hat : ∀ k, k < n → ys[k]? = some (ys.getD k 0) := fun k hk => by
    rw [List.getD_eq_getElem?_getD, List.getElem?_eq_getElem (by omega)]; rfl
  constructor
  · intro x
    have h1 : x ∈ ys ↔ x ∈ (List.range n).map f := h.mem_iff
    constructor
    · rintro ⟨k, hk, rfl⟩
      obtain ⟨j, hj, e⟩ := List.mem_map.1 (h1.1 (List.mem_of_getElem? (hat k hk)))
      exact ⟨j, List.mem_range.1 hj, e⟩
    · rintro ⟨j, hj, rfl⟩
      obtain ⟨k, hk, e⟩ := List.mem_iff_getElem.1 (h1.2 (List.mem_map.2 ⟨j, List.mem_range.2 hj, rfl⟩))
      refine ⟨k, by omega, ?_⟩
      show ys.getD k 0 = _
      rw [List.getD_eq_getElem?_getD, List.getElem?_eq_getElem hk, ← e]; rfl
  · intro hinj i j hi hj e
    have hnd : ((List.range n).map f).Nodup := by
      unfold List.Nodup
      rw [List.pairwise_map]
      have hr : (List.range n).Nodup := List.nodup_range
      unfold List.Nodup at hr
      refine hr.imp_of_mem fun {a b} ha hb hne e => hne (hinj a b (List.mem_range.1 ha) (List.mem_range.1 hb) e)
    have hnd2 : ys.Nodup := h.nodup_iff.2 hnd
    have e2 : ys.getD i 0 = ys.getD j 0 := e
    have h1 := hat i hi
    have h2 := hat j hj
    rw [← e2, ← h1] at h2
    exact (List.getElem?_inj (by omega) hnd2).1 h2.symm
theorem srt_of_sorted {n : Nat} {ys : List Int} (hl : ys.length = n) (h : ys.Pairwise (fun a b => a ≤ b)) : Srt (fun k => ys.getD k 0) n := by
  intro a b hab hb
  show ys.getD a 0 ≤ ys.getD b 0
  have ha' : a < ys.length := by omega
  have hb' : b < ys.length := by omega
  rw [List.getD_eq_getElem?_getD, List.getD_eq_getElem?_getD, List.getElem?_eq_getElem ha', List.getElem?_eq_getElem hb']
  by_cases e : a = b
  · subst e; exact Int.le_refl _
  · exact List.pairwise_iff_getElem.1 h a b ha' hb' (by omega)
theorem sortK_any : SortK 1000000 := by
  intro B g cap n c f w hH h1 h2 hB
  have hlz : ((List.range n).map f).length = n := by simp
  obtain ⟨rest, hr, hb⟩ := hH
  rw [fl_isA] at hb
  have hh : Go.Sort.Holds (Value.int .i64) w g 0 ((List.range n).map f).toArray := by
    intro j hj
    have hj' : j < n := by simpa using hj
    have e1 := hb.cell j
    rw [List.getElem?_append_left (by rw [is_len, hlz]; exact hj'), is_at (List.getElem?_eq_getElem (by rw [hlz]; exact hj'))] at e1
    refine ⟨?_, hb.frozen _⟩
    rw [Nat.zero_add, e1]
    simp [getElem!_pos, hj']
  have hs := Try.slices_Sort_int g 0 c ((List.range n).map f) w hh hb.lt (by rw [hlz]; omega)
  rw [hlz] at hs
  refine hs.mono ?_
  rintro e w' ⟨rfl, k, os, rfl⟩
  obtain ⟨ys, hys⟩ : ∃ ys, ys = ((List.range n).map f).mergeSort fun x y => decide (x ≤ y) := ⟨_, rfl⟩
  rw [← hys]
  have hperm : ys.Perm ((List.range n).map f) := by rw [hys]; exact List.mergeSort_perm _ _
  have hlen : ys.length = n := by rw [hperm.length_eq, hlz]
  have hsort : ys.Pairwise (fun a b => a ≤ b) := by
    have := List.pairwise_mergeSort (le := fun (x y : Int) => decide (x ≤ y)) (by intro a b c; simp; omega) (by intro a b; simp; omega) ((List.range n).map f)
    rw [← hys] at this
    exact this.imp (by intro a b h; simpa using h)
  have hblk := sort_block (n := k) hb (ys := ys) (by rw [hlen, hlz])
  have hgs : g < w.heap.size := hb.lt
  have hne : ys = (List.range n).map (fun k => ys.getD k 0) := by
    apply List.ext_getElem?
    intro i
    by_cases hi : i < n
    · rw [List.getElem?_eq_getElem (by omega), List.getElem?_map, List.getElem?_range hi]
      simp [List.getD_eq_getElem?_getD, hlen, hi]
    · rw [List.getElem?_eq_none (by omega), List.getElem?_eq_none (by simp; omega)]
  refine ⟨⟨_, rfl⟩, fun k => ys.getD k 0, ⟨rest, ?_, ?_⟩, swp_of_perm hperm, srt_of_sorted hlen hsort, ?_⟩
  · rw [fl_len]; rw [fl_len] at hr; exact hr
  · rw [fl_isA, ← hne]
    unfold Blk
    rw [Go.Sort.heap_grow_old _ _ (by rw [sort_size]; exact hgs)]
    exact hblk
  · refine ⟨rfl, rfl, rfl, ?_, fun j hj => ?_⟩
    · simp only [Go.Sort.size_grow, sort_size]; omega
    · rw [Go.Sort.heap_grow_old _ _ (by rw [sort_size]; omega), sort_other (by omega)]
end Go.Proofs.Ytncmfjncdhhjoaa
