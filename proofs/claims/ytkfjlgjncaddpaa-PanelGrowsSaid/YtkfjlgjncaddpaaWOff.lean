/- An offer is taken; the value that the saw knows. -/
import Derived.Test.YtkfjlgjncaddpaaWRec
import Derived.Deep.RegionHeld3
namespace Go.Proofs.Ytkfjlgjncaddpaa
open Go.RowKit

def choC (c : Cho) : List Value := [.int .i64 c.k, .int .i64 c.a, .int .i64 c.v]
/-- Only one block may have changed. -/
def ChgB (q : Nat) (w w' : World) : Prop := w.grownBy w' (some q)
set_option maxHeartbeats 1000000 in
set_option maxRecDepth 100000 in
theorem offer_any (q : Nat) (c : Cho) (k a v : Int) (w : World) (hq : Blk 79 w q (choC c)) :
    Calls Try.prog 63 #[.pointer (some ⟨q, 0, none⟩), .int .i64 k, .int .i64 a, .int .i64 v] w fun e w' => e = .returned (.tuple #[]) ∧ Blk 79 w' q (choC (offer c ⟨k, a, v⟩)) ∧ w'.heap.size = w.heap.size ∧ (∀ B, B ≤ q → Below B w w') ∧ ∀ g, g ≠ q → w'.heap[g]? = w.heap[g]? := by
  obtain ⟨ck, ca, cv⟩ := c
  have c0 : w.cell? ⟨q, 0, none⟩ = some (.int .i64 ck) := hq.cell 0
  have c1 : w.cell? ⟨q, 1, none⟩ = some (.int .i64 ca) := hq.cell 1
  have c2 : w.cell? ⟨q, 2, none⟩ = some (.int .i64 cv) := hq.cell 2
  have f := hq.frozen
  by_cases h : cv < v
  · have hd : decide (cv < v) = true := by simpa using h
    have h3 : Blk 79 (((w.setCell ⟨q, 0, none⟩ (.int .i64 k)).setCell ⟨q, 1, none⟩ (.int .i64 a)).setCell ⟨q, 2, none⟩ (.int .i64 v)) q (choC ⟨k, a, v⟩) := ((hq.set 0 _).set 1 _).set 2 _
    have e : offer ⟨ck, ca, cv⟩ ⟨k, a, v⟩ = ⟨k, a, v⟩ := if_pos h
    rw [e]
    have hb : ∀ B, B ≤ q → Below B w (((w.setCell ⟨q, 0, none⟩ (.int .i64 k)).setCell ⟨q, 1, none⟩ (.int .i64 a)).setCell ⟨q, 2, none⟩ (.int .i64 v)) := fun B hB => below_set (below_set (below_set (Below.refl _ _) hB _) hB _) hB _
    have ho : ∀ g, g ≠ q → (((w.setCell ⟨q, 0, none⟩ (.int .i64 k)).setCell ⟨q, 1, none⟩ (.int .i64 a)).setCell ⟨q, 2, none⟩ (.int .i64 v)).heap[g]? = w.heap[g]? := fun g hg =>
      (heap_setCell_other _ ⟨q, 2, none⟩ g _ hg).trans ((heap_setCell_other _ ⟨q, 1, none⟩ g _ hg).trans (heap_setCell_other _ ⟨q, 0, none⟩ g _ hg))
    have HB := Lib.hid hb
    have H3 := Lib.hid h3
    have HO := Lib.hid ho
    clear h3 hb e hq ho
    go_enter Try.func63, Try.ntmps63
    go_wp2
    refine bodyPost_end (results_none rfl _ _ _) rfl ⟨rfl, H3.out, by simp, HB.out, HO.out⟩
  · have hd : decide (cv < v) = false := by simpa using h
    have e : offer ⟨ck, ca, cv⟩ ⟨k, a, v⟩ = ⟨ck, ca, cv⟩ := if_neg h
    rw [e]
    go_enter Try.func63, Try.ntmps63
    go_wp2
    refine bodyPost_end (results_none rfl _ _ _) rfl ⟨rfl, hq, rfl, fun B _ => Below.refl _ _, fun _ _ => rfl⟩
set_option maxHeartbeats 1000000 in
set_option maxRecDepth 100000 in
theorem value_any (p kerf : Nat) (A : Option Addr) (L c : Nat) (T : Nat → Nat → Cho) (x y a b : Int) (w : World) (hm : SawM w p kerf A L c T) (ha : a ≤ 64) (hb : b ≤ 64) :
    Calls Try.prog 64 #[.pointer (some ⟨p, 0, none⟩), rcV x y a b] w fun e w' => e = .returned (.int .i64 (pv T a b)) ∧ Below w.heap.size w w' := by
  have hb1 := below_new w (.cells #[.int .i64 x, .int .i64 y, .int .i64 a, .int .i64 b] 89)
  have hm1 := hm.keep hb1
  have k0 : (w.alloc (.cells #[.int .i64 x, .int .i64 y, .int .i64 a, .int .i64 b] 89)).cell? ⟨w.heap.size, 2, none⟩ = some (.int .i64 a) := (Blk.new w 89 [.int .i64 x, .int .i64 y, .int .i64 a, .int .i64 b]).cell 2
  have k1 : (w.alloc (.cells #[.int .i64 x, .int .i64 y, .int .i64 a, .int .i64 b] 89)).cell? ⟨w.heap.size, 3, none⟩ = some (.int .i64 b) := (Blk.new w 89 [.int .i64 x, .int .i64 y, .int .i64 a, .int .i64 b]).cell 3
  have hem := fun W => empty_any x y a b W
  unfold rcV at hem ⊢
  by_cases h : a < 1 ∨ b < 1
  · have e : pv T a b = 0 := if_pos h
    have e2 : emp a b = true := by unfold emp; simpa using h
    rw [e]
    rw [e2] at hem
    have HEM := Lib.hid hem
    have HB1 := Lib.hid hb1
    clear hem hb1 hm1 hm e e2 h
    go_enter Try.func64, Try.ntmps64
    go_wp2_with (go_at_call 55; refine (HEM.out _).mono ?_; rintro e w1 ⟨rfl, hb2⟩)
    go_ret
    exact ⟨rfl, below_on HB1.out HB1.out.size hb2⟩
  · obtain ⟨i, hi⟩ : ∃ i : Nat, a = (i : Int) := ⟨a.toNat, by omega⟩
    obtain ⟨j, hj⟩ : ∃ j : Nat, b = (j : Int) := ⟨b.toNat, by omega⟩
    subst hi hj
    have e : pv T i j = (T i j).v := by unfold pv; rw [if_neg h]; rfl
    have e2 : emp i j = false := by unfold emp; simp; omega
    rw [e]
    rw [e2] at hem
    have hcl := fun W (hW : Below (w.alloc (.cells #[.int .i64 x, .int .i64 y, .int .i64 i, .int .i64 j] 89)).heap.size (w.alloc (.cells #[.int .i64 x, .int .i64 y, .int .i64 i, .int .i64 j] 89)) W) => (hm1.keep hW).tv i j (by omega) (by omega)
    have hi65 : (i : Int) < 65 := by omega
    have hj65 : (j : Int) < 65 := by omega
    have HEM := Lib.hid hem
    have HB1 := Lib.hid hb1
    have HCL := Lib.hid hcl
    have hl0 : w.heap.size < (w.alloc (.cells #[.int .i64 x, .int .i64 y, .int .i64 i, .int .i64 j] 89)).heap.size := by simp
    generalize (T i j).v = tv at *
    clear hem hb1 hm1 hm e e2 h hcl
    go_enter Try.func64, Try.ntmps64
    go_wp2_with (go_at_call 55; refine (HEM.out _).mono ?_; rintro e w1 ⟨rfl, hb2⟩)
    have hc := HCL.out _ hb2
    have k0' := (hb2.cell (p := ⟨w.heap.size, 2, none⟩) hl0).trans k0
    have k1' := (hb2.cell (p := ⟨w.heap.size, 3, none⟩) hl0).trans k1
    have hbb := below_on HB1.out HB1.out.size hb2
    clear hb2 HCL HEM HB1 k0 k1
    go_quiet (fail)
    go_wp2
    go_ret
    exact ⟨rfl, below_drewN hbb _⟩
end Go.Proofs.Ytkfjlgjncaddpaa
