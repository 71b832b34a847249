/- Turned panels; what stays of a panel in memory. -/
import Derived.Test.YtkfjlgjncaddpaaPn
import Derived.Test.YtkfjlgjncaddpaaTrn
import Derived.Deep.Cut
import Derived.Deep.CutRange
import Derived.Deep.RegionHeld3
namespace Go.Proofs.Ytkfjlgjncaddpaa
open Go.RowKit

theorem okB_turn (s : Sh) : okB ⟨s.h, s.w, s.v, s.t⟩ = okB s := by
  unfold okB
  cases inB s.h 1 64 <;> cases inB s.w 1 64 <;> rfl
theorem okP_turn (X Y K : Int) (ss : List Sh) (f : Sh → Sh) (hf : ∀ s, okB (f s) = okB s) : okP Y X K (ss.map f) = okP X Y K ss := by
  unfold okP
  have e : (ss.map f).all okB = ss.all okB := by rw [List.all_map]; congr 1; funext s; exact hf s
  rw [e, List.length_map]
  cases inB Y 1 64 <;> cases inB X 1 64 <;> rfl
theorem okP_same (X Y K : Int) (ss : List Sh) (f : Sh → Sh) (hf : ∀ s, okB (f s) = okB s) : okP X Y K (ss.map f) = okP X Y K ss := by
  unfold okP
  have e : (ss.map f).all okB = ss.all okB := by rw [List.all_map]; congr 1; funext s; exact hf s
  rw [e, List.length_map]
theorem turn_eq (k : Nat) (ss : List Sh) (i j : Nat) (hi : 1 ≤ i) (hj : 1 ≤ j) : (best k ss i j).v = (best k (ss.map fun s => ⟨s.h, s.w, s.v, s.t⟩) j i).v := by
  apply Int.le_antisymm
  · refine turned_le (fun s hs a b h => ⟨⟨s.h, s.w, s.v, s.t⟩, List.mem_map.2 ⟨s, hs, rfl⟩, Int.le_refl _, ?_⟩) i j hi hj
    rcases h with h | h
    · left; unfold isS at h ⊢; simp only [Bool.and_eq_true, decide_eq_true_eq] at h ⊢; exact ⟨h.2, h.1⟩
    · right; unfold isT at h ⊢; simp only [Bool.and_eq_true, decide_eq_true_eq] at h ⊢; exact ⟨h.1, h.2.2, h.2.1⟩
  · refine turned_le (fun s hs a b h => ?_) j i hj hi
    obtain ⟨x, hx, rfl⟩ := List.mem_map.1 hs
    refine ⟨x, hx, Int.le_refl _, ?_⟩
    rcases h with h | h
    · left; unfold isS at h ⊢; simp only [Bool.and_eq_true, decide_eq_true_eq] at h ⊢; exact ⟨h.2, h.1⟩
    · right; unfold isT at h ⊢; simp only [Bool.and_eq_true, decide_eq_true_eq] at h ⊢; exact ⟨h.1, h.2.2, h.2.1⟩
theorem free_eq (k : Nat) (ss : List Sh) (i j : Nat) (hi : 1 ≤ i) (hj : 1 ≤ j) : (best k (ss.map fun s => { s with t := true }) i j).v = (best k (ss.map fun s => { s with t := true }) j i).v := by
  have h : ∀ s, s ∈ (ss.map fun s : Sh => ({ s with t := true } : Sh)) → ∀ a b : Nat, isS s a b = true ∨ isT s a b = true → ∃ s', s' ∈ (ss.map fun s : Sh => ({ s with t := true } : Sh)) ∧ s.v ≤ s'.v ∧ (isS s' b a = true ∨ isT s' b a = true) := by
    intro s hs a b h
    have ht : s.t = true := by obtain ⟨x, _, rfl⟩ := List.mem_map.1 hs; rfl
    refine ⟨s, hs, Int.le_refl _, ?_⟩
    rcases h with h | h
    · right; unfold isS at h; unfold isT; simp only [Bool.and_eq_true, decide_eq_true_eq] at h ⊢; exact ⟨ht, h.2, h.1⟩
    · left; unfold isT at h; unfold isS; simp only [Bool.and_eq_true, decide_eq_true_eq] at h ⊢; exact ⟨h.2.2, h.2.1⟩
  exact Int.le_antisymm (turned_le h i j hi hj) (turned_le h j i hj hi)
theorem PnM.belowB {w wr wr' : World} {q g n cap B : Nat} {X Y K : Int} {ss : List Sh} (h : PnM w wr q g n cap X Y K ss) (hb : Below B wr wr') (hq : q < B) (hg : g < B) (hB : w.heap.size ≤ B) : PnM w wr' q g n cap X Y K ss :=
  ⟨h.bx.below hb hq, (let ⟨rest, hl, hbb⟩ := h.sh; ⟨rest, hl, hbb.of_block (hb.block g hg)⟩), h.bel.trans (hb.mono hB), h.far, h.len⟩
theorem PnM.setT {w wr : World} {q g n cap m : Nat} {X Y K : Int} {ss : List Sh} (h : PnM w wr q g n cap X Y K (trn ss m)) (hm : m < ss.length) : PnM w (wr.setCell ⟨g, m * 4 + 3, none⟩ (.bool true)) q g n cap X Y K (trn ss (m + 1)) := by
  refine ⟨h.bx.setOther (a := ⟨g, m * 4 + 3, none⟩) h.far.2.2 _, ?_, below_set h.bel h.far.2.1 _, h.far, by rw [trn_len]; have := h.len; rw [trn_len] at this; exact this⟩
  have := h.sh.set (i := m * 4 + 3) (by rw [sc_len, trn_len]; omega) (.bool true)
  rwa [trn_set hm] at this
theorem PnM.at_ {w wr : World} {q g n cap m : Nat} {X Y K : Int} {ss : List Sh} (h : PnM w wr q g n cap X Y K ss) (hm : m < ss.length) : wr.cell? ⟨g, m * 4, none⟩ = some (.int .i64 (ss.getD m sh0).w) ∧ wr.cell? ⟨g, m * 4 + 1, none⟩ = some (.int .i64 (ss.getD m sh0).h) ∧ wr.cell? ⟨g, m * 4 + 2, none⟩ = some (.int .i64 (ss.getD m sh0).v) ∧ wr.cell? ⟨g, m * 4 + 3, none⟩ = some (.bool (ss.getD m sh0).t) := by
  obtain ⟨g', off, e, hg, c0, c1, c2, c3⟩ := ShAt.at_ h.sh.vals hm
  obtain ⟨rfl, rfl⟩ : g = g' ∧ 0 = off := by injection e with e; injection e with e1 e2; exact ⟨e1, e2⟩
  simp only [Nat.zero_add] at c0 c1 c2 c3
  exact ⟨c0, c1, c2, c3⟩
end Go.Proofs.Ytkfjlgjncaddpaa
