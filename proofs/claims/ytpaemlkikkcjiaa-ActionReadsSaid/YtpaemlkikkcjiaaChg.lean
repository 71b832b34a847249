/- What a call changes: a list of blocks; all others that were there stand. -/
import Derived.Test.YtpaemlkikkcjiaaACl
namespace Go.Proofs.Ytpaemlkikkcjiaa
open Go.RowKit

/-- Of the blocks of w only those of L differ in w'. -/
structure Chg (L : List Nat) (w w' : World) : Prop where
  os : w'.os = w.os
  tape : w'.tape = w.tape
  output : w'.output = w.output
  size : w.heap.size ≤ w'.heap.size
  block : ∀ k, k < w.heap.size → k ∉ L → w'.heap[k]? = w.heap[k]?
namespace Chg
variable {L M : List Nat} {w w1 w2 w3 : World}
theorem refl (L : List Nat) (w : World) : Chg L w w := ⟨rfl, rfl, rfl, Nat.le_refl _, fun _ _ _ => rfl⟩
theorem trans (h : Chg L w w1) (g : Chg L w1 w2) : Chg L w w2 :=
  ⟨g.os.trans h.os, g.tape.trans h.tape, g.output.trans h.output, Nat.le_trans h.size g.size, fun k hk hn => (g.block k (Nat.lt_of_lt_of_le hk h.size) hn).trans (h.block k hk hn)⟩
theorem mono (h : Chg L w w1) (hs : ∀ x, x ∈ L → x ∈ M) : Chg M w w1 := ⟨h.os, h.tape, h.output, h.size, fun k hk hn => h.block k hk fun hx => hn (hs k hx)⟩
/-- Blocks that were made since may be changed. -/
theorem drop (h : Chg (M ++ L) w w1) (hs : ∀ x, x ∈ M → w.heap.size ≤ x) : Chg L w w1 := ⟨h.os, h.tape, h.output, h.size, fun k hk hn => h.block k hk fun hx => by
  rcases List.mem_append.1 hx with h1 | h1
  · have := hs k h1; omega
  · exact hn h1⟩
theorem of_below (h : Below w.heap.size w w1) : Chg L w w1 := ⟨h.os, h.tape, h.output, h.size, fun k hk _ => h.block k hk⟩
theorem on (h : Chg L w w1) (g : Below w1.heap.size w1 w2) : Chg L w w2 := h.trans (of_below g)
theorem alloc (h : Chg L w w1) (o : Obj) : Chg L w (w1.alloc o) := h.on (below_new w1 o)
theorem drew (h : Chg L w w1) : Chg L w w1.drew := h.on (Below.refl _ _).drew
theorem drewN (h : Chg L w w1) (n : Nat) : Chg L w (w1.drewN n) := h.on (below_drewN (Below.refl _ _) n)
theorem set (h : Chg L w w1) {g i : Nat} (hg : g ∈ L ∨ w.heap.size ≤ g) (v : Value) : Chg L w (w1.setCell ⟨g, i, none⟩ v) := by
  have hb : Below 0 w1 (w1.setCell ⟨g, i, none⟩ v) := below_set (Below.refl 0 w1) (Nat.zero_le g) v
  refine ⟨hb.os.trans h.os, hb.tape.trans h.tape, hb.output.trans h.output, Nat.le_trans h.size hb.size, fun k hk hn => ?_⟩
  rw [heap_setCell_other w1 ⟨g, i, none⟩ k v (by
    rintro rfl
    rcases hg with h1 | h1
    · exact hn h1
    · exact absurd hk (Nat.not_lt.2 h1))]
  exact h.block k hk hn
theorem below {B : Nat} (h : Chg L w w1) (hB : B ≤ w.heap.size) (hL : ∀ x, x ∈ L → B ≤ x) : Below B w w1 :=
  ⟨h.os, h.tape, h.output, h.size, fun k hk => h.block k (by omega) fun hx => by have := hL k hx; omega⟩
theorem grown {row : Option Nat} (h : Chg L w w1) (g : w1.grownBy w2 row) (hr : ∀ b, row = some b → b ∈ L ∨ w.heap.size ≤ b) : Chg L w w2 :=
  ⟨g.os.trans h.os, g.tape.trans h.tape, g.output.trans h.output, Nat.le_trans h.size g.size, fun k hk hn => by
    rw [g.block k (Nat.lt_of_lt_of_le hk h.size) (by intro e; rcases hr k e.symm with h1 | h1; exact hn h1; omega)]
    exact h.block k hk hn⟩
theorem blk {T g : Nat} {vs : List Value} (h : Chg L w w1) (b : Blk T w g vs) (hg : g ∉ L) : Blk T w1 g vs := (h.block g b.lt hg).trans b
theorem hd {T g cap : Nat} {vs : List Value} (h : Chg L w w1) (b : Hd T w g cap vs) (hg : g ∉ L) : Hd T w1 g cap vs := by
  obtain ⟨r, h1, h2⟩ := b; exact ⟨r, h1, h.blk h2 hg⟩
theorem vals {g off : Nat} {vs : List Value} (h : Chg L w w1) (b : Vals w (some ⟨g, off, none⟩) vs) (hg : g ∉ L) : Vals w1 (some ⟨g, off, none⟩) vs := by
  intro hl
  obtain ⟨g', off', e, hlt, hc⟩ := b hl
  injection e with e
  injection e with e1 e2
  subst e1 e2
  refine ⟨_, _, rfl, Nat.lt_of_lt_of_le hlt h.size, fun i v hv => ?_⟩
  rw [← hc i v hv]
  simp only [World.cell?, h.block g hlt hg]
theorem cell {g i : Nat} (h : Chg L w w1) (hlt : g < w.heap.size) (hg : g ∉ L) : w1.cell? ⟨g, i, none⟩ = w.cell? ⟨g, i, none⟩ := by simp only [World.cell?, h.block g hlt hg]
theorem frozen {g i : Nat} (h : Chg L w w1) (hlt : g < w.heap.size) (hg : g ∉ L) : w1.frozen? ⟨g, i, none⟩ = w.frozen? ⟨g, i, none⟩ := by simp only [World.frozen?, h.block g hlt hg]
theorem own {B T k n : Nat} {v : Value} {vs : List Value} (h : Chg L w w1) (o : w.ownsRow B T k v n vs) (hv : ∀ b, v.ownBlock = some b → b ∉ L) : w1.ownsRow B T k v n vs := by
  rcases o with ⟨h1, h2 | ⟨g, cap, cur, e, h2, h3, h4⟩⟩
  · exact ⟨h1, .inl h2⟩
  · refine ⟨h1, .inr ⟨g, cap, cur, e, h2, ?_, h4⟩⟩
    have hlt : g < w.heap.size := by
      rcases Nat.lt_or_ge g w.heap.size with h5 | h5
      · exact h5
      · rw [Array.getElem?_eq_none h5] at h3; cases h3
    rw [h.block g hlt (hv g (by rw [e]; rfl))]
    exact h3
end Chg
theorem own_lt {B T k n : Nat} {w : World} {v : Value} {vs : List Value} (o : w.ownsRow B T k v n vs) : ∀ b, v.ownBlock = some b → B ≤ b ∧ b < w.heap.size := by
  intro b hb
  rcases o with ⟨_, ⟨rfl, _⟩ | ⟨g, cap, cur, rfl, h2, h3, _⟩⟩
  · cases hb
  · simp [Value.ownBlock] at hb
    subst hb
    refine ⟨h2, ?_⟩
    rcases Nat.lt_or_ge g w.heap.size with h5 | h5
    · exact h5
    · rw [Array.getElem?_eq_none h5] at h3; cases h3
end Go.Proofs.Ytpaemlkikkcjiaa
