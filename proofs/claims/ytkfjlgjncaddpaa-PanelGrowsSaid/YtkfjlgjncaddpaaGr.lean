/- A row that grows: what stays when something is appended to it, again and again. -/
import Derived.Test.YtkfjlgjncaddpaaPlanP
import Derived.Deep.AppendLies
namespace Go.Proofs.Ytkfjlgjncaddpaa
open Go.RowKit

/-- From w to w' only the row of v may have changed; the new value's row is that one or new. -/
def Gr (w w' : World) (v v' : Value) : Prop := w.grownBy w' v.ownBlock ∧ (v'.ownBlock = v.ownBlock ∨ ∀ g, v'.ownBlock = some g → w.heap.size ≤ g)
theorem grown_below {w w' : World} {row : Option Nat} (hb : Below w.heap.size w w') : w.grownBy w' row := ⟨hb.os, hb.tape, hb.output, hb.size, fun i hi _ => hb.block i hi⟩
theorem Gr.of_below {w w' : World} {v : Value} (hb : Below w.heap.size w w') : Gr w w' v v := ⟨grown_below hb, .inl rfl⟩
theorem Gr.trans {w w1 w2 : World} {v v1 v2 : Value} (h : Gr w w1 v v1) (k : Gr w1 w2 v1 v2) : Gr w w2 v v2 := by
  obtain ⟨h1, h2⟩ := h
  obtain ⟨k1, k2⟩ := k
  refine ⟨⟨k1.os.trans h1.os, k1.tape.trans h1.tape, k1.output.trans h1.output, Nat.le_trans h1.size k1.size, fun i hi hne => ?_⟩, ?_⟩
  · refine (k1.block i (Nat.lt_of_lt_of_le hi h1.size) ?_).trans (h1.block i hi hne)
    rcases h2 with e | e
    · rw [e]; exact hne
    · intro e2
      have := e i e2.symm
      omega
  · rcases k2 with e | e
    · rw [e]; exact h2
    · exact .inr fun g hg => Nat.le_trans h1.size (e g hg)
theorem Gr.drew {w w' : World} {v v' : Value} (h : Gr w w' v v') : Gr w w'.drew v v' := ⟨⟨h.1.os, h.1.tape, h.1.output, h.1.size, h.1.block⟩, h.2⟩
theorem Gr.size {w w' : World} {v v' : Value} (h : Gr w w' v v') : w.heap.size ≤ w'.heap.size := h.1.size
theorem Gr.blk {w w' : World} {v v' : Value} (h : Gr w w' v v') {T : TypeId} {g : Nat} {vs : List Value} (hb : Blk T w g vs) (hne : some g ≠ v.ownBlock) : Blk T w' g vs := hb.grown h.1 hne
theorem Gr.below {w w' : World} {v v' : Value} (h : Gr w w' v v') {B : Nat} (hB : B ≤ w.heap.size) (hv : ∀ g, v.ownBlock = some g → B ≤ g) : Below B w w' :=
  ⟨h.1.os, h.1.tape, h.1.output, h.1.size, fun i hi => h.1.block i (by omega) (fun e => by have := hv i e.symm; omega)⟩
theorem own_ge {B T k : Nat} {w : World} {v : Value} {n : Nat} {vs : List Value} (h : w.ownsRow B T k v n vs) : ∀ g, v.ownBlock = some g → B ≤ g := fun g e => (World.ownsRow.lt h g e).1
theorem own_ltS {B T k : Nat} {w : World} {v : Value} {n : Nat} {vs : List Value} (h : w.ownsRow B T k v n vs) : ∀ g, v.ownBlock = some g → g < w.heap.size := fun g e => (World.ownsRow.lt h g e).2
theorem SawM.belowB {w w' : World} {p kerf L c B : Nat} {A : Option Addr} {T : Nat → Nat → Cho} (h : SawM w p kerf A L c T) (hb : Below B w w') (hp : p < B) : SawM w' p kerf A L c T := by
  have e : w'.heap[p]? = w.heap[p]? := hb.block p hp
  have hc : ∀ k, w'.cell? ⟨p, k, none⟩ = w.cell? ⟨p, k, none⟩ := fun k => by simp only [World.cell?, e]
  have hf : ∀ k, w'.frozen? ⟨p, k, none⟩ = w.frozen? ⟨p, k, none⟩ := fun k => by simp only [World.frozen?, e]
  exact ⟨(hc _).trans h.kf, (hc _).trans h.sl, fun i j hi hj => (hc _).trans (h.tk i j hi hj), fun i j hi hj => (hc _).trans (h.ta i j hi hj), fun i j hi hj => (hc _).trans (h.tv i j hi hj), fun k => (hf k).trans (h.fro k), Nat.lt_of_lt_of_le h.lt hb.size⟩
theorem own_keep {B T k : Nat} {w w' : World} {v : Value} {n : Nat} {vs : List Value} (h : w.ownsRow B T k v n vs) (hb : Below w.heap.size w w') : w'.ownsRow B T k v n vs := by
  by_cases hv : v = .slice none 0 0
  · subst hv
    obtain ⟨h1, ⟨_, h2⟩ | ⟨g, cap, cur, e, _⟩⟩ := h
    · exact ⟨h1, .inl ⟨rfl, h2⟩⟩
    · injection e with e; cases e
  · exact hd_own ((own_hd h hv).keep hb)
/-- What addPlan leaves. -/
def AddPost (W : World) (B : Nat) (v : Value) (l news : List Cu) (e : Ending) (w' : World) : Prop :=
  ∃ v', e = .returned v' ∧ w'.ownsRow B 73 2 v' (l ++ news).length (cc (l ++ news)) ∧ Gr W w' v v'
end Go.Proofs.Ytkfjlgjncaddpaa
