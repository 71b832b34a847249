/- A list of slices, each of them in a block of its own; table of the laws. -/
import Derived.Test.YtncmfjncdhhjoaaWCut
import Derived.Maps.AppendAt
namespace Go.Proofs.Ytncmfjncdhhjoaa
open Go.RowKit

/-- Ints of the call's own. -/
def OwnLs (B : Nat) (w : World) (v : Value) (ys : List Int) : Prop := w.ownsRow B 3 1 v ys.length (is ys)
theorem ownsRow_of {w w' : World} {B e size n : Nat} {v : Value} {xs : List Value} (h : w.ownsRow B e size v n xs) (hb : ∀ g, v.ownBlock = some g → w'.heap[g]? = w.heap[g]?) : w'.ownsRow B e size v n xs := by
  refine ⟨h.1, ?_⟩
  rcases h.2 with h | ⟨g, cap, cur, rfl, h2, hh, r⟩
  · exact .inl h
  · exact .inr ⟨g, cap, cur, rfl, h2, (hb g rfl).trans hh, r⟩
theorem ownsRow_low {w : World} {B B' e size n : Nat} {v : Value} {xs : List Value} (h : w.ownsRow B e size v n xs) (hb : B' ≤ B) : w.ownsRow B' e size v n xs := by
  refine ⟨h.1, ?_⟩
  rcases h.2 with h | ⟨g, cap, cur, rfl, h2, r⟩
  · exact .inl h
  · exact .inr ⟨g, cap, cur, rfl, by omega, r⟩

/-- Two entries never lie in one block. -/
def Apart (es : List (Value × List Int)) : Prop := ∀ (i j : Nat) e f g, es[i]? = some e → es[j]? = some f → e.1.ownBlock = some g → f.1.ownBlock = some g → i = j

structure Held (B : Nat) (w : World) (rv : Value) (es : List (Value × List Int)) : Prop where
  spine : w.ownsRow B 23 1 rv es.length (es.map (·.1))
  each : ∀ e ∈ es, OwnLs B w e.1 e.2
  apart : Apart es
  off : ∀ e ∈ es, ∀ g, e.1.ownBlock = some g → rv.ownBlock ≠ some g

theorem Held.kept {B : Nat} {w w' : World} {rv : Value} {es : List (Value × List Int)} (h : Held B w rv es) (hs : ∀ g, rv.ownBlock = some g → w'.heap[g]? = w.heap[g]?) (he : ∀ e ∈ es, ∀ g, e.1.ownBlock = some g → w'.heap[g]? = w.heap[g]?) : Held B w' rv es :=
  ⟨ownsRow_of h.spine hs, fun e hm => ownsRow_of (h.each e hm) (he e hm), h.apart, h.off⟩
theorem Held.lt {B : Nat} {w : World} {rv : Value} {es : List (Value × List Int)} (h : Held B w rv es) {e : Value × List Int} (hm : e ∈ es) {g : Nat} (hg : e.1.ownBlock = some g) : B ≤ g ∧ g < w.heap.size := (h.each e hm).lt g hg
theorem Held.keep {B : Nat} {w w' : World} {rv : Value} {es : List (Value × List Int)} (h : Held B w rv es) (hb : Below w.heap.size w w') : Held B w' rv es :=
  h.kept (fun g hg => hb.block g (h.spine.lt g hg).2) fun _ hm g hg => hb.block g (h.lt hm hg).2

/-- One more at the end, or several: they lie in blocks that nothing else has. -/
theorem Held.push {B : Nat} {w w1 : World} {rv rv' : Value} {es ns : List (Value × List Int)} {tmp : Obj} (h : Held B w rv es) (hn : ∀ e ∈ ns, OwnLs B w e.1 e.2) (ha : Apart (es ++ ns)) (ho : ∀ e ∈ ns, ∀ g, e.1.ownBlock = some g → rv.ownBlock ≠ some g)
    (hown : w1.ownsRow B 23 1 rv' (es.length + ns.length) (es.map (·.1) ++ ns.map (·.1))) (hg : (w.alloc tmp).grownBy w1 rv.ownBlock) (hat : rv'.ownBlock = rv.ownBlock ∨ rv'.ownBlock = some (w.alloc tmp).heap.size) : Held B w1 rv' (es ++ ns) := by
  have hold : ∀ g, g < w.heap.size → some g ≠ rv.ownBlock → w1.heap[g]? = w.heap[g]? := fun g h1 h2 => (hg.block g (by simp; omega) h2).trans (((Below.refl w.heap.size w).alloc (Nat.le_refl _) tmp).block g h1)
  have hall : ∀ e ∈ es ++ ns, OwnLs B w e.1 e.2 ∧ ∀ g, e.1.ownBlock = some g → rv.ownBlock ≠ some g := fun e hm => by
    rcases List.mem_append.1 hm with hm | hm
    · exact ⟨h.each e hm, h.off e hm⟩
    · exact ⟨hn e hm, ho e hm⟩
  refine ⟨by simpa using hown, fun e hm => ?_, ha, fun e hm g hgb => ?_⟩
  · obtain ⟨h1, h2⟩ := hall e hm
    exact ownsRow_of h1 fun g hgb => hold g (h1.lt g hgb).2 fun e' => h2 g hgb e'.symm
  · obtain ⟨h1, h2⟩ := hall e hm
    rcases hat with hat | hat
    · rw [hat]; exact h2 g hgb
    · rw [hat]
      have := (h1.lt g hgb).2
      intro e'
      injection e' with e'
      simp at e'
      omega

/-- Entries from a later time lie apart from those that were there. -/
theorem Apart.one {es : List (Value × List Int)} {v : Value} {ys : List Int} {K : Nat} (h : Apart es) (hl : ∀ e ∈ es, ∀ g, e.1.ownBlock = some g → g < K) (hv : ∀ g, v.ownBlock = some g → K ≤ g) : Apart (es ++ [(v, ys)]) := by
  intro i j e f g he hf hge hgf
  have cas : ∀ (i : Nat) e, (es ++ [(v, ys)])[i]? = some e → e.1.ownBlock = some g → (es[i]? = some e ∧ g < K) ∨ (i = es.length ∧ K ≤ g) := fun i e he hg => by
    rcases Nat.lt_or_ge i es.length with hi | hi
    · rw [List.getElem?_append_left hi] at he
      exact .inl ⟨he, hl e (List.mem_of_getElem? he) g hg⟩
    · rw [List.getElem?_append_right hi] at he
      have hz : i - es.length = 0 := by
        have := (List.getElem?_eq_some_iff.1 he).1
        simp at this
        omega
      rw [hz] at he
      simp at he
      subst he
      exact .inr ⟨by omega, hv g hg⟩
  rcases cas i e he hge with ⟨h1, h2⟩ | ⟨h1, h2⟩ <;> rcases cas j f hf hgf with ⟨h3, h4⟩ | ⟨h3, h4⟩
  · exact h i j e f g h1 h3 hge hgf
  · omega
  · omega
  · omega

theorem info23 : (Try.prog.info? 23).map (fun i => (i.zero, i.size, i.bytes)) = some (some (.slice none 0 0), 1, 24) := by kernel_rfl
theorem ownls_cell {v : Value} {B : Nat} {w : World} {ys : List Int} (h : OwnLs B w v ys) : v.oneCell' = true := by
  rcases h.2 with ⟨rfl, _⟩ | ⟨g, cap, cur, rfl, _⟩ <;> rfl

/-- append of one result. -/
theorem wp_pushH {ops : Array Oper} {rest : List Oper} {o : Oper} {a : Act} {Q : Exit → Act → World → Prop} (hgd : o.guard = none) (s x : Operand)
    (ho : o.op = .call { callee := .builtin .append, args := #[s, x], argTypes := #[22, 22] }) (B n : Nat) (w0 w1 : World) (rv v : Value) (c : Nat) (es : List (Value × List Int)) (ys : List Int) (hs : a.eval s = rv) (he : es.length = n) (h : Held B w0 rv es) (hn : n ≤ 100) (hB : B ≤ w0.heap.size)
    (hy : OwnLs w0.heap.size w1 v ys) (hb : Below w0.heap.size w0 w1) (H : Nat) (hH : H = w1.heap.size) (hx : a.eval x = .slice (some ⟨H, 0, none⟩) 1 c)
    (K : ∀ rv' w2, Held B w2 rv' (es ++ [(v, ys)]) → Below B w0 w2 → wpList Try.prog ops Q rest (a.put o.dst rv') w2) : wpList Try.prog ops Q (o :: rest) a (w1.alloc (.cells #[v] 23)) := by
  subst hH
  obtain ⟨i0, hi, hz0, hz1, hz2⟩ := info_parts info23
  have h1 := h.keep hb
  have hs1 : B ≤ w1.heap.size := Nat.le_trans hB hb.size
  have hsp : (w1.alloc (.cells #[v] 23)).ownsRow B 23 1 rv n (es.map (·.1)) := by rw [← he]; exact h1.spine.alloc _
  have hap : Apart (es ++ [(v, ys)]) := h.apart.one (fun e hm g hg => (h.lt hm hg).2) fun g hg => (hy.lt g hg).1
  have hoff : ∀ e ∈ [(v, ys)], ∀ g, e.1.ownBlock = some g → rv.ownBlock ≠ some g := fun e hm g hg e' => by
    simp at hm
    subst hm
    have h2 := (hy.lt g hg).1
    have h3 := (h.spine.lt g e').2
    omega
  refine wpList_append_own_at _ hgd s x 22 ho B 23 i0 (.slice none 0 0) 1 24 Try.underlying22 hi hz0 hz1 hz2 rfl (by decide) rv n _ hs hsp ⟨w1.heap.size, 0, none⟩ 1 c [v] hx rfl (cell_one_new _ _ _) (fun u hu => ?_) (by unfold maxLen; omega) (by omega) (by simp; omega) fun rv' w2 hown hgr _ hat => ?_
  · simp at hu
    subst hu
    exact ownls_cell hy
  · refine K rv' w2 (h1.push (ns := [(v, ys)]) (fun e hm => ?_) hap hoff (by simpa [he] using hown) hgr hat) ?_
    · simp at hm
      subst hm
      exact ownsRow_low hy hB
    · exact ((hb.mono hB).alloc hs1 _).grown hgr (by simp; omega) fun k hk => (h.spine.lt k hk).1

end Go.Proofs.Ytncmfjncdhhjoaa
