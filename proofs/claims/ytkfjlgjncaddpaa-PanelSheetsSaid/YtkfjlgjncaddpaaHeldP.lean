/- A region that draws its order: first what yields its value in every world that meets S (loads of what nobody writes before the end), then the rest in one order. The last operation may break S. -/
import Derived.OrdersHeld
import Derived.StillTail
import Derived.Tactics
namespace Go.Proofs.Ytkfjlgjncaddpaa
open Go
section
variable {P : Program} {ops : Array Oper} {Q : Exit → Act → World → Prop} {md : Region.Mode} {S : World → Prop} {e : Nat}

/-- Whatever order is picked from here on; behind each operation but number e S holds. -/
def anyE (P : Program) (md : Region.Mode) (ops : Array Oper) (Q : Exit → Act → World → Prop) (S : World → Prop) (e : Nat) : Nat → Array Bool → Act → World → Prop
  | 0, listed, a, w => Region.ready md ops listed = [] ∧ Q .normal a w
  | fuel + 1, listed, a, w =>
    (Region.ready md ops listed = [] → Q .normal a w) ∧
    ∀ i ∈ Region.ready md ops listed, wpOp P ops Q i (fun a' w' => (i = e ∨ S w') ∧ anyE P md ops Q S e fuel (listed.setIfInBounds i true) a' w') a w

theorem any_of_E : ∀ (fuel : Nat) (listed : Array Bool) (a : Act) (w : World), anyE P md ops Q S e fuel listed a w → wpAny P md ops Q fuel listed a w
  | 0, _, _, _, h => h
  | fuel + 1, _, _, _, h => ⟨h.1, fun i hi => wpOp_mono (fun a' w' h' => any_of_E fuel _ a' w' h'.2) (h.2 i hi)⟩

theorem anyE_first {i : Nat} {oi : Oper} {v : Value} (hi : ops[i]? = some oi) (hsel : ∀ (j : Nat) (o : Oper) cs b, ops[j]? = some o → o.op ≠ .select cs b)
    (hQ : ∀ c a w, Q (.panic c) (a.put oi.dst v) w → Q (.panic c) a w) (hie : i ≠ e) (hwe : Region.waitsFor md ops e i = true ∨ ops.size ≤ e) :
    ∀ (fuel : Nat) (listed : Array Bool) (a : Act) (w : World),
      (∀ j oj, ops[j]? = some oj → j ≠ i → listed.getD j true = false → (∀ e ∈ oj.after, Region.binds md e = true → e.on ≠ i) → oi.apart ops oj = true) →
      i ∈ Region.ready md ops listed → YieldsIf P ops S oi v a → S w →
      anyE P md ops Q S e fuel (listed.setIfInBounds i true) (a.put oi.dst v) w → anyE P md ops Q S e (fuel + 1) listed a w := by
  intro fuel
  induction fuel with
  | zero =>
    intro listed a w _ hr hy hS H
    refine ⟨fun h => (by rw [h] at hr; cases hr), fun j hj => ?_⟩
    by_cases hji : j = i
    · subst hji; exact hy.wpOp hi hS ⟨.inr hS, H⟩
    · have := ready_mono hj hji
      rw [H.1] at this
      cases this
  | succ fuel ih =>
    intro listed a w hfree hr hy hS H
    refine ⟨fun h => (by rw [h] at hr; cases hr), fun j hj => ?_⟩
    by_cases hji : j = i
    · subst hji; exact hy.wpOp hi hS ⟨.inr hS, H⟩
    · have h1 := H.2 j (ready_mono hj hji)
      obtain ⟨hjun, oj, hoj, hall⟩ := mem_ready.1 hj
      have hnot : ∀ e ∈ oj.after, Region.binds md e = true → e.on ≠ i := fun e he hb heq => by
        have h1 := hall e he hb
        have h0 := (mem_ready.1 hr).1
        rw [heq] at h1
        rcases Nat.lt_or_ge i listed.size with h' | h'
        · simp [h'] at h0 h1; rw [h0] at h1; cases h1
        · simp [Array.getElem?_eq_none h'] at h1
      have hje : j ≠ e := by
        rintro rfl
        rcases hwe with hwe | hwe
        · obtain ⟨oj', ho', e', he', hb', hon⟩ := Region.waitsFor_spec hwe
          have : oj' = oj := Option.some.inj (ho'.symm.trans hoj)
          subst this
          exact hnot e' he' hb' hon
        · rw [Array.getElem?_eq_none hwe] at hoj
          cases hoj
      have h2 := wpOp_putIf hoj (hfree j oj hoj hji hjun hnot) (fun cs b => hsel i oi cs b hi) (fun cs b => hsel j oj cs b hoj) hQ hy h1
      have hfree' : ∀ k ok, ops[k]? = some ok → k ≠ i → (listed.setIfInBounds j true).getD k true = false →
          (∀ e ∈ ok.after, Region.binds md e = true → e.on ≠ i) → oi.apart ops ok = true := fun k ok hk hki hun hno => by
        refine hfree k ok hk hki ?_ hno
        by_cases hjk : j = k
        · subst hjk; exact hjun
        · rw [getD_set_ne true hjk] at hun; exact hun
      refine wpOp_mono (fun a' w' h3 => ?_) h2
      have hSw : S w' := h3.2.1.resolve_left hje
      refine ⟨.inr hSw, ih (listed.setIfInBounds j true) a' w' hfree' (ready_mono hr (Ne.symm hji)) h3.1 hSw ?_⟩
      rw [Array.setIfInBounds_comm _ _ hji]
      exact h3.2.2

/-- The first operations, one after the other: each yields its value in every world that meets S. -/
def heads (P : Program) (ops : Array Oper) (S : World → Prop) (Qh : Act → Prop) : List Oper → Act → Prop
  | [], a => Qh a
  | o :: rest, a => ∃ v, YieldsIf P ops S o v a ∧ heads P ops S Qh rest (a.put o.dst v)
/-- The last operations, one after the other; behind each but number e S is to be shown. -/
def tailE (P : Program) (ops : Array Oper) (Q : Exit → Act → World → Prop) (S : World → Prop) (e : Nat) : Nat → List Oper → Act → World → Prop
  | _, [], a, w => Q .normal a w
  | k, o :: rest, a, w => if Region.wanted o (yielded ops a.tmps) then o.wp P a w (fun a' w' => (k = e ∨ S w') ∧ tailE P ops Q S e (k + 1) rest a' w') Q else S w ∧ tailE P ops Q S e (k + 1) rest (a.put o.dst undef) w

theorem heads_nil {Qh : Act → Prop} {a : Act} (h : Qh a) : heads P ops S Qh [] a := h
theorem heads_cons {Qh : Act → Prop} {a : Act} {o : Oper} {rest : List Oper} (v : Value) (hw : Region.wanted o (yielded ops a.tmps) = true) (hv : ∀ w, S w → (execOp a.eval o).run P w = .ok (.value v) w) (h : heads P ops S Qh rest (a.put o.dst v)) : heads P ops S Qh (o :: rest) a :=
  ⟨v, .inl ⟨hw, hv⟩, h⟩
theorem tailE_nil {k : Nat} {a : Act} {w : World} (h : Q .normal a w) : tailE P ops Q S e k [] a w := h
theorem tailE_cons {k : Nat} {o : Oper} {rest : List Oper} {a : Act} {w : World} (hw : Region.wanted o (yielded ops a.tmps) = true)
    (h : ∀ K : Act → World → Prop, (∀ a' w', (k = e ∨ S w') → tailE P ops Q S e (k + 1) rest a' w' → K a' w') → o.wp P a w K Q) : tailE P ops Q S e k (o :: rest) a w := by
  unfold tailE
  rw [if_pos hw]
  exact h _ (fun a' w' h1 h2 => ⟨h1, h2⟩)

theorem anyE_seq : ∀ (l : List Oper) (k : Nat) (listed : Array Bool) (a : Act) (w : World), (∀ j, l[j]? = ops[k + j]?) →
    Region.seqB md ops l.length k listed = true → tailE P ops Q S e k l a w → anyE P md ops Q S e l.length listed a w
  | [], _, _, _, _, _, hB, h => ⟨by simpa [Region.seqB] using hB, h⟩
  | o :: l, k, listed, a, w, hl, hB, h => by
    have h0 : ops[k]? = some o := by simpa using (hl 0).symm
    simp only [List.length_cons, Region.seqB, Bool.and_eq_true, decide_eq_true_eq] at hB
    refine ⟨fun h1 => (by rw [hB.1] at h1; cases h1), fun i hi => ?_⟩
    rw [hB.1] at hi
    have hik : i = k := by simpa using hi
    subst hik
    have hw : wpOp P ops Q i (fun a' w' => (i = e ∨ S w') ∧ tailE P ops Q S e (i + 1) l a' w') a w := by
      unfold wpOp; simp only [h0]
      unfold tailE at h
      split
      · rename_i hw; rw [if_pos hw] at h; exact .inl h
      · rename_i hw; rw [if_neg hw] at h; exact ⟨.inr h.1, h.2⟩
    exact wpOp_mono (fun a' w' h' => ⟨h'.1, anyE_seq l (i + 1) _ a' w' (fun j => by have := hl (j + 1); simpa [Nat.add_assoc, Nat.add_comm 1 j] using this) hB.2 h'.2⟩) hw

def lexE (md : Region.Mode) (ops : Array Oper) (e g : Nat) : Nat → Nat → Array Bool → Bool
  | 0, k, listed => Region.seqB md ops g k listed
  | f + 1, k, listed => (Region.ready md ops listed).contains k && Region.free md ops listed k && (Region.waitsFor md ops e k || decide (ops.size ≤ e)) && (k != e) && lexE md ops e g f (k + 1) (listed.setIfInBounds k true)

theorem anyE_lex (hsel : Region.noSelect ops = true) (hQ : ∀ c a dst v w, Q (.panic c) (Act.put a dst v) w → Q (.panic c) a w) {g : Nat} {w : World} (hS : S w) (tl : List Oper) (hg : tl.length = g) (m : Nat) (htl : ∀ j, tl[j]? = ops[m + j]?) :
    ∀ (l : List Oper) (k : Nat) (listed : Array Bool) (a : Act), (∀ j, j < l.length → l[j]? = ops[k + j]?) → k + l.length = m →
    lexE md ops e g l.length k listed = true → heads P ops S (fun a' => tailE P ops Q S e m tl a' w) l a → anyE P md ops Q S e (l.length + g) listed a w
  | [], k, listed, a, _, hk, hB, h => by
    have : k = m := by simpa using hk
    subst this
    rw [List.length_nil, Nat.zero_add, ← hg]
    exact anyE_seq tl k listed a w htl (by rw [hg]; exact hB) h
  | o :: l, k, listed, a, hl, hk, hB, h => by
    have h0 : ops[k]? = some o := by simpa using (hl 0 (by simp)).symm
    simp only [List.length_cons, lexE, Bool.and_eq_true, Bool.or_eq_true, decide_eq_true_eq, bne_iff_ne, ne_eq] at hB
    obtain ⟨⟨⟨⟨hr, hf⟩, hw⟩, hne⟩, hB'⟩ := hB
    obtain ⟨v, hy, hrest⟩ := h
    rw [List.length_cons, show l.length + 1 + g = (l.length + g) + 1 by omega]
    exact anyE_first h0 (Region.noSelect_spec hsel) (fun c a' w' h => hQ c a' _ _ w' h) hne hw _ _ _ _ (Region.free_spec h0 hf) (by simpa using hr) hy hS
      (anyE_lex hsel hQ hS tl hg m htl l (k + 1) _ _ (fun j hj => by have := hl (j + 1) (by simp; omega); simpa [Nat.add_assoc, Nat.add_comm 1 j] using this) (by simp only [List.length_cons] at hk; omega) hB' hrest)

theorem wp_region_heldE {id : Nat} {a : Act} {w : World} {l : List Oper} (k e : Nat) (S : World → Prop) (hm : P.follows .mixedOrders = true) (hsel : Region.noSelect l.toArray = true) (hk : k ≤ l.length)
    (hB : lexE .any l.toArray e (l.length - k) k 0 (Array.replicate l.toArray.size false) = true) (hQ : ∀ c a dst v w, Q (.panic c) (Act.put a dst v) w → Q (.panic c) a w) (hS : S w.drew)
    (h : heads P l.toArray S (fun a' => tailE P l.toArray Q S e k (l.drop k) a' w.drew) (l.take k) a) : (Code.region id l.toArray true).wp P Q a w := by
  refine wp_region_any hm (any_of_E (S := S) (e := e) _ _ _ _ ?_)
  have htl : (l.take k).length = k := by simp; omega
  have := anyE_lex (md := .any) (Q := Q) (S := S) (e := e) hsel hQ (g := l.length - k) hS (l.drop k) (by simp) k (fun j => by simp [List.getElem?_drop]) (l.take k) 0 (Array.replicate l.toArray.size false) a
    (fun j hj => by have hj' : j < k := by rw [htl] at hj; exact hj
                    simp [hj']) (by simpa using htl) (by rw [htl]; exact hB) h
  rw [htl, show k + (l.length - k) = l.toArray.size by simp; omega] at this
  exact this
end
end Go.Proofs.Ytkfjlgjncaddpaa
