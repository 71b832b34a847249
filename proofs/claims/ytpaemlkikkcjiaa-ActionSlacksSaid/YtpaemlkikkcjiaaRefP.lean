/- Plain: the reference's rounds over all ties are the rounds over those that can raise. -/
import Derived.Test.YtpaemlkikkcjiaaReg
namespace Go.Proofs.Ytpaemlkikkcjiaa

def refStep (t : T3) (x : Nat → Int) : Nat → Int := if 0 ≤ t.b ∧ atX x t.b < atX x t.a + t.l then upd x t.b.toNat (atX x t.a + t.l) else x
def refRun (ts : List T3) : Nat → (Nat → Int) → (Nat → Int)
  | 0, x => x
  | i + 1, x => match ts[i]? with | some t => refStep t (refRun ts i x) | none => refRun ts i x
theorem refRun_succ {ts : List T3} {i : Nat} {t : T3} (h : ts[i]? = some t) (x : Nat → Int) : refRun ts (i + 1) x = refStep t (refRun ts i x) := by
  simp [refRun, h]
def refRnds (ts : List T3) : Nat → (Nat → Int)
  | 0 => fun _ => 0
  | k + 1 => refRun ts ts.length (refRnds ts k)
theorem atX_bd {x : Nat → Int} {C : Int} (h0 : ∀ j, 0 ≤ x j) (h1 : ∀ j, x j ≤ C) (hC : 0 ≤ C) (a : Int) : 0 ≤ atX x a ∧ atX x a ≤ C := by
  unfold atX
  split
  · omega
  · exact ⟨h0 _, h1 _⟩
theorem refStep_bd {x : Nat → Int} {C M : Int} {t : T3} (h0 : ∀ j, 0 ≤ x j) (h1 : ∀ j, x j ≤ C) (hC : 0 ≤ C) (hM : 0 ≤ M) (hl : t.l ≤ M) : (∀ j, 0 ≤ refStep t x j) ∧ ∀ j, refStep t x j ≤ C + M := by
  have ha := atX_bd h0 h1 hC t.a
  have hb := atX_bd h0 h1 hC t.b
  unfold refStep
  split
  · rename_i h
    constructor <;> intro j <;> unfold upd <;> split
    · omega
    · exact h0 j
    · omega
    · have := h1 j; omega
  · exact ⟨h0, fun j => by have := h1 j; omega⟩
theorem refRun_bd {ts : List T3} {x : Nat → Int} {C M : Int} (h0 : ∀ j, 0 ≤ x j) (h1 : ∀ j, x j ≤ C) (hC : 0 ≤ C) (hM : 0 ≤ M) (hl : ∀ t, t ∈ ts → t.l ≤ M) (i : Nat) :
    (∀ j, 0 ≤ refRun ts i x j) ∧ ∀ j, refRun ts i x j ≤ C + (i : Int) * M := by
  induction i with
  | zero => exact ⟨h0, fun j => by have := h1 j; simpa [refRun] using this⟩
  | succ i ih =>
    have hi : 0 ≤ (i : Int) * M := Int.mul_nonneg (by omega) hM
    have e : ((i + 1 : Nat) : Int) * M = (i : Int) * M + M := by rw [Int.natCast_add, Int.add_mul]; simp
    rw [e]
    cases ht : ts[i]? with
    | none =>
      have e2 : refRun ts (i + 1) x = refRun ts i x := by simp [refRun, ht]
      rw [e2]
      exact ⟨ih.1, fun j => by have := ih.2 j; omega⟩
    | some t =>
      rw [refRun_succ ht]
      have := refStep_bd ih.1 ih.2 (by omega) hM (hl t (List.mem_of_getElem? ht))
      exact ⟨this.1, fun j => by have := this.2 j; omega⟩
theorem refRnds_bd {ts : List T3} {M : Int} (hM : 0 ≤ M) (hl : ∀ t, t ∈ ts → t.l ≤ M) (k : Nat) : (∀ j, 0 ≤ refRnds ts k j) ∧ ∀ j, refRnds ts k j ≤ (k : Int) * ((ts.length : Int) * M) := by
  have hLM : 0 ≤ (ts.length : Int) * M := Int.mul_nonneg (by omega) hM
  induction k with
  | zero => exact ⟨fun _ => by simp [refRnds], fun _ => by simp [refRnds]⟩
  | succ k ih =>
    have hk : 0 ≤ (k : Int) * ((ts.length : Int) * M) := Int.mul_nonneg (by omega) hLM
    have e : ((k + 1 : Nat) : Int) * ((ts.length : Int) * M) = (k : Int) * ((ts.length : Int) * M) + (ts.length : Int) * M := by rw [Int.natCast_add, Int.add_mul]; simp
    rw [e]
    exact refRun_bd ih.1 ih.2 hk hM hl ts.length

theorem up_succ {ts : List T3} {i : Nat} {t : T3} (h : ts[i]? = some t) : upT (ts.take (i + 1)) = upT (ts.take i) ++ upT [t] := by
  have : ts.take (i + 1) = ts.take i ++ [t] := by rw [List.take_add_one, h]; rfl
  rw [this]; simp [upT]
theorem up_at {ts : List T3} {i : Nat} {t : T3} (h : ts[i]? = some t) (hb : 0 ≤ t.b) : (upT ts)[(upT (ts.take i)).length]? = some t := by
  have hi := (List.getElem?_eq_some_iff.1 h).1
  have e : ts = ts.take i ++ t :: ts.drop (i + 1) := by
    rw [(List.getElem?_eq_some_iff.1 h).2.symm, ← List.drop_eq_getElem_cons hi, List.take_append_drop]
  have e2 : upT ts = upT (ts.take i) ++ t :: upT (ts.drop (i + 1)) := by
    have := congrArg upT e
    rw [this]
    simp only [upT, List.filter_append, List.filter_cons, hb, decide_true, if_true]
  rw [e2]
  simp
/-- Heights said of places and of variables. -/
def Same2 (s : Ra) (x : Nat → Int) : Prop := s.h 0 = 0 ∧ ∀ j, s.h (j + 1) = x j
theorem same_at {s : Ra} {x : Nat → Int} (h : Same2 s x) {a : Int} (ha : -1 ≤ a) : s.h (plc a) = atX x a := by
  unfold atX plc
  by_cases h1 : a < 0
  · have : (a + 1).toNat = 0 := by omega
    rw [if_pos h1, this, h.1]
  · have : (a + 1).toNat = a.toNat + 1 := by omega
    rw [if_neg h1, this, h.2]
theorem same_step {s : Ra} {x : Nat → Int} (h : Same2 s x) {t : T3} (ha : -1 ≤ t.a) (hb : 0 ≤ t.b) (c : Nat) : Same2 (tieStep c (teOf t) s) (refStep t x) := by
  have e1 := same_at h ha
  have e2 := same_at h (a := t.b) (by omega)
  have hp : plc t.b = t.b.toNat + 1 := by unfold plc; omega
  by_cases hc : atX x t.b < atX x t.a + t.l
  · have hc2 : s.h (teOf t).b < s.h (teOf t).a + (teOf t).l := by simp only [teOf]; rw [e1, e2]; exact hc
    unfold tieStep refStep
    rw [if_pos hc2, if_pos ⟨hb, hc⟩]
    simp only [teOf]
    refine ⟨?_, fun j => ?_⟩
    · simp only
      rw [hp, upd_ne (by omega)]; exact h.1
    · simp only
      rw [hp, e1]
      by_cases e : j = t.b.toNat
      · rw [e, upd_at, upd_at]
      · rw [upd_ne (by omega), upd_ne e]; exact h.2 j
  · have hc2 : ¬ s.h (teOf t).b < s.h (teOf t).a + (teOf t).l := by simp only [teOf]; rw [e1, e2]; exact hc
    unfold tieStep refStep
    rw [if_neg hc2, if_neg (fun h => hc h.2)]; exact h
theorem same_run {ts : List T3} (ho : ∀ t, t ∈ ts → -1 ≤ t.a) {s : Ra} {x : Nat → Int} (h : Same2 s x) (i : Nat) (hi : i ≤ ts.length) :
    Same2 (runT (teL (upT ts)) (upT (ts.take i)).length s) (refRun ts i x) := by
  induction i with
  | zero => simpa [upT, runT, refRun] using h
  | succ i ih =>
    have ih := ih (by omega)
    obtain ⟨t, ht⟩ : ∃ t, ts[i]? = some t := ⟨ts[i]'(by omega), List.getElem?_eq_getElem _⟩
    rw [refRun_succ ht, up_succ ht]
    by_cases hb : 0 ≤ t.b
    · have e : upT [t] = [t] := by simp [upT, hb]
      rw [e, List.length_append, List.length_singleton, runT_succ (teL_at (up_at ht hb))]
      exact same_step ih (ho t (List.mem_of_getElem? ht)) hb _
    · have e : upT [t] = [] := by simp [upT]; omega
      have e2 : refStep t (refRun ts i x) = refRun ts i x := by unfold refStep; rw [if_neg (fun h => hb h.1)]
      rw [e, e2, List.append_nil]; exact ih
theorem same_rnds {ts : List T3} (ho : ∀ t, t ∈ ts → -1 ≤ t.a) (k : Nat) : Same2 (rnds (teL (upT ts)) k) (refRnds ts k) := by
  induction k with
  | zero => exact ⟨rfl, fun _ => rfl⟩
  | succ k ih =>
    have := same_run ho (s := clr (rnds (teL (upT ts)) k)) ih ts.length (Nat.le_refl _)
    rw [List.take_length] at this
    simpa [rnds, refRnds, teL_len] using this
/-- If a solution exists, the reference's rounds lead to the least one. -/
theorem refRnds_least {n : Nat} {M : Int} {ts : List T3} (ho : OkL n M ts) {y : Nat → Int} (hy : Sol n ts y) : Least n ts (refRnds ts (n + 1)) := by
  have h := ref_least ho hy
  have hs := same_rnds (ts := ts) (fun t ht => (ho t ht).1) (n + 1)
  have e : (fun i => (rnds (teL (upT ts)) (n + 1)).h (i + 1)) = refRnds ts (n + 1) := funext fun i => hs.2 i
  rw [e] at h; exact h
end Go.Proofs.Ytpaemlkikkcjiaa
