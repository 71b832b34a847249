/- How a plan is read, plain. -/
import Derived.Test.YtkfjlgjncaddpaaWRd1
namespace Go.Proofs.Ytkfjlgjncaddpaa
open Go.RowKit

/-- The pieces of a plan of a rectangle, and what is left of the cuts; none: it is no plan. (n: how deep; the sides together serve.) -/
def rdF (K : Int) (ss : List Sh) : Nat → Int → Int → Int → Int → List Cu → Option (List Pc × List Cu)
  | 0, _, _, _, _, l => some ([], l)
  | n + 1, x, y, a, b, l =>
    if a < 1 ∨ b < 1 then some ([], l) else
    match l with
    | [] => none
    | c :: r =>
      if c.k = 0 then (if c.a = 0 then some ([], r) else none)
      else if c.k = 1 then (if inB c.a 0 ((ss.length : Int) - 1) = true ∧ isS (ss.getD c.a.toNat sh0) a b = true then some ([⟨x, y, a, b, c.a⟩], r) else none)
      else if c.k = 2 then (if inB c.a 0 ((ss.length : Int) - 1) = true ∧ isT (ss.getD c.a.toNat sh0) a b = true then some ([⟨x, y, a, b, c.a⟩], r) else none)
      else if c.k = 3 then (if inB c.a 1 (a - 1) = true then (rdF K ss n x y c.a b r).bind fun u => (rdF K ss n (x + (c.a + K)) y (a - (c.a + K)) b u.2).map fun v => (u.1 ++ v.1, v.2) else none)
      else if c.k = 4 then (if inB c.a 1 (b - 1) = true then (rdF K ss n x y a c.a r).bind fun u => (rdF K ss n x (y + (c.a + K)) a (b - (c.a + K)) u.2).map fun v => (u.1 ++ v.1, v.2) else none)
      else none
theorem rdF_empty {K : Int} {ss : List Sh} {a b : Int} (h : a < 1 ∨ b < 1) (n : Nat) (x y : Int) (l : List Cu) : rdF K ss n x y a b l = some ([], l) := by
  cases n with
  | zero => rfl
  | succ n => unfold rdF; rw [if_pos h]
theorem rdF_nil {K : Int} {ss : List Sh} {a b : Int} (h : ¬ (a < 1 ∨ b < 1)) (n : Nat) (x y : Int) : rdF K ss (n + 1) x y a b [] = none := by
  unfold rdF; rw [if_neg h]
theorem rdF_cons {K : Int} {ss : List Sh} {a b : Int} (h : ¬ (a < 1 ∨ b < 1)) (n : Nat) (x y : Int) (c : Cu) (r : List Cu) : rdF K ss (n + 1) x y a b (c :: r) =
      if c.k = 0 then (if c.a = 0 then some ([], r) else none)
      else if c.k = 1 then (if inB c.a 0 ((ss.length : Int) - 1) = true ∧ isS (ss.getD c.a.toNat sh0) a b = true then some ([⟨x, y, a, b, c.a⟩], r) else none)
      else if c.k = 2 then (if inB c.a 0 ((ss.length : Int) - 1) = true ∧ isT (ss.getD c.a.toNat sh0) a b = true then some ([⟨x, y, a, b, c.a⟩], r) else none)
      else if c.k = 3 then (if inB c.a 1 (a - 1) = true then (rdF K ss n x y c.a b r).bind fun u => (rdF K ss n (x + (c.a + K)) y (a - (c.a + K)) b u.2).map fun v => (u.1 ++ v.1, v.2) else none)
      else if c.k = 4 then (if inB c.a 1 (b - 1) = true then (rdF K ss n x y a c.a r).bind fun u => (rdF K ss n x (y + (c.a + K)) a (b - (c.a + K)) u.2).map fun v => (u.1 ++ v.1, v.2) else none)
      else none := by
  rw [rdF, if_neg h]
/-- Each piece takes a cut. -/
theorem rdF_len {K : Int} {ss : List Sh} : ∀ (n : Nat) (x y a b : Int) (l : List Cu) (u : List Pc × List Cu), rdF K ss n x y a b l = some u → u.1.length + u.2.length ≤ l.length := by
  intro n
  induction n with
  | zero => intro x y a b l u h; simp only [rdF, Option.some.injEq] at h; subst h; simp
  | succ n ih =>
    intro x y a b l u h
    by_cases e : a < 1 ∨ b < 1
    · rw [rdF_empty e] at h
      simp only [Option.some.injEq] at h
      subst h; simp
    · cases l with
      | nil => rw [rdF_nil e] at h; cases h
      | cons c r =>
        rw [rdF_cons e] at h
        have two : ∀ (o : Option (List Pc × List Cu)) (f : List Pc × List Cu → Option (List Pc × List Cu)), (∀ v, o = some v → v.1.length + v.2.length ≤ r.length) → (∀ v w, f v = some w → w.1.length + w.2.length ≤ v.2.length) →
            (o.bind fun v => (f v).map fun w => (v.1 ++ w.1, w.2)) = some u → u.1.length + u.2.length ≤ (c :: r).length := by
          intro o f ho hf hh
          obtain ⟨v, hv, hh⟩ := Option.bind_eq_some_iff.1 hh
          obtain ⟨w, hw, hh⟩ := Option.map_eq_some_iff.1 hh
          have h1 := ho v hv
          have h2 := hf v w hw
          subst hh
          simp only [List.length_append, List.length_cons]
          omega
        repeat' split at h
        all_goals first
          | (cases h; done)
          | (simp only [Option.some.injEq] at h; subst h; simp; done)
          | (simp only [Option.some.injEq] at h; subst h; simp only [List.length_cons, List.length_nil]; omega)
          | exact two _ _ (fun v hv => ih _ _ _ _ _ v hv) (fun v w hw => ih _ _ _ _ _ w hw) h
/-- What reading leaves. -/
def ReadPost (p : Nat) (w0 w : World) (K : Int) (A : Option Addr) (L cp : Nat) (vp : Value) (ps : List Pc) (res : Option (List Pc × List Cu)) (e : Ending) (w' : World) : Prop :=
  match res with
  | none => e = .panicked pnc ∧ Below p w w'
  | some u => e = .returned (.tuple #[]) ∧ ∃ vp', RdM p w0 w' K A L cp u.2 vp' (ps ++ u.1) ∧ GrP p vp vp' w w' ∧ Below p w w'
end Go.Proofs.Ytkfjlgjncaddpaa
