/- Jacks and quills in memory: elements of two ints each. -/
import Derived.Test.YtncmfjncdhhjoaaMemN
namespace Go.Proofs.Ytncmfjncdhhjoaa
open Go.RowKit

structure J2 where
  a : Int
  b : Int
deriving DecidableEq
def jC (x : J2) : List Value := [.int .i64 x.a, .int .i64 x.b]
theorem jC_len (x : J2) : (jC x).length = 2 := rfl
def jc (l : List J2) : List Value := l.flatMap jC
theorem flat_at {α : Type} {f : α → List Value} {k : Nat} (hf : ∀ x, (f x).length = k) : ∀ {l : List α} {i j : Nat} {x : α}, l[i]? = some x → j < k → (l.flatMap f)[i * k + j]? = (f x)[j]?
  | [], i, j, x, h, _ => by simp at h
  | a :: l, 0, j, x, h, hj => by
    simp at h
    subst h
    rw [List.flatMap_cons, Nat.zero_mul, Nat.zero_add, List.getElem?_append_left (by rw [hf]; exact hj)]
  | a :: l, i + 1, j, x, h, hj => by
    have h' : l[i]? = some x := by simpa using h
    rw [List.flatMap_cons, List.getElem?_append_right (by rw [hf, Nat.succ_mul]; omega), hf]
    have e : (i + 1) * k + j - k = i * k + j := by rw [Nat.succ_mul]; omega
    rw [e]
    exact flat_at hf h' hj
theorem flat_len {α : Type} {f : α → List Value} {k : Nat} (hf : ∀ x, (f x).length = k) (l : List α) : (l.flatMap f).length = l.length * k := by
  induction l with
  | nil => simp
  | cons a l ih => rw [List.flatMap_cons, List.length_append, hf, ih, List.length_cons, Nat.succ_mul]; omega
theorem flat_take {α : Type} {f : α → List Value} {k : Nat} (hf : ∀ x, (f x).length = k) (l : List α) (n : Nat) : (l.flatMap f).take (n * k) = (l.take n).flatMap f := by
  induction l generalizing n with
  | nil => simp
  | cons a l ih =>
    cases n with
    | zero => simp
    | succ n =>
      rw [List.flatMap_cons, List.take_succ_cons, List.flatMap_cons, List.take_append, hf, List.take_of_length_le (by rw [hf, Nat.succ_mul]; omega), ← ih n]
      congr 2
      rw [Nat.succ_mul]; omega
theorem jc_len (l : List J2) : (jc l).length = l.length * 2 := flat_len jC_len l
theorem jc_append (a b : List J2) : jc (a ++ b) = jc a ++ jc b := by simp [jc]
theorem jc_take (l : List J2) (n : Nat) : (jc l).take (n * 2) = jc (l.take n) := flat_take jC_len l n
theorem jc_one (l : List J2) : ∀ v ∈ jc l, v.oneCell' = true := by
  intro v hv
  simp only [jc, List.mem_flatMap, jC, List.mem_cons, List.not_mem_nil, or_false] at hv
  obtain ⟨t, _, rfl | rfl⟩ := hv <;> rfl
/-- The slice at A reads as these pairs. -/
abbrev JAt (w : World) (A : Option Addr) (l : List J2) : Prop := Vals w A (jc l)
theorem JAt.at_ {w : World} {A : Option Addr} {l : List J2} (h : JAt w A l) {i : Nat} (hi : i < l.length) :
    ∃ g off x, A = some ⟨g, off, none⟩ ∧ g < w.heap.size ∧ l[i]? = some x ∧ w.cell? ⟨g, off + i * 2, none⟩ = some (.int .i64 x.a) ∧ w.cell? ⟨g, off + i * 2 + 1, none⟩ = some (.int .i64 x.b) := by
  obtain ⟨g, off, e, hg, hc⟩ := h (by rw [jc_len]; omega)
  have hx : l[i]? = some l[i] := List.getElem?_eq_getElem hi
  refine ⟨g, off, l[i], e, hg, hx, ?_, ?_⟩
  · have := flat_at jC_len hx (j := 0) (by omega)
    exact hc _ _ (this.trans rfl)
  · have := flat_at jC_len hx (j := 1) (by omega)
    rw [Nat.add_assoc]
    exact hc _ _ (this.trans rfl)
end Go.Proofs.Ytncmfjncdhhjoaa
