/- The walk of MatchTurned. -/
import Derived.Test.YtncmfjncdhhjoaaMTuJ
import Derived.Test.YtncmfjncdhhjoaaWShi
import Derived.Test.YtncmfjncdhhjoaaWMst
import Derived.Test.YtncmfjncdhhjoaaWFor
import Derived.Deep.CutRange
namespace Go.Proofs.Ytncmfjncdhhjoaa
open Go.RowKit

/-- The k-th column of a table, down to row i; the table turned, down to column k. -/
def colL (ls : List (List Int)) (k i : Nat) : List Int := (List.range i).map (fun j => cst ls j k)
def turnL (ls : List (List Int)) (n k : Nat) : List (List Int) := (List.range k).map (fun j => colL ls j n)
theorem colL_succ (ls : List (List Int)) (k i : Nat) : colL ls k (i + 1) = colL ls k i ++ [cst ls i k] := by unfold colL; rw [List.range_succ, List.map_append]; rfl
theorem colL_len (ls : List (List Int)) (k i : Nat) : (colL ls k i).length = i := by unfold colL; simp
theorem turnL_succ (ls : List (List Int)) (n k : Nat) : turnL ls n (k + 1) = turnL ls n k ++ [colL ls k n] := by unfold turnL; rw [List.range_succ, List.map_append]; rfl
theorem turnL_len (ls : List (List Int)) (n k : Nat) : (turnL ls n k).length = k := by unfold turnL; simp
theorem turnL_at {ls : List (List Int)} {n k j : Nat} (h : j < k) : (turnL ls n k)[j]? = some (colL ls j n) := by unfold turnL; simp [h]
theorem turnL_cst {ls : List (List Int)} {n i k : Nat} (hi : i < n) (hk : k < n) : cst (turnL ls n n) k i = cst ls i k := by
  rw [cst_of (turnL_at hk)]
  unfold colL
  simp [List.getD_eq_getElem?_getD, hi]
theorem turnL_good {ls : List (List Int)} {n : Nat} (G : Good n n ls) : Good n n (turnL ls n n) := by
  refine ⟨turnL_len _ _ _, fun i l hl => ?_, fun i k hi hk => ?_⟩
  · have hi : i < n := by
      have := (List.getElem?_eq_some_iff.1 hl).1
      rwa [turnL_len] at this
    rw [turnL_at hi] at hl
    injection hl with hl
    rw [← hl, colL_len]
  · rw [turnL_cst hk hi]
    exact G.rng k i hk hi
/-- A square table: what is cut to as many columns as there are rows. -/
theorem square_of {l1 : List (List Int)} {n m : Nat} (hn : (tblL l1 l1.length l1.length).length = n) (hm : ((tblL l1 l1.length l1.length).getD 0 []).length = m) (h1 : 1 ≤ n) (h2 : n ≤ m) : m = n := by
  have hl : (tblL l1 l1.length l1.length).length = l1.length := by unfold tblL; simp
  refine Nat.le_antisymm ?_ h2
  rw [← hm, ← hn, hl]
  have h0 : 0 < l1.length := by omega
  unfold tblL
  rw [List.getD_eq_getElem?_getD, List.getElem?_map, List.getElem?_take, if_pos h0, List.getElem?_eq_getElem h0]
  simp
  omega
theorem best_sum {w w' : World} {ls : List (List Int)} {e : Ending} {n : Nat} (h : BestPost w ls e w') (hc : chkT ls = true) (G : Good n n ls) (h1 : 1 ≤ n) :
    Below w.heap.size w w' ∧ ∃ (A0 A1 A2 : Option Addr) (x0 y0 x1 y1 x2 y2 : Nat) (c er : Int), e = .returned (.tuple #[.agg #[.slice A0 x0 y0, .slice A1 x1 y1, .slice A2 x2 y2, .int .i64 c], .int .i64 er]) ∧
      ((er = 6 ∧ c = 0 ∧ ∀ τ, ¬ Asg n n (cst ls) τ) ∨ (er = 0 ∧ ∃ t0, LexMin n n (cst ls) t0 ∧ c = costN (cst ls) t0 n)) := by
  refine ⟨h.1, ?_⟩
  rcases h.2 with ⟨hf, _⟩ | ⟨n', m', _, _, hG', _, hno, rfl⟩ | ⟨n', m', gt, gu, gv, t0, u, v, _, hn', BO, rfl⟩
  · rw [hc] at hf; cases hf
  · obtain ⟨rfl, rfl⟩ := good_eq3 G hG' h1
    exact ⟨_, _, _, _, _, _, _, _, _, 0, 6, rfl, .inl ⟨rfl, rfl, hno⟩⟩
  · obtain ⟨rfl, rfl⟩ := good_eq3 G BO.good h1
    exact ⟨_, _, _, _, _, _, _, _, _, _, 0, rfl, .inr ⟨rfl, t0, BO.min, rfl⟩⟩
theorem Asg.same {n m : Nat} {c d : Nat → Nat → Int} {τ : Nat → Nat} (A : Asg n m c τ) (h : ∀ i k, i < n → k < m → d i k = c i k) : Asg n m d τ ∧ costN d τ n = costN c τ n :=
  ⟨⟨fun i hi => ⟨(A.ok i hi).1, by rw [h i _ hi (A.ok i hi).1]; exact (A.ok i hi).2⟩, A.inj⟩, sumN_congr fun i hi => h i _ hi (A.ok i hi).1⟩
theorem turn_asg {n : Nat} {c d : Nat → Nat → Int} {τ : Nat → Nat} (h : ∀ i k, i < n → k < n → d k i = c i k) (A : Asg n n c τ) : ∃ σ, Asg n n d σ ∧ costN d σ n = costN c τ n := by
  obtain ⟨σ, s1, s2⟩ := asg_turn A
  obtain ⟨a, b⟩ := s1.same (d := d) fun i k hi hk => h k i hk hi
  exact ⟨σ, a, b.trans s2⟩
theorem both_turn {n : Nat} {c d : Nat → Nat → Int} {c1 c2 e1 e2 : Int} (h : ∀ i k, i < n → k < n → d k i = c i k)
    (a : (e1 = 6 ∧ c1 = 0 ∧ ∀ τ, ¬ Asg n n c τ) ∨ (e1 = 0 ∧ ∃ t0, LexMin n n c t0 ∧ c1 = costN c t0 n))
    (b : (e2 = 6 ∧ c2 = 0 ∧ ∀ τ, ¬ Asg n n d τ) ∨ (e2 = 0 ∧ ∃ t0, LexMin n n d t0 ∧ c2 = costN d t0 n)) : e1 = e2 ∧ c1 = c2 := by
  have h' : ∀ i k, i < n → k < n → c k i = d i k := fun i k hi hk => (h k i hk hi).symm
  rcases a with ⟨rfl, rfl, na⟩ | ⟨rfl, t, La, rfl⟩ <;> rcases b with ⟨rfl, rfl, nb⟩ | ⟨rfl, t2, Lb, rfl⟩
  · exact ⟨rfl, rfl⟩
  · obtain ⟨σ, s, _⟩ := turn_asg h' Lb.asg
    exact absurd s (na σ)
  · obtain ⟨σ, s, _⟩ := turn_asg h La.asg
    exact absurd s (nb σ)
  · obtain ⟨σ, s1, s2⟩ := turn_asg h La.asg
    obtain ⟨ρ, r1, r2⟩ := turn_asg h' Lb.asg
    have := Lb.least σ s1
    have := La.least ρ r1
    exact ⟨rfl, by omega⟩
end Go.Proofs.Ytncmfjncdhhjoaa
