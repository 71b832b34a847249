/- lives: what every statement calls. -/
import Derived.Test.YtncmfjncdhhjoaaWBest
import Derived.Test.YtncmfjncdhhjoaaWHall
import Derived.Test.YtncmfjncdhhjoaaWSame
namespace Go.Proofs.Ytncmfjncdhhjoaa
open Go.RowKit

/-- The cheapest assignment of the first table. -/
theorem good_dims {n m : Nat} {a b c d : Int} (G : Good n m [[a, b], [c, d]]) : n = 2 ∧ m = 2 := ⟨G.rows.symm, (G.cols 0 [a, b] rfl).symm⟩
theorem lex1 : LexMin 2 2 (cst [[4, 1], [2, 0]]) (fun i => if i = 0 then 1 else 0) := by
  have c00 : cst [[4, 1], [2, 0]] 0 0 = 4 := rfl
  have c01 : cst [[4, 1], [2, 0]] 0 1 = 1 := rfl
  have c10 : cst [[4, 1], [2, 0]] 1 0 = 2 := rfl
  have c11 : cst [[4, 1], [2, 0]] 1 1 = 0 := rfl
  have hc : ∀ τ : Nat → Nat, costN (cst [[4, 1], [2, 0]]) τ 2 = cst [[4, 1], [2, 0]] 0 (τ 0) + cst [[4, 1], [2, 0]] 1 (τ 1) := fun τ => by simp [costN, sumN]
  have hcase : ∀ τ : Nat → Nat, Asg 2 2 (cst [[4, 1], [2, 0]]) τ → (τ 0 = 0 ∧ τ 1 = 1) ∨ (τ 0 = 1 ∧ τ 1 = 0) := fun τ A => by
    have h0 := (A.ok 0 (by omega)).1
    have h1 := (A.ok 1 (by omega)).1
    have h2 : τ 0 ≠ τ 1 := fun e => by have := A.inj 0 1 (by omega) (by omega) e; omega
    omega
  have e0 : costN (cst [[4, 1], [2, 0]]) (fun i => if i = 0 then 1 else 0) 2 = 3 := by rw [hc]; rfl
  refine ⟨⟨fun i hi => ?_, fun i j hi hj e => ?_⟩, fun τ A => ?_, fun τ A he a ha hp => ?_⟩
  · have : i = 0 ∨ i = 1 := by omega
    rcases this with rfl | rfl
    · exact ⟨by simp, by simp [c01]⟩
    · exact ⟨by simp, by simp [c10]⟩
  · have h1 : i = 0 ∨ i = 1 := by omega
    have h2 : j = 0 ∨ j = 1 := by omega
    rcases h1 with rfl | rfl <;> rcases h2 with rfl | rfl <;> simp at e ⊢
  · rw [e0, hc]
    rcases hcase τ A with ⟨h1, h2⟩ | ⟨h1, h2⟩
    · rw [h1, h2, c00, c11]; omega
    · rw [h1, h2, c01, c10]; omega
  · rw [e0, hc] at he
    rcases hcase τ A with ⟨h1, h2⟩ | ⟨h1, h2⟩
    · rw [h1, h2, c00, c11] at he; omega
    · have : a = 0 ∨ a = 1 := by omega
      rcases this with rfl | rfl
      · simp [h1]
      · simp
theorem lives1 {w w' : World} {e : Ending} (h : BestPost w [[4, 1], [2, 0]] e w') : Below w.heap.size w w' ∧ ∃ gt gu gv, e = .returned (.tuple #[.agg #[.slice (some ⟨gt, 0, none⟩) 2 2, .slice (some ⟨gu, 0, none⟩) 2 2, .slice (some ⟨gv, 0, none⟩) 2 2, .int .i64 3], .int .i64 0]) ∧ Blk 3 w' gt (is [1, 0]) := by
  refine ⟨h.1, ?_⟩
  have hck : chkT [[4, 1], [2, 0]] = true := by decide
  rcases h.2 with ⟨h1, _⟩ | ⟨n, m, _, _, G, _, hno, _⟩ | ⟨n, m, gt, gu, gv, to, u, v, _, _, B, he⟩
  · rw [hck] at h1; cases h1
  · obtain ⟨rfl, rfl⟩ := good_dims G
    exact absurd lex1.asg (hno _)
  · obtain ⟨rfl, rfl⟩ := good_dims B.good
    obtain ⟨hc, ht⟩ := B.min.unique lex1
    have e0 : costN (cst [[4, 1], [2, 0]]) (fun i => if i = 0 then 1 else 0) 2 = 3 := by simp [costN, sumN]; rfl
    rw [hc, e0] at he
    refine ⟨gt, gu, gv, he, ?_⟩
    have hb := B.res
    have hl : fl (fun i => (to i : Int)) 2 = is [1, 0] := by
      have t0 := ht 0 (by omega)
      have t1 := ht 1 (by omega)
      simp only [fl, is]
      show [Value.int .i64 (to 0 : Int), Value.int .i64 (to 1 : Int)] = _
      rw [t0, t1]; rfl
    rwa [hl] at hb

theorem lives2 {w w' : World} {e : Ending} (h : HallPost w [[5, -1], [7, -1]] e w') : Below w.heap.size w w' ∧ ∃ g cap, e = .returned (.tuple #[.slice (some ⟨g, 0, none⟩) 2 cap, .int .i64 0]) ∧ Hd 3 w' g cap (is [0, 1]) := by
  refine ⟨h.1, ?_⟩
  have hck : chkT [[5, -1], [7, -1]] = true := by decide
  have m00 : mayC (cst [[5, -1], [7, -1]]) 0 0 = true := by decide
  have m01 : mayC (cst [[5, -1], [7, -1]]) 0 1 = false := by decide
  have m10 : mayC (cst [[5, -1], [7, -1]]) 1 0 = true := by decide
  have m11 : mayC (cst [[5, -1], [7, -1]]) 1 1 = false := by decide
  rcases h.2 with ⟨h1, _⟩ | ⟨n, m, o, _, _, G, _, S, _⟩ | ⟨n, m, i, o, s, g, cap, N, f, _, _, G, _, hi, S, R, hN, hW, hS, hg, hH, he⟩
  · rw [hck] at h1; cases h1
  · exfalso
    obtain ⟨rfl, rfl⟩ := good_dims G
    obtain ⟨a, ha, ea⟩ := (S.rows 0).2 (by omega)
    obtain ⟨b, hb, eb⟩ := (S.rows 1).2 (by omega)
    have h1 := S.edge a ha 0 ea
    have h2 := S.edge b hb 1 eb
    have ha' : a = 0 := by
      have : a = 0 ∨ a = 1 := by omega
      rcases this with rfl | rfl
      · rfl
      · rw [m01] at h1; cases h1
    have hb' : b = 0 := by
      have : b = 0 ∨ b = 1 := by omega
      rcases this with rfl | rfl
      · rfl
      · rw [m11] at h2; cases h2
    subst ha' hb'
    omega
  · obtain ⟨rfl, rfl⟩ := good_dims G
    obtain ⟨v1, v2⟩ := R.vain rfl
    have hs0 : s 0 = true := by
      have : i = 0 ∨ i = 1 := by omega
      rcases this with rfl | rfl
      · exact v2 0 (by omega) (by omega) m00
      · exact v2 0 (by omega) (by omega) m10
    obtain ⟨q, hq, _⟩ := v1 0 (by omega) rfl hs0
    have hqi := (S.rows q).1 ⟨0, by omega, hq⟩
    have hi1 : i = 1 := by omega
    subst hi1
    have hq0 : q = 0 := by omega
    subst hq0
    have hs1 : s 1 = false := by
      cases h1 : s 1 with
      | false => rfl
      | true =>
        obtain ⟨p, hp, _⟩ := v1 1 (by omega) rfl h1
        have hpi := (S.rows p).1 ⟨1, by omega, hp⟩
        have := S.inj 0 1 (by omega) (by omega) (by rw [hq, hp]; omega) (by omega)
        omega
    have hL : hallL 1 o s 2 = [1, 0] := by
      have e1 := hallL_f (i := 1) (o := o) (s := s) (k := 1) hs1
      have e2 := hallL_t (i := 1) (o := o) (s := s) (k := 0) hs0
      rw [e1, e2, hq]; rfl
    rw [hL] at hN hW
    have hN2 : N = 2 := hN
    subst hN2
    have hinj := hW.2 (by
      intro a b ha hb e
      have h1 : a = 0 ∨ a = 1 := by omega
      have h2 : b = 0 ∨ b = 1 := by omega
      rcases h1 with rfl | rfl <;> rcases h2 with rfl | rfl <;> simp at e ⊢)
    have hv : ∀ k, k < 2 → f k = 0 ∨ f k = 1 := by
      intro k hk
      obtain ⟨j, hj, e⟩ := (hW.1 (f k)).1 ⟨k, hk, rfl⟩
      have h1 : j = 0 ∨ j = 1 := by omega
      rcases h1 with rfl | rfl
      · simp at e; exact .inr e.symm
      · simp at e; exact .inl e.symm
    have h01 := hS 0 1 (by omega) (by omega)
    have hne : f 0 ≠ f 1 := fun e => by have := hinj 0 1 (by omega) (by omega) e; omega
    have a0 := hv 0 (by omega)
    have a1 := hv 1 (by omega)
    have f0 : f 0 = 0 := by omega
    have f1 : f 1 = 1 := by omega
    refine ⟨g, cap, he, ?_⟩
    have hl : fl f 2 = is [0, 1] := by
      simp only [fl, is]
      show [Value.int .i64 (f 0), Value.int .i64 (f 1)] = _
      rw [f0, f1]; rfl
    rwa [hl] at hH

theorem tab2 {w : World} {A A1 A2 c1 c2 : Nat} {a b c d : Int} (h1 : Blk 3 w A1 (is [a, b])) (h2 : Blk 3 w A2 (is [c, d])) (h : Blk 23 w A [.slice (some ⟨A1, 0, none⟩) 2 c1, .slice (some ⟨A2, 0, none⟩) 2 c2]) :
    Tab w.heap.size w (some ⟨A, 0, none⟩) [[a, b], [c, d]] := by
  refine ⟨[.slice (some ⟨A1, 0, none⟩) 2 c1, .slice (some ⟨A2, 0, none⟩) 2 c2], rfl, VB.of_blk h h.lt, fun i l hl => ?_⟩
  match i, hl with
  | 0, hl =>
    have e : l = [a, b] := by simpa using hl.symm
    subst e
    exact ⟨_, _, rfl, VB.of_blk h1 h1.lt⟩
  | 1, hl =>
    have e : l = [c, d] := by simpa using hl.symm
    subst e
    exact ⟨_, _, rfl, VB.of_blk h2 h2.lt⟩
  | i + 2, hl => simp at hl

end Go.Proofs.Ytncmfjncdhhjoaa
