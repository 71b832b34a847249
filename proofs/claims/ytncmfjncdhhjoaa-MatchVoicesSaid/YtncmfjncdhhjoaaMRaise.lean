/- Plain: what the loop of 'raise' computes. -/
import Derived.Test.YtncmfjncdhhjoaaMLeast
namespace Go.Proofs.Ytncmfjncdhhjoaa

/-- The prices of the rows behind the first columns. -/
def raU (o : Nat → Int) (dn : Nat → Bool) (d : Nat → Int) (A : Int) (u0 : Nat → Int) : Nat → Nat → Int
  | 0 => u0
  | K + 1 => if dn K = true then upd (raU o dn d A u0 K) (o K).toNat (raU o dn d A u0 K (o K).toNat + (A - d K)) else raU o dn d A u0 K
def raV (dn : Nat → Bool) (d : Nat → Int) (A : Int) (v : Nat → Int) (k : Nat) : Int := if dn k = true then v k - (A - d k) else v k

theorem raU_val {m : Nat} {o : Nat → Int} {dn : Nat → Bool} {d : Nat → Int} {A : Int} {u0 : Nat → Int} (hi : Inj m o) (ho : ∀ j, j < m → dn j = true → ∃ q : Nat, o j = (q : Int)) :
    ∀ K, K ≤ m → (∀ j, j < K → dn j = true → ∀ q : Nat, o j = (q : Int) → raU o dn d A u0 K q = u0 q + (A - d j)) ∧
      (∀ q : Nat, (∀ j, j < K → dn j = true → o j ≠ (q : Int)) → raU o dn d A u0 K q = u0 q)
  | 0, _ => ⟨fun j hj => by omega, fun _ _ => rfl⟩
  | K + 1, hK => by
    obtain ⟨h1, h2⟩ := raU_val (d := d) (A := A) (u0 := u0) hi ho K (by omega)
    cases hd : dn K with
    | false =>
      have e : raU o dn d A u0 (K + 1) = raU o dn d A u0 K := by simp only [raU]; rw [hd]; simp
      rw [e]
      refine ⟨fun j hj hdj q hq => ?_, fun q hq => h2 q fun j hj => hq j (by omega)⟩
      have : j ≠ K := fun e => by rw [e, hd] at hdj; simp at hdj
      exact h1 j (by omega) hdj q hq
    | true =>
      obtain ⟨p, hp⟩ := ho K (by omega) hd
      have e : raU o dn d A u0 (K + 1) = upd (raU o dn d A u0 K) p (raU o dn d A u0 K p + (A - d K)) := by
        simp only [raU]; rw [if_pos hd, hp]; simp
      have hold : raU o dn d A u0 K p = u0 p := h2 p fun j hj _ e => by
        have := hi j K (by omega) (by omega) (e.trans hp.symm) (by omega)
        omega
      rw [e]
      refine ⟨fun j hj hdj q hq => ?_, fun q hq => ?_⟩
      · by_cases ej : j = K
        · subst ej
          have : q = p := by omega
          subst this; rw [upd_at, hold]
        · have hqp : q ≠ p := by
            rintro rfl
            exact ej (hi j K (by omega) (by omega) (hq.trans hp.symm) (by omega))
          rw [upd_ne hqp]; exact h1 j (by omega) hdj q hq
      · have hqp : q ≠ p := by
          rintro rfl
          exact hq K (by omega) hd hp
        rw [upd_ne hqp]; exact h2 q fun j hj => hq j (by omega)

theorem raU_before {m : Nat} {o : Nat → Int} {dn : Nat → Bool} {d : Nat → Int} {A : Int} {u0 : Nat → Int} (hi : Inj m o) (ho : ∀ j, j < m → dn j = true → ∃ q : Nat, o j = (q : Int))
    {K q : Nat} (hK : K < m) (hq : o K = (q : Int)) : raU o dn d A u0 K q = u0 q :=
  (raU_val hi ho K (by omega)).2 q fun j hj _ e => by
    have := hi j K (by omega) hK (e.trans hq.symm) (by omega)
    omega

theorem raised_of {n m : Nat} {c : Nat → Nat → Int} {u v o : Nat → Int} {B : Int} {r : Nat} {D : List Nat} {dn : Nat → Bool} {d f : Nat → Int}
    (F : Fair n m c u v o B) (S : Srch n m c u v o r D dn d f) (hro : ¬ Has m o r) (A : Int) :
    Raised n m u v o r D d A (raU o dn d A (upd u r (u r + A)) m) (raV dn d A v) := by
  have ho : ∀ j, j < m → dn j = true → ∃ q : Nat, o j = (q : Int) := fun j hj hd => (S.own j ((S.mark j hj).1 hd)).2
  obtain ⟨h1, h2⟩ := raU_val (d := d) (A := A) (u0 := upd u r (u r + A)) F.inj ho m (Nat.le_refl _)
  refine ⟨?_, fun j hj q hq => ?_, fun i hi hne ht => ?_, fun k hk hD => ?_, fun k hk hD => ?_⟩
  · rw [h2 r fun j hj _ e => hro ⟨j, hj, e⟩, upd_at]
  · have hjm := (S.own j hj).1
    rw [h1 j hjm ((S.mark j hjm).2 hj) q hq, upd_ne]
    rintro rfl; exact hro ⟨j, hjm, hq⟩
  · rw [h2 i fun j hj hd => ht j ((S.mark j hj).1 hd), upd_ne hne]
  · unfold raV; rw [if_pos ((S.mark k hk).2 hD)]
  · unfold raV; rw [if_neg fun h => hD ((S.mark k hk).1 h)]

end Go.Proofs.Ytncmfjncdhhjoaa
