/- Plain: what a quill costs in a jack, and the table of these costs. -/
import Derived.Test.YtncmfjncdhhjoaaJkM
import Derived.Test.YtncmfjncdhhjoaaTabM
import Derived.Test.YtncmfjncdhhjoaaWit
namespace Go.Proofs.Ytncmfjncdhhjoaa
open Go.RowKit

/-- What a quill costs in a jack. -/
def priF (bend trim : Int) (j q : J2) : Int := if q.b < j.b then -1 else (if q.a - j.a < 0 then -(q.a - j.a) else q.a - j.a) * bend + (q.b - j.b) * trim
def okJ (x : J2) : Bool := inB x.a 0 10000 && inB x.b 0 10000
/-- Is there a table of these. -/
def okS (js qs : List J2) (bend trim : Int) : Bool :=
  inB (js.length : Int) 1 64 && (inB (qs.length : Int) (js.length : Int) 64 && (inB bend 0 100 && (inB trim 0 100 && (js.all okJ && qs.all okJ))))
def priL (js qs : List J2) (bend trim : Int) : List (List Int) := js.map fun j => qs.map fun q => priF bend trim j q
theorem okJ_t {x : J2} (h : okJ x = true) : (0 ≤ x.a ∧ x.a ≤ 10000) ∧ 0 ≤ x.b ∧ x.b ≤ 10000 := by
  unfold okJ at h
  rw [Bool.and_eq_true] at h
  exact ⟨inB_t h.1, inB_t h.2⟩
theorem mul_rng {a b K L : Int} (h1 : 0 ≤ a) (h2 : a ≤ K) (h3 : 0 ≤ b) (h4 : b ≤ L) : 0 ≤ a * b ∧ a * b ≤ K * L :=
  ⟨Int.mul_nonneg h1 h3, Int.mul_le_mul h2 h4 h3 (by omega)⟩
theorem pri_rng {bend trim : Int} {j q : J2} (hb : 0 ≤ bend ∧ bend ≤ 100) (ht : 0 ≤ trim ∧ trim ≤ 100) (hj : okJ j = true) (hq : okJ q = true) : -1 ≤ priF bend trim j q ∧ priF bend trim j q ≤ 1000000000 := by
  obtain ⟨j1, j2⟩ := okJ_t hj
  obtain ⟨q1, q2⟩ := okJ_t hq
  unfold priF
  split
  · omega
  · have h2 := mul_rng (a := q.b - j.b) (b := trim) (K := 10000) (L := 100) (by omega) (by omega) ht.1 ht.2
    split
    · have h1 := mul_rng (a := -(q.a - j.a)) (b := bend) (K := 10000) (L := 100) (by omega) (by omega) hb.1 hb.2
      omega
    · have h1 := mul_rng (a := q.a - j.a) (b := bend) (K := 10000) (L := 100) (by omega) (by omega) hb.1 hb.2
      omega
theorem okS_t {js qs : List J2} {bend trim : Int} (h : okS js qs bend trim = true) :
    (1 ≤ js.length ∧ js.length ≤ qs.length ∧ qs.length ≤ 64) ∧ (0 ≤ bend ∧ bend ≤ 100) ∧ (0 ≤ trim ∧ trim ≤ 100) ∧ (∀ x ∈ js, okJ x = true) ∧ ∀ x ∈ qs, okJ x = true := by
  unfold okS at h
  simp only [Bool.and_eq_true] at h
  obtain ⟨h1, h2, h3, h4, h5, h6⟩ := h
  have h1 := inB_t h1
  have h2 := inB_t h2
  exact ⟨⟨by omega, by omega, by omega⟩, inB_t h3, inB_t h4, List.all_eq_true.1 h5, List.all_eq_true.1 h6⟩
theorem pri_at {js qs : List J2} {bend trim : Int} {i k : Nat} {j q : J2} (hj : js[i]? = some j) (hq : qs[k]? = some q) : cst (priL js qs bend trim) i k = priF bend trim j q := by
  have h1 : (priL js qs bend trim)[i]? = some (qs.map fun q => priF bend trim j q) := by unfold priL; rw [List.getElem?_map, hj]; rfl
  rw [cst_of h1, List.getD_eq_getElem?_getD, List.getElem?_map, hq]; rfl
theorem pri_good {js qs : List J2} {bend trim : Int} (h : okS js qs bend trim = true) : Good js.length qs.length (priL js qs bend trim) := by
  obtain ⟨_, hb, ht, h1, h2⟩ := okS_t h
  refine ⟨by simp [priL], fun i l hl => ?_, fun i k hi hk => ?_⟩
  · unfold priL at hl
    rw [List.getElem?_map] at hl
    obtain ⟨j, _, rfl⟩ := Option.map_eq_some_iff.1 hl
    simp
  · have hj : js[i]? = some js[i] := List.getElem?_eq_getElem hi
    have hq : qs[k]? = some qs[k] := List.getElem?_eq_getElem hk
    rw [pri_at hj hq]
    exact pri_rng hb ht (h1 _ (List.getElem_mem _)) (h2 _ (List.getElem_mem _))
/-- A quill that a jack may have is long enough. -/
theorem pri_reach {bend trim : Int} {j q : J2} (h : priF bend trim j q ≠ -1) : j.b ≤ q.b := by
  unfold priF at h
  split at h
  · exact absurd rfl h
  · omega
end Go.Proofs.Ytncmfjncdhhjoaa
