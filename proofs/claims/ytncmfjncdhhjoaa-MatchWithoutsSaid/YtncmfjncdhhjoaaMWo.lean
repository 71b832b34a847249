/- Joined texts. -/
import Derived.Test.YtncmfjncdhhjoaaMLeast
import Derived.Test.YtncmfjncdhhjoaaTabM

/- Plain: all assignments in their lexicographical order, and the best one so far. -/
namespace Go.Proofs.Ytncmfjncdhhjoaa

/-- The assignments before those that begin so. -/
def Bef (d : Nat) (p τ : Nat → Nat) : Prop := ∃ j, j < d ∧ (∀ b, b < j → τ b = p b) ∧ τ j < p j
/-- These, and those that begin so. -/
def Upto (d : Nat) (p τ : Nat → Nat) : Prop := Bef d p τ ∨ ∀ b, b < d → τ b = p b
/-- The best assignment of those that were tried. -/
structure BestSo (n m : Nat) (c : Nat → Nat → Int) (V : (Nat → Nat) → Prop) (is : Bool) (to : Nat → Nat) (least : Int) : Prop where
  none : is = false → ∀ τ, Asg n m c τ → ¬ V τ
  some : is = true → Asg n m c to ∧ V to ∧ costN c to n = least ∧
    ∀ τ, Asg n m c τ → V τ → least ≤ costN c τ n ∧ (costN c τ n = least → ∀ i, i < n → (∀ b, b < i → τ b = to b) → to i ≤ τ i)
section
variable {n m : Nat} {c : Nat → Nat → Int}
theorem BestSo.congr {V V' : (Nat → Nat) → Prop} {is : Bool} {to : Nat → Nat} {least : Int} (h : BestSo n m c V is to least) (e : ∀ τ, Asg n m c τ → (V τ ↔ V' τ)) : BestSo n m c V' is to least := by
  refine ⟨fun hi τ ht hv => h.none hi τ ht ((e τ ht).2 hv), fun hi => ?_⟩
  obtain ⟨h1, h2, h3, h4⟩ := h.some hi
  exact ⟨h1, (e to h1).1 h2, h3, fun τ ht hv => h4 τ ht ((e τ ht).2 hv)⟩
theorem bef_start (p : Nat → Nat) (to : Nat → Nat) (least : Int) : BestSo n m c (Bef 0 p) false to least :=
  ⟨fun _ τ _ ⟨j, hj, _⟩ => by omega, fun h => by cases h⟩
theorem bef_congr {d : Nat} {p q τ : Nat → Nat} (e : ∀ b, b < d → p b = q b) : Bef d p τ ↔ Bef d q τ := by
  constructor
  · rintro ⟨j, hj, h1, h2⟩; exact ⟨j, hj, fun b hb => (h1 b hb).trans (e b (by omega)), by rw [← e j hj]; exact h2⟩
  · rintro ⟨j, hj, h1, h2⟩; exact ⟨j, hj, fun b hb => (h1 b hb).trans (e b (by omega)).symm, by rw [e j hj]; exact h2⟩
theorem upto_congr {d : Nat} {p q τ : Nat → Nat} (e : ∀ b, b < d → p b = q b) : Upto d p τ ↔ Upto d q τ := by
  unfold Upto
  rw [bef_congr e]
  constructor
  · rintro (h | h)
    · exact .inl h
    · exact .inr fun b hb => (h b hb).trans (e b hb)
  · rintro (h | h)
    · exact .inl h
    · exact .inr fun b hb => (h b hb).trans (e b hb).symm
theorem bef_upd {d k : Nat} {p τ : Nat → Nat} : Bef (d + 1) (upd p d k) τ ↔ Bef d p τ ∨ ((∀ b, b < d → τ b = p b) ∧ τ d < k) := by
  constructor
  · rintro ⟨j, hj, h1, h2⟩
    by_cases e : j = d
    · subst e
      rw [upd_at] at h2
      exact .inr ⟨fun b hb => by rw [h1 b hb, upd_ne (by omega)], h2⟩
    · rw [upd_ne e] at h2
      exact .inl ⟨j, by omega, fun b hb => by rw [h1 b hb, upd_ne (by omega)], h2⟩
  · rintro (⟨j, hj, h1, h2⟩ | ⟨h1, h2⟩)
    · exact ⟨j, by omega, fun b hb => by rw [h1 b hb, upd_ne (by omega)], by rw [upd_ne (by omega)]; exact h2⟩
    · exact ⟨d, by omega, fun b hb => by rw [h1 b hb, upd_ne (by omega)], by rw [upd_at]; exact h2⟩
theorem upto_next {d k : Nat} {p τ : Nat → Nat} : Upto (d + 1) (upd p d k) τ ↔ Bef (d + 1) (upd p d (k + 1)) τ := by
  unfold Upto
  rw [bef_upd, bef_upd]
  constructor
  · rintro ((h | ⟨h1, h2⟩) | h)
    · exact .inl h
    · exact .inr ⟨h1, by omega⟩
    · refine .inr ⟨fun b hb => by rw [h b (by omega), upd_ne (by omega)], ?_⟩
      rw [h d (by omega), upd_at]; omega
  · rintro (h | ⟨h1, h2⟩)
    · exact .inl (.inl h)
    · by_cases e : τ d = k
      · refine .inr fun b hb => ?_
        by_cases eb : b = d
        · subst eb; rw [upd_at]; exact e
        · rw [upd_ne eb]; exact h1 b (by omega)
      · exact .inl (.inr ⟨h1, by omega⟩)
theorem bef_first {d : Nat} {p τ : Nat → Nat} : Bef d p τ ↔ Bef (d + 1) (upd p d 0) τ := by
  rw [bef_upd]
  constructor
  · exact .inl
  · rintro (h | ⟨_, h⟩)
    · exact h
    · omega
theorem bef_last {d : Nat} {p τ : Nat → Nat} (hd : d < n) (ht : Asg n m c τ) : Bef (d + 1) (upd p d m) τ ↔ Upto d p τ := by
  unfold Upto
  rw [bef_upd]
  constructor
  · rintro (h | ⟨h, _⟩)
    · exact .inl h
    · exact .inr h
  · rintro (h | h)
    · exact .inl h
    · exact .inr ⟨h, (ht.ok d hd).1⟩
/-- A column that is not free begins no assignment. -/
theorem bef_skip {d k : Nat} {p τ : Nat → Nat} (hd : d < n) (ht : Asg n m c τ) (h : c d k = -1 ∨ ∃ i, i < d ∧ p i = k) : Bef (d + 1) (upd p d k) τ ↔ Bef (d + 1) (upd p d (k + 1)) τ := by
  rw [← upto_next]
  constructor
  · exact .inl
  · rintro (h1 | h1)
    · exact h1
    · exfalso
      have e : τ d = k := by rw [h1 d (by omega), upd_at]
      rcases h with h | ⟨i, hi, ei⟩
      · exact (ht.ok d hd).2 (by rw [e]; exact h)
      · have e2 : τ i = k := by rw [h1 i (by omega), upd_ne (by omega)]; exact ei
        have := ht.inj i d (by omega) hd (e2.trans e.symm)
        omega
theorem asg_congr {τ σ : Nat → Nat} (h : Asg n m c τ) (e : ∀ b, b < n → σ b = τ b) : Asg n m c σ :=
  ⟨fun i hi => by rw [e i hi]; exact h.ok i hi, fun i j hi hj he => h.inj i j hi hj (by rw [← e i hi, ← e j hj]; exact he)⟩
theorem cost_congr {τ σ : Nat → Nat} (e : ∀ b, b < n → σ b = τ b) : costN c σ n = costN c τ n := sumN_congr fun i hi => by rw [e i hi]
/-- The last row: a better one. -/
theorem BestSo.take {is : Bool} {to p : Nat → Nat} {least : Int} (h : BestSo n m c (Bef n p) is to least) (hp : Asg n m c p) (hb : is = false ∨ costN c p n < least) : BestSo n m c (Upto n p) true p (costN c p n) := by
  refine ⟨fun e => by (cases e), fun _ => ⟨hp, .inr fun _ _ => rfl, rfl, fun τ ht hv => ?_⟩⟩
  rcases hv with hv | hv
  · rcases hb with hb | hb
    · exact absurd hv (h.none hb τ ht)
    · cases is with
      | false => exact absurd hv (h.none rfl τ ht)
      | true =>
        have := ((h.some rfl).2.2.2 τ ht hv).1
        exact ⟨by omega, fun e => by omega⟩
  · have e := cost_congr (c := c) hv
    exact ⟨by omega, fun _ i hi _ => by rw [hv i hi]; exact Nat.le_refl _⟩
/-- The last row: not a better one. -/
theorem BestSo.leave {is : Bool} {to p : Nat → Nat} {least : Int} (h : BestSo n m c (Bef n p) is to least) (hb : ¬ Asg n m c p ∨ (is = true ∧ least ≤ costN c p n)) : BestSo n m c (Upto n p) is to least := by
  refine ⟨fun e τ ht hv => ?_, fun e => ?_⟩
  · rcases hv with hv | hv
    · exact h.none e τ ht hv
    · rcases hb with hb | ⟨hb, _⟩
      · exact hb (asg_congr ht fun b hb => (hv b hb).symm)
      · rw [e] at hb; cases hb
  · obtain ⟨h1, h2, h3, h4⟩ := h.some e
    refine ⟨h1, .inl h2, h3, fun τ ht hv => ?_⟩
    rcases hv with hv | hv
    · exact h4 τ ht hv
    · rcases hb with hb | ⟨_, hb⟩
      · exact absurd (asg_congr ht fun b hb => (hv b hb).symm) hb
      · have e2 := cost_congr (c := c) hv
        refine ⟨by omega, fun _ i hi hag => ?_⟩
        obtain ⟨j, hj, k1, k2⟩ := h2
        by_cases hij : i < j
        · rw [hv i hi, k1 i hij]; exact Nat.le_refl _
        · by_cases e3 : i = j
          · subst e3; rw [hv i hi]; omega
          · have := hag j (by omega)
            rw [hv j hj] at this
            omega
/-- All were tried. -/
theorem BestSo.lexMin {to p : Nat → Nat} {least : Int} (h : BestSo n m c (Upto 0 p) true to least) : LexMin n m c to ∧ costN c to n = least := by
  obtain ⟨h1, _, h3, h4⟩ := h.some rfl
  refine ⟨⟨h1, fun τ ht => ?_, fun τ ht e i hi hag => ?_⟩, h3⟩
  · have := (h4 τ ht (.inr fun b hb => by omega)).1; omega
  · exact (h4 τ ht (.inr fun b hb => by omega)).2 (by omega) i hi (fun b hb => hag b hb)
theorem BestSo.nothing {to p : Nat → Nat} {least : Int} (h : BestSo n m c (Upto 0 p) false to least) (τ : Nat → Nat) : ¬ Asg n m c τ :=
  fun ht => h.none rfl τ ht (.inr fun b hb => by omega)
end
end Go.Proofs.Ytncmfjncdhhjoaa

/- Plain: a table without one of its rows; what fair prices add up to; a table with a column more. -/
namespace Go.Proofs.Ytncmfjncdhhjoaa

/-- The number of a row in the whole table. -/
def sk (r i : Nat) : Nat := if i < r then i else i + 1
theorem sk_lt {r i n : Nat} (h : i < n) : sk r i < n + 1 := by unfold sk; split <;> omega
theorem sk_inj {r i j : Nat} (h : sk r i = sk r j) : i = j := by unfold sk at h; split at h <;> split at h <;> omega
theorem sumN_skip {f : Nat → Int} {r : Nat} : ∀ {n : Nat}, r ≤ n → sumN (fun i => f (sk r i)) n + f r = sumN f (n + 1)
  | 0, h => by
    obtain rfl : r = 0 := by omega
    simp [sumN]
  | n + 1, h => by
    by_cases e : r = n + 1
    · subst e
      rw [show sumN f (n + 1 + 1) = sumN f (n + 1) + f (n + 1) from rfl]
      rw [sumN_congr (f := fun i => f (sk (n + 1) i)) (g := f) fun i hi => by unfold sk; rw [if_pos hi]]
    · have ih := sumN_skip (f := f) (r := r) (n := n) (by omega)
      have e2 : sk r n = n + 1 := by unfold sk; rw [if_neg (by omega)]
      rw [show sumN f (n + 1 + 1) = sumN f (n + 1) + f (n + 1) from rfl, ← ih, show sumN (fun i => f (sk r i)) (n + 1) = sumN (fun i => f (sk r i)) n + f (sk r n) from rfl, e2]
      omega
section
variable {n m : Nat} {c : Nat → Nat → Int}
theorem asg_skip {τ : Nat → Nat} {r : Nat} (h : Asg (n + 1) m c τ) : Asg n m (fun i k => c (sk r i) k) (fun i => τ (sk r i)) :=
  ⟨fun i hi => h.ok (sk r i) (sk_lt hi), fun i j hi hj e => sk_inj (h.inj (sk r i) (sk r j) (sk_lt hi) (sk_lt hj) e)⟩
theorem cost_skip {τ : Nat → Nat} {r : Nat} (hr : r ≤ n) : costN (fun i k => c (sk r i) k) (fun i => τ (sk r i)) n + c r (τ r) = costN c τ (n + 1) :=
  sumN_skip (f := fun i => c i (τ i)) hr
theorem asg_same {c' : Nat → Nat → Int} {τ : Nat → Nat} (h : Asg n m c τ) (e : ∀ i k, i < n → k < m → c' i k = c i k) : Asg n m c' τ :=
  ⟨fun i hi => ⟨(h.ok i hi).1, by rw [e i _ hi (h.ok i hi).1]; exact (h.ok i hi).2⟩, h.inj⟩
theorem cost_same {c' : Nat → Nat → Int} {τ : Nat → Nat} (h : Asg n m c τ) (e : ∀ i k, i < n → k < m → c' i k = c i k) : costN c' τ n = costN c τ n :=
  sumN_congr fun i hi => e i _ hi (h.ok i hi).1
/-- Fair prices for all rows add up to what a cheapest assignment costs. -/
theorem fair_cost {u v o : Nat → Int} {B : Int} (F : Fair n m c u v o B) (hh : ∀ q, q < n → Has m o q) :
    ∃ τ, Asg n m c τ ∧ costN c τ n = sumN u n + sumN v m ∧ ∀ σ, Asg n m c σ → costN c τ n ≤ costN c σ n := by
  have hch : ∃ τ : Nat → Nat, ∀ i, i < n → τ i < m ∧ o (τ i) = (i : Int) := by
    refine ⟨fun i => if h : i < n then (hh i h).choose else 0, fun i hi => ?_⟩
    simp only [dif_pos hi]
    exact (hh i hi).choose_spec
  obtain ⟨τ, hτ⟩ := hch
  have A : Asg n m c τ := ⟨fun i hi => ⟨(hτ i hi).1, (F.own _ (hτ i hi).1 i (hτ i hi).2).2.1⟩, fun i j hi hj e => by
    have h1 := (hτ i hi).2
    have h2 := (hτ j hj).2
    rw [e] at h1; omega⟩
  have P : Proof n m c u v τ := ⟨F.low, fun k hk => (F.neg k hk).1, fun i hi => (F.own _ (hτ i hi).1 i (hτ i hi).2).2.2, fun k hk hu => F.free k hk (by
    have h1 := F.dom k hk
    refine Classical.byContradiction fun hne => ?_
    have h2 := F.own k hk (o k).toNat (by omega)
    refine hu (o k).toNat h2.1 ?_
    refine F.inj _ k (hτ _ h2.1).1 hk ?_ ?_
    · rw [(hτ _ h2.1).2]; omega
    · rw [(hτ _ h2.1).2]; omega)⟩
  refine ⟨τ, A, P.sum A, fun σ hσ => ?_⟩
  rw [P.sum A]
  exact (dual P.low P.neg hσ).1
end
/-- A table without a row. -/
theorem Good.erase {n m r : Nat} {ls : List (List Int)} (G : Good (n + 1) m ls) (hr : r ≤ n) : Good n m (ls.eraseIdx r) ∧ ∀ i k, i < n → cst (ls.eraseIdx r) i k = cst ls (sk r i) k := by
  have hat : ∀ i, i < n → (ls.eraseIdx r)[i]? = ls[sk r i]? := fun i hi => by
    rw [List.getElem?_eraseIdx]; unfold sk; split <;> rfl
  have hc : ∀ i k, i < n → cst (ls.eraseIdx r) i k = cst ls (sk r i) k := fun i k hi => by
    have e : (ls.eraseIdx r).getD i [] = ls.getD (sk r i) [] := by rw [List.getD_eq_getElem?_getD, List.getD_eq_getElem?_getD, hat i hi]
    unfold cst
    rw [e]
  have hl : (ls.eraseIdx r).length = n := by
    rw [List.length_eraseIdx]
    have := G.rows
    split <;> omega
  refine ⟨⟨hl, fun i l hi => ?_, fun i k hi hk => ?_⟩, hc⟩
  · have hin : i < n := by have := (List.getElem?_eq_some_iff.1 hi).1; omega
    rw [hat i hin] at hi
    exact G.cols _ l hi
  · rw [hc i k hi]
    exact G.rng _ k (sk_lt hi) hk
/-- What Without owes. -/
def WoOk (n m : Nat) (c : Nat → Nat → Int) (r : Nat) (s : Int) : Prop := ∃ τ, Asg n m (fun i k => c (sk r i) k) τ ∧ costN (fun i k => c (sk r i) k) τ n = s ∧ ∀ σ, Asg n m (fun i k => c (sk r i) k) σ → s ≤ costN (fun i k => c (sk r i) k) σ n
/-- The other rows cost no more than all but the row's own column, and not less than nothing. -/
theorem fewer_plain {n m r : Nat} {ls : List (List Int)} (G : Good (n + 1) m ls) (hr : r ≤ n) {to : Nat → Nat} (A : Asg (n + 1) m (cst ls) to) :
    Asg n m (fun i k => cst ls (sk r i) k) (fun i => to (sk r i)) ∧ costN (fun i k => cst ls (sk r i) k) (fun i => to (sk r i)) n = costN (cst ls) to (n + 1) - cst ls r (to r) := by
  refine ⟨asg_skip A, ?_⟩
  have := cost_skip (c := cst ls) (τ := to) hr
  omega
theorem wo_pos {n m r : Nat} {ls : List (List Int)} (G : Good (n + 1) m ls) {s : Int} (h : WoOk n m (cst ls) r s) : 0 ≤ s := by
  obtain ⟨τ, A, e, _⟩ := h
  rw [← e]
  refine sumN_nonneg fun i hi => ?_
  have h1 := A.ok i hi
  have h2 := G.rng (sk r i) (τ i) (sk_lt hi) h1.1
  have h3 : cst ls (sk r i) (τ i) ≠ -1 := h1.2
  show 0 ≤ cst ls (sk r i) (τ i)
  omega
end Go.Proofs.Ytncmfjncdhhjoaa

