/- Plain: the lexicographically least assignment that prices prove. -/
import Derived.Test.YtncmfjncdhhjoaaMFair
namespace Go.Proofs.Ytncmfjncdhhjoaa

/-- Sums over the first n numbers. -/
def sumN (f : Nat → Int) : Nat → Int
  | 0 => 0
  | n + 1 => sumN f n + f n
theorem sumN_congr {f g : Nat → Int} : ∀ {n : Nat}, (∀ i, i < n → f i = g i) → sumN f n = sumN g n
  | 0, _ => rfl
  | n + 1, h => by simp only [sumN]; rw [sumN_congr fun i hi => h i (by omega), h n (by omega)]
theorem sumN_zero {f : Nat → Int} {n : Nat} (h : ∀ i, i < n → f i = 0) : sumN f n = 0 := by
  induction n with
  | zero => rfl
  | succ n ih => simp only [sumN]; rw [ih fun i hi => h i (by omega), h n (by omega)]; rfl
theorem sumN_nonneg {f : Nat → Int} {n : Nat} (h : ∀ i, i < n → 0 ≤ f i) : 0 ≤ sumN f n := by
  induction n with
  | zero => simp [sumN]
  | succ n ih => have := ih fun i hi => h i (by omega); have := h n (by omega); simp only [sumN]; omega
theorem sumN_le {f g : Nat → Int} {n : Nat} (h : ∀ i, i < n → f i ≤ g i) : sumN f n ≤ sumN g n := by
  induction n with
  | zero => simp [sumN]
  | succ n ih => have := ih fun i hi => h i (by omega); have := h n (by omega); simp only [sumN]; omega
theorem sumN_add {f g : Nat → Int} {n : Nat} : sumN (fun i => f i + g i) n = sumN f n + sumN g n := by
  induction n with
  | zero => rfl
  | succ n ih => simp only [sumN]; rw [ih]; omega
theorem sumN_sub {f g : Nat → Int} {n : Nat} : sumN (fun i => f i - g i) n = sumN f n - sumN g n := by
  induction n with
  | zero => rfl
  | succ n ih => simp only [sumN]; rw [ih]; omega
theorem sumN_upd {f g : Nat → Int} {n i : Nat} (hi : i < n) (h : ∀ j, j < n → j ≠ i → g j = f j) : sumN g n = sumN f n + (g i - f i) := by
  induction n with
  | zero => omega
  | succ n ih =>
    simp only [sumN]
    by_cases e : i = n
    · subst e
      rw [sumN_congr (f := g) (g := f) fun j hj => h j (by omega) (by omega)]
      omega
    · rw [ih (by omega) fun j hj hne => h j (by omega) hne, h n (by omega) (by omega)]
      omega
theorem sumN_label (w : Nat → Int) (a : Nat → Nat) (K : Nat) : ∀ n, (∀ i, i < n → a i < K) → sumN (fun c => sumN (fun i => if a i = c then w i else 0) n) K = sumN w n
  | 0, _ => by simp only [sumN]; exact sumN_zero fun _ _ => rfl
  | n + 1, h => by
    simp only [sumN]
    rw [sumN_add, sumN_label w a K n fun i hi => h i (by omega)]
    have hk := h n (by omega)
    have : sumN (fun c => if a n = c then w n else 0) K = w n := by
      rw [sumN_upd (f := fun _ => 0) hk fun j _ hj => by rw [if_neg (fun e => hj e.symm)]]
      rw [sumN_zero (f := fun _ => (0 : Int)) fun _ _ => rfl, if_pos rfl]; omega
    rw [this]
theorem sumN_all_zero {f : Nat → Int} {n : Nat} (h : ∀ i, i < n → 0 ≤ f i) (hs : sumN f n ≤ 0) : ∀ i, i < n → f i = 0 := by
  induction n with
  | zero => intro i hi; omega
  | succ n ih =>
    have h1 := sumN_nonneg (f := f) (n := n) fun i hi => h i (by omega)
    have h2 := h n (by omega)
    simp only [sumN] at hs
    intro i hi
    by_cases e : i = n
    · subst e; omega
    · exact ih (fun i hi => h i (by omega)) (by omega) i (by omega)

/-- What an assignment costs. -/
def costN (c : Nat → Nat → Int) (τ : Nat → Nat) (n : Nat) : Int := sumN (fun i => c i (τ i)) n

/-- The prices of the columns, by rows and the rest. -/
theorem sum_cols {n m : Nat} {v : Nat → Int} {τ : Nat → Nat} (ht : ∀ i, i < n → τ i < m) (hi : ∀ i j, i < n → j < n → τ i = τ j → i = j)
    {rest : Nat → Int} (h1 : ∀ k, k < m → (∀ i, i < n → τ i ≠ k) → rest k = v k) (h2 : ∀ i, i < n → rest (τ i) = 0) :
    sumN v m = sumN (fun i => v (τ i)) n + sumN rest m := by
  rw [← sumN_label (fun i => v (τ i)) τ m n ht, ← sumN_add]
  refine sumN_congr fun k hk => ?_
  by_cases h : ∃ i, i < n ∧ τ i = k
  · obtain ⟨i, hin, e⟩ := h
    rw [sumN_upd (f := fun _ => 0) (i := i) hin fun j hj hne => if_neg fun e2 => hne (hi j i hj hin (e2.trans e.symm)),
      sumN_zero (f := fun _ => (0 : Int)) fun _ _ => rfl, if_pos e, ← e, h2 i hin]
    omega
  · have h' : ∀ i, i < n → τ i ≠ k := fun i hi e => h ⟨i, hi, e⟩
    rw [sumN_zero (fun i hi => if_neg (h' i hi)), h1 k hk h']
    omega

/-- Prices that are fair for all rows are a bound; who reaches it uses tight columns, and all that have a price. -/
theorem dual {n m : Nat} {c : Nat → Nat → Int} {u v : Nat → Int} (low : ∀ i k, i < n → k < m → c i k ≠ -1 → u i + v k ≤ c i k) (neg : ∀ k, k < m → v k ≤ 0)
    {τ : Nat → Nat} (A : Asg n m c τ) : sumN u n + sumN v m ≤ costN c τ n ∧
      (costN c τ n ≤ sumN u n + sumN v m → (∀ i, i < n → u i + v (τ i) = c i (τ i)) ∧ (∀ k, k < m → (∀ i, i < n → τ i ≠ k) → v k = 0)) := by
  classical
  let rest : Nat → Int := fun k => if ∃ i, i < n ∧ τ i = k then 0 else v k
  have h1 : ∀ k, k < m → (∀ i, i < n → τ i ≠ k) → rest k = v k := fun k _ h => if_neg fun ⟨i, hi, e⟩ => h i hi e
  have h2 : ∀ i, i < n → rest (τ i) = 0 := fun i hi => if_pos ⟨i, hi, rfl⟩
  have hs := sum_cols (fun i hi => (A.ok i hi).1) A.inj h1 h2
  have hr : ∀ k, k < m → 0 ≤ - rest k := by
    intro k hk
    show 0 ≤ - (if ∃ i, i < n ∧ τ i = k then 0 else v k)
    have := neg k hk
    split <;> omega
  have hg : ∀ i, i < n → 0 ≤ c i (τ i) - (u i + v (τ i)) := fun i hi => by
    have := low i (τ i) hi (A.ok i hi).1 (A.ok i hi).2; omega
  have e1 : sumN (fun i => c i (τ i) - (u i + v (τ i))) n = costN c τ n - (sumN u n + sumN (fun i => v (τ i)) n) := by
    rw [sumN_sub, sumN_add]; rfl
  have e2 : sumN (fun k => - rest k) m = - sumN rest m := by
    have := sumN_sub (f := fun _ => 0) (g := rest) (n := m)
    rw [sumN_zero (f := fun _ => (0 : Int)) fun _ _ => rfl] at this
    rw [sumN_congr (f := fun k => - rest k) (g := fun k => 0 - rest k) fun k _ => by omega]
    omega
  have n1 := sumN_nonneg hg
  have n2 := sumN_nonneg hr
  refine ⟨by omega, fun hle => ⟨fun i hi => ?_, fun k hk hu => ?_⟩⟩
  · have := sumN_all_zero hg (by omega) i hi; omega
  · have := sumN_all_zero hr (by omega) k hk
    rw [h1 k hk hu] at this; omega

/-- The graph whose assignments that use all columns are those that prices prove; rows from n on are spare. -/
def tightT (n : Nat) (c : Nat → Nat → Int) (u v : Nat → Int) (q k : Nat) : Bool :=
  if n ≤ q then decide (v k = 0) else c q k != -1 && decide (u q + v k = c q k)
theorem tight_low {n : Nat} {c : Nat → Nat → Int} {u v : Nat → Int} {q k : Nat} (h : q < n) : tightT n c u v q k = true ↔ c q k ≠ -1 ∧ u q + v k = c q k := by
  unfold tightT; rw [if_neg (by omega)]; simp
theorem tight_high {n : Nat} {c : Nat → Nat → Int} {u v : Nat → Int} {q k : Nat} (h : n ≤ q) : tightT n c u v q k = true ↔ v k = 0 := by
  unfold tightT; rw [if_pos h]; simp

/-- Every column has a row, each its own. -/
structure Perf (m : Nat) (may : Nat → Nat → Bool) (o : Nat → Int) : Prop where
  inj : Inj m o
  dom : ∀ k, k < m → ∃ q : Nat, o k = (q : Int) ∧ q < m ∧ may q k = true

theorem Perf.has {m : Nat} {may : Nat → Nat → Bool} {o : Nat → Int} (P : Perf m may o) {q : Nat} (hq : q < m) : Has m o q := by
  obtain ⟨j, hj, _, e⟩ := pigeon (m := m) (X := fun _ => True) (f := fun j => (o j).toNat) (fun j hj _ => by
      obtain ⟨p, e, hp, _⟩ := P.dom j hj
      simp only [e]; exact ⟨by simpa using hp, trivial⟩)
    (fun i j hi hj _ _ e => by
      obtain ⟨p, e1, _, _⟩ := P.dom i hi
      obtain ⟨p', e2, _, _⟩ := P.dom j hj
      refine P.inj i j hi hj ?_ (by omega)
      simp only [e1, e2] at e ⊢; omega) hq trivial
  obtain ⟨p, e1, _, _⟩ := P.dom j hj
  exact ⟨j, hj, by rw [e1] at e ⊢; simp at e; omega⟩

theorem settle_step {m : Nat} {may : Nat → Nat → Bool} {o : Nat → Int} (P : Perf m may o) {row c0 : Nat} (hrow : row < m) (hc0 : c0 < m) (e0 : o c0 = (row : Int))
    {kept : Nat → Bool} {to : Nat → Nat} (hk : ∀ j, j < m → kept j = true → ∃ i, i < row ∧ to i = j)
    (hto : ∀ i, i < row → to i < m ∧ o (to i) = (i : Int) ∧ kept (to i) = true)
    {b : Bool} {o' : Nat → Int} {s' : Nat → Bool} (R : Room m may row 0 (upd o c0 (-1)) kept b o' s') :
    b = true ∧ Perf m may o' ∧ (∀ i, i < row → o' (to i) = (i : Int)) ∧
      ∃ z, z < m ∧ o' z = (row : Int) ∧ kept z = false ∧
        ∀ τ : Nat → Nat, (∀ q, q < m → τ q < m ∧ may q (τ q) = true) → (∀ p q, p < m → q < m → τ p = τ q → p = q) → (∀ i, i < row → τ i = to i) → z ≤ τ row := by
  obtain ⟨p0, ep0, _, hmay0⟩ := P.dom c0 hc0
  have : p0 = row := by omega
  subst this
  have hkc : kept c0 = false := by
    cases h : kept c0 with
    | false => rfl
    | true =>
      obtain ⟨i, hi, e⟩ := hk c0 hc0 h
      have := (hto i hi).2.1
      rw [e] at this; omega
  have hi1 : Inj m (upd o c0 (-1)) := by
    intro i j hi' hj' e h0
    by_cases e1 : i = c0
    · subst e1; rw [upd_at] at h0; omega
    · by_cases e2 : j = c0
      · subst e2; rw [upd_at, upd_ne e1] at e; rw [upd_ne e1] at h0; omega
      · rw [upd_ne e1, upd_ne e2] at e; rw [upd_ne e1] at h0; exact P.inj i j hi' hj' e h0
  have hr1 : ¬ Has m (upd o c0 (-1)) p0 := by
    rintro ⟨j, hj, e⟩
    by_cases e1 : j = c0
    · subst e1; rw [upd_at] at e; omega
    · rw [upd_ne e1] at e
      exact e1 (P.inj j c0 hj hc0 (e.trans e0.symm) (by omega))
  have hb : b = true := by
    cases hb : b with
    | true => rfl
    | false =>
      have h1 := (R.vain hb).2 c0 (by omega) hc0 hmay0
      obtain ⟨q, e, _⟩ := (R.vain hb).1 c0 hc0 hkc h1
      rw [upd_at] at e; omega
  subst hb
  have A := R.found hi1 hr1
  have hdom1 : ∀ j, j < m → -1 ≤ upd o c0 (-1) j := by
    intro j hj
    by_cases e1 : j = c0
    · subst e1; rw [upd_at]; omega
    · rw [upd_ne e1]; obtain ⟨q, e, _⟩ := P.dom j hj; omega
  have hdom := R.dom hdom1
  have hfull : ∀ j, j < m → o' j ≠ -1 := by
    intro j hj e
    obtain ⟨z, hz, h1, h2, h3⟩ := A.one
    have hu : ∀ i, i < m → upd o c0 (-1) i = -1 → i = c0 := by
      intro i hi e2
      refine Classical.byContradiction fun hne => ?_
      rw [upd_ne hne] at e2
      obtain ⟨q, e3, _⟩ := P.dom i hi
      omega
    have e4 := hu j hj (h3 j hj e)
    have e5 := hu z hz h1
    rw [e4, ← e5] at e; exact h2 e
  have hP : Perf m may o' := by
    refine ⟨A.inj, fun k hk' => ?_⟩
    have h1 := hdom k hk'
    have h2 := hfull k hk'
    refine ⟨(o' k).toNat, by omega, ?_⟩
    have e : o' k = (((o' k).toNat : Nat) : Int) := by omega
    generalize (o' k).toNat = q at e
    have hq : q < m := by
      rcases (A.rows q).1 ⟨k, hk', e⟩ with ⟨j, hj, e2⟩ | rfl
      · have e3 : j ≠ c0 := fun h => by subst h; rw [upd_at] at e2; omega
        rw [upd_ne e3] at e2
        obtain ⟨p, e4, hp, _⟩ := P.dom j hj
        have : p = q := by omega
        exact this ▸ hp
      · exact hrow
    refine ⟨hq, ?_⟩
    rcases A.edge k hk' q e with h | h
    · have e3 : k ≠ c0 := fun h' => by subst h'; rw [upd_at] at h; omega
      rw [upd_ne e3] at h
      obtain ⟨p, e4, _, hm⟩ := P.dom k hk'
      have : p = q := by omega
      exact this ▸ hm
    · exact h
  refine ⟨rfl, hP, fun i hi => ?_, ?_⟩
  · have h1 := hto i hi
    rw [A.same _ h1.2.2, upd_ne fun e => by rw [e] at h1; omega]
    exact h1.2.1
  · obtain ⟨z, _, hzm, ez, hmz, hkz, s1, h1, h2, h3⟩ := R.first rfl
    refine ⟨z, hzm, ez, hkz, fun τ hτ hτi hτp => ?_⟩
    refine Classical.byContradiction fun hlt => ?_
    have hne : ∀ q, q < m → (∀ i, i < p0 → q ≠ i) → kept (τ q) = false := by
      intro q hq hqi
      cases h : kept (τ q) with
      | false => rfl
      | true =>
        obtain ⟨i, hi, e⟩ := hk _ (hτ q hq).1 h
        rw [← hτp i hi] at e
        exact absurd (hτi i q (by omega) hq e).symm (hqi i hi)
    have hs1 := h3 (τ p0) (by omega) (by omega) (hτ p0 hrow).2
    have hX : Shut m (fun q k => may q k && !kept k) (upd o c0 (-1)) (fun j => s1 j = true ∧ kept j = false) := by
      intro j hj hx
      obtain ⟨q, e, h4⟩ := h2 j hj hx.2 hx.1
      refine ⟨q, e, fun i hi hm => ?_⟩
      simp only [Bool.and_eq_true, Bool.not_eq_true'] at hm
      exact ⟨h4 i hi hm.1, hm.2⟩
    have hown : ∀ q, (∃ j, j < m ∧ (s1 j = true ∧ kept j = false) ∧ upd o c0 (-1) j = ((q : Nat) : Int)) → q < m ∧ ∀ i, i < p0 → q ≠ i := by
      rintro q ⟨j, hj, hx, e⟩
      have e3 : j ≠ c0 := fun h' => by subst h'; rw [upd_at] at e; omega
      rw [upd_ne e3] at e
      obtain ⟨p, e4, hp, _⟩ := P.dom j hj
      have : p = q := by omega
      subst this
      refine ⟨hp, fun i hi => ?_⟩
      rintro rfl
      have h5 := hto p hi
      have := P.inj j (to p) hj h5.1 (e.trans h5.2.1.symm) (by omega)
      rw [this, h5.2.2] at hx
      simp at hx
    refine stuck hX hi1 hr1 (τ := τ) ⟨(hτ p0 hrow).1, hs1, hne p0 hrow fun i hi => by omega⟩ (fun q hq => ?_) (fun p q hp hq e => ?_)
    · obtain ⟨h6, h7⟩ := hown q hq
      refine ⟨(hτ q h6).1, ?_⟩
      simp only [Bool.and_eq_true, Bool.not_eq_true']
      exact ⟨(hτ q h6).2, hne q h6 h7⟩
    · refine hτi p q ?_ ?_ e
      · rcases hp with rfl | hp
        · exact hrow
        · exact (hown p hp).1
      · rcases hq with rfl | hq
        · exact hrow
        · exact (hown q hq).1

/-- An assignment of some rows goes on to all columns. -/
theorem extend {n m : Nat} (hnm : n ≤ m) {τ : Nat → Nat} (ht : ∀ i, i < n → τ i < m) (hi : ∀ i j, i < n → j < n → τ i = τ j → i = j) :
    ∃ σ : Nat → Nat, (∀ i, i < n → σ i = τ i) ∧ (∀ q, q < m → σ q < m) ∧ (∀ p q, p < m → q < m → σ p = σ q → p = q) := by
  classical
  let used : Nat → Bool := fun k => decide (∃ i, i < n ∧ τ i = k)
  let U := (List.range m).filter (fun k => !used k)
  have hu : ∀ k, used k = true ↔ ∃ i, i < n ∧ τ i = k := fun k => by simp [used]
  have hU : ∀ k, k ∈ U ↔ k < m ∧ ¬ ∃ i, i < n ∧ τ i = k := by
    intro k; simp only [U, List.mem_filter, List.mem_range, Bool.not_eq_true', ← hu]
    cases used k <;> simp
  have hUn : U.Nodup := List.Pairwise.filter _ List.nodup_range
  have hlen : m - n ≤ U.length := by
    have h1 : ((List.range m).filter used).length ≤ n := by
      have := nodup_le (l1 := (List.range m).filter used) (l2 := (List.range n).map τ) (List.Pairwise.filter _ List.nodup_range) (by
        intro x hx
        obtain ⟨i, hi', e⟩ := (hu x).1 (List.mem_filter.1 hx).2
        exact List.mem_map.2 ⟨i, List.mem_range.2 hi', e⟩)
      simpa using this
    have h2 := List.length_eq_countP_add_countP used (l := List.range m)
    rw [List.countP_eq_length_filter, List.countP_eq_length_filter, List.length_range] at h2
    have h3 : ((List.range m).filter (fun k => decide ¬used k = true)).length = U.length := by
      congr 1
      refine List.filter_congr fun x _ => ?_
      cases used x <;> rfl
    omega
  have hmem : ∀ q, n ≤ q → q < m → U.getD (q - n) 0 ∈ U := by
    intro q h1 h2
    rw [List.getD_eq_getElem?_getD, List.getElem?_eq_getElem (by omega)]
    exact List.getElem_mem _
  refine ⟨fun q => if q < n then τ q else U.getD (q - n) 0, fun i hi' => if_pos hi', fun q hq => ?_, fun p q hp hq e => ?_⟩
  · show (if q < n then τ q else U.getD (q - n) 0) < m
    split
    · exact ht q ‹_›
    · exact ((hU _).1 (hmem q (by omega) hq)).1
  · have e' : (if p < n then τ p else U.getD (p - n) 0) = (if q < n then τ q else U.getD (q - n) 0) := e
    by_cases a : p < n
    · by_cases b : q < n
      · rw [if_pos a, if_pos b] at e'; exact hi p q a b e'
      · rw [if_pos a, if_neg b] at e'
        exact absurd ⟨p, a, e'⟩ ((hU _).1 (hmem q (by omega) hq)).2
    · by_cases b : q < n
      · rw [if_neg a, if_pos b] at e'
        exact absurd ⟨q, b, e'.symm⟩ ((hU _).1 (hmem p (by omega) hp)).2
      · rw [if_neg a, if_neg b] at e'
        rw [List.getD_eq_getElem?_getD, List.getElem?_eq_getElem (by omega), List.getD_eq_getElem?_getD, List.getElem?_eq_getElem (by omega)] at e'
        simp only [Option.getD_some] at e'
        have := (List.getElem_inj hUn).1 e'
        omega

/-- The free columns before a column. -/
def cntF (o : Nat → Int) : Nat → Nat
  | 0 => 0
  | k + 1 => cntF o k + if o k = -1 then 1 else 0
/-- The owners, spare rows at the free columns. -/
def spareO (n : Nat) (o : Nat → Int) (k : Nat) : Int := if o k = -1 then (n : Int) + (cntF o k : Int) else o k

theorem cntF_mono {o : Nat → Int} {i j : Nat} (h : i ≤ j) : cntF o i ≤ cntF o j := by
  induction j with
  | zero => have : i = 0 := by omega
            rw [this]; exact Nat.le_refl _
  | succ j ih =>
    by_cases e : i = j + 1
    · rw [e]; exact Nat.le_refl _
    · have := ih (by omega)
      simp only [cntF]; omega
theorem cntF_lt {o : Nat → Int} {i j : Nat} (h : i < j) (hi : o i = -1) : cntF o i < cntF o j := by
  have h1 : cntF o (i + 1) ≤ cntF o j := cntF_mono h
  simp only [cntF, if_pos hi] at h1; omega
theorem cntF_len {o : Nat → Int} : ∀ m, cntF o m = ((List.range m).filter (fun k => decide (o k = -1))).length
  | 0 => rfl
  | m + 1 => by
    rw [List.range_succ, List.filter_append, List.length_append, ← cntF_len m]
    simp only [cntF]
    by_cases h : o m = -1 <;> simp [h]

/-- All rows have columns: then the spare rows are as many as the free columns. -/
theorem cnt_all {n m : Nat} {o : Nat → Int} (_hi : Inj m o) (hh : ∀ q, q < n → Has m o q) : cntF o m ≤ m - n ∧ n ≤ m := by
  classical
  have hex : ∀ q, ∃ j, q < n → j < m ∧ o j = (q : Int) := fun q => by
    by_cases h : q < n
    · obtain ⟨j, hj⟩ := hh q h; exact ⟨j, fun _ => hj⟩
    · exact ⟨0, fun h' => absurd h' h⟩
  have hc : ∃ w : Nat → Nat, ∀ q, q < n → w q < m ∧ o (w q) = (q : Int) := ⟨fun q => (hex q).choose, fun q hq => (hex q).choose_spec hq⟩
  obtain ⟨w, hw⟩ := hc
  have h1 : n ≤ ((List.range m).filter (fun k => !decide (o k = -1))).length := by
    have := nodup_le (l1 := (List.range n).map w) (l2 := (List.range m).filter (fun k => !decide (o k = -1)))
      (nodup_map List.nodup_range fun i j hi' hj' e => by
        have a := hw i (List.mem_range.1 hi')
        have b := hw j (List.mem_range.1 hj')
        rw [e] at a; omega)
      (by
        intro x hx
        obtain ⟨q, hq, rfl⟩ := List.mem_map.1 hx
        have a := hw q (List.mem_range.1 hq)
        refine List.mem_filter.2 ⟨List.mem_range.2 a.1, ?_⟩
        simp only [Bool.not_eq_true', decide_eq_false_iff_not]; omega)
    simpa using this
  have h2 := List.length_eq_countP_add_countP (fun k => decide (o k = -1)) (l := List.range m)
  rw [List.countP_eq_length_filter, List.countP_eq_length_filter, List.length_range] at h2
  have h3 : ((List.range m).filter (fun k => decide ¬decide (o k = -1) = true)).length = ((List.range m).filter (fun k => !decide (o k = -1))).length := by
    congr 1
    refine List.filter_congr fun x _ => ?_
    cases decide (o x = -1) <;> rfl
  rw [cntF_len]
  have h4 : ((List.range m).filter (fun k => !decide (o k = -1))).length ≤ m := by
    have := List.length_filter_le (fun k => !decide (o k = -1)) (List.range m)
    simpa using this
  omega

theorem spare_perf {n m : Nat} {c : Nat → Nat → Int} {u v o : Nat → Int} {B : Int} (F : Fair n m c u v o B) (hh : ∀ q, q < n → Has m o q) :
    Perf m (tightT n c u v) (spareO n o) := by
  obtain ⟨hcnt, hnm⟩ := cnt_all F.inj hh
  constructor
  · intro i j hi hj e h0
    unfold spareO at e h0
    by_cases a : o i = -1
    · rw [if_pos a] at e h0
      by_cases b : o j = -1
      · rw [if_pos b] at e
        rcases Nat.lt_trichotomy i j with h | h | h
        · have := cntF_lt h a; omega
        · exact h
        · have := cntF_lt h b; omega
      · rw [if_neg b] at e
        have h1 := F.dom j hj
        have := (F.own j hj (o j).toNat (by omega)).1
        omega
    · rw [if_neg a] at e h0
      by_cases b : o j = -1
      · rw [if_pos b] at e
        have := (F.own i hi (o i).toNat (by omega)).1
        omega
      · rw [if_neg b] at e
        exact F.inj i j hi hj e h0
  · intro k hk
    unfold spareO
    by_cases a : o k = -1
    · rw [if_pos a]
      have := cntF_lt (o := o) (j := m) hk a
      exact ⟨n + cntF o k, by omega, by omega, (tight_high (by omega)).2 (F.free k hk a)⟩
    · rw [if_neg a]
      have h1 := F.dom k hk
      have h2 := F.own k hk (o k).toNat (by omega)
      exact ⟨(o k).toNat, by omega, by omega, (tight_low h2.1).2 h2.2⟩

/-- Behind the first rows that are settled. -/
structure Setl (m : Nat) (may : Nat → Nat → Bool) (o : Nat → Int) (kp : Nat → Bool) (tt : Nat → Nat) (i : Nat) : Prop where
  perf : Perf m may o
  kept : ∀ j, j < m → kp j = true → ∃ a, a < i ∧ tt a = j
  to : ∀ a, a < i → tt a < m ∧ o (tt a) = (a : Int) ∧ kp (tt a) = true
  lex : ∀ a, a < i → ∀ τ : Nat → Nat, (∀ q, q < m → τ q < m ∧ may q (τ q) = true) → (∀ p q, p < m → q < m → τ p = τ q → p = q) → (∀ b, b < a → τ b = tt b) → tt a ≤ τ a

theorem Setl.step {m : Nat} {may : Nat → Nat → Bool} {o : Nat → Int} {kept : Nat → Bool} {to : Nat → Nat} {i : Nat} (S : Setl m may o kept to i) (hi : i < m)
    {c0 : Nat} (hc0 : c0 < m) (e0 : o c0 = (i : Int)) {b : Bool} {o' : Nat → Int} {s' : Nat → Bool} (R : Room m may i 0 (upd o c0 (-1)) kept b o' s') :
    b = true ∧ ∃ z, z < m ∧ o' z = (i : Int) ∧ Setl m may o' (upd kept z true) (upd to i z) (i + 1) := by
  obtain ⟨h1, h2, h3, z, hz, ez, hkz, hlex⟩ := settle_step S.perf hi hc0 e0 S.kept S.to R
  refine ⟨h1, z, hz, ez, ⟨h2, fun j hj hk => ?_, fun a ha => ?_, fun a ha τ hτ hτi hp => ?_⟩⟩
  · by_cases e : j = z
    · exact ⟨i, by omega, by rw [upd_at, e]⟩
    · rw [upd_ne e] at hk
      obtain ⟨a, ha, e2⟩ := S.kept j hj hk
      exact ⟨a, by omega, by rw [upd_ne (by omega)]; exact e2⟩
  · by_cases e : a = i
    · subst e; rw [upd_at, upd_at]; exact ⟨hz, ez, rfl⟩
    · rw [upd_ne e]
      have h4 := S.to a (by omega)
      refine ⟨h4.1, h3 a (by omega), ?_⟩
      unfold upd; split
      · rfl
      · exact h4.2.2
  · by_cases e : a = i
    · subst e; rw [upd_at]
      exact hlex τ hτ hτi fun b hb => by rw [hp b hb, upd_ne (by omega)]
    · rw [upd_ne e]
      exact S.lex a (by omega) τ hτ hτi fun b hb => by rw [hp b hb, upd_ne (by omega)]

/-- The cheapest assignment, of several the lexicographically least one. -/
structure LexMin (n m : Nat) (c : Nat → Nat → Int) (to : Nat → Nat) : Prop where
  asg : Asg n m c to
  least : ∀ τ, Asg n m c τ → costN c to n ≤ costN c τ n
  lex : ∀ τ, Asg n m c τ → costN c τ n = costN c to n → ∀ a, a < n → (∀ b, b < a → τ b = to b) → to a ≤ τ a

/-- Prices that prove an assignment. -/
structure Proof (n m : Nat) (c : Nat → Nat → Int) (u v : Nat → Int) (to : Nat → Nat) : Prop where
  low : ∀ i k, i < n → k < m → c i k ≠ -1 → u i + v k ≤ c i k
  neg : ∀ k, k < m → v k ≤ 0
  own : ∀ i, i < n → u i + v (to i) = c i (to i)
  free : ∀ k, k < m → (∀ i, i < n → to i ≠ k) → v k = 0

theorem Proof.sum {n m : Nat} {c : Nat → Nat → Int} {u v : Nat → Int} {to : Nat → Nat} (P : Proof n m c u v to) (A : Asg n m c to) :
    costN c to n = sumN u n + sumN v m := by
  have hs := sum_cols (v := v) (rest := fun _ => 0) (fun i hi => (A.ok i hi).1) A.inj (fun k hk h => (P.free k hk h).symm) (fun _ _ => rfl)
  rw [sumN_zero (f := fun _ => (0 : Int)) fun _ _ => rfl] at hs
  have : costN c to n = sumN (fun i => u i + v (to i)) n := sumN_congr fun i hi => (P.own i hi).symm
  rw [this, sumN_add]; omega

theorem lexmin_of {n m : Nat} {c : Nat → Nat → Int} {u v o o' : Nat → Int} {B : Int} {kept : Nat → Bool} {to : Nat → Nat} (F : Fair n m c u v o B) (hh : ∀ q, q < n → Has m o q)
    (S : Setl m (tightT n c u v) o' kept to n) : LexMin n m c to ∧ Proof n m c u v to ∧ costN c to n = sumN u n + sumN v m := by
  obtain ⟨_, hnm⟩ := cnt_all F.inj hh
  have ht : ∀ i, i < n → to i < m ∧ c i (to i) ≠ -1 ∧ u i + v (to i) = c i (to i) := by
    intro i hi
    obtain ⟨h1, h2, _⟩ := S.to i hi
    obtain ⟨q, e, _, hm⟩ := S.perf.dom _ h1
    have : q = i := by omega
    subst this
    exact ⟨h1, (tight_low hi).1 hm⟩
  have A : Asg n m c to := by
    refine ⟨fun i hi => ⟨(ht i hi).1, (ht i hi).2.1⟩, fun i j hi hj e => ?_⟩
    have h1 := (S.to i hi).2.1
    have h2 := (S.to j hj).2.1
    rw [e] at h1; omega
  have P : Proof n m c u v to := by
    refine ⟨F.low, fun k hk => (F.neg k hk).1, fun i hi => (ht i hi).2.2, fun k hk hu => ?_⟩
    obtain ⟨q, e, hq, hm⟩ := S.perf.dom k hk
    refine (tight_high ?_).1 hm
    refine Nat.not_lt.1 fun hlt => ?_
    have h1 := S.to q hlt
    exact hu q hlt (S.perf.inj _ _ h1.1 hk (h1.2.1.trans e.symm) (by omega))
  have hsum := P.sum A
  refine ⟨⟨A, fun τ hτ => ?_, fun τ hτ he a ha hp => ?_⟩, P, hsum⟩
  · rw [hsum]; exact (dual P.low P.neg hτ).1
  · obtain ⟨g1, g2⟩ := (dual P.low P.neg hτ).2 (by omega)
    obtain ⟨σ, s1, s2, s3⟩ := extend hnm (fun i hi => (hτ.ok i hi).1) hτ.inj
    have := S.lex a ha σ (fun q hq => ⟨s2 q hq, ?_⟩) s3 (fun b hb => by rw [s1 b (by omega)]; exact hp b hb)
    · rwa [s1 a ha] at this
    · by_cases h : q < n
      · rw [s1 q h]; exact (tight_low h).2 ⟨(hτ.ok q h).2, g1 q h⟩
      · refine (tight_high (by omega)).2 (g2 _ (s2 q hq) fun i hi e => ?_)
        rw [← s1 i hi] at e
        have := s3 i q (by omega) hq e
        omega

/-- There is one such assignment. -/
theorem LexMin.unique {n m : Nat} {c : Nat → Nat → Int} {a b : Nat → Nat} (h : LexMin n m c a) (g : LexMin n m c b) :
    costN c a n = costN c b n ∧ ∀ i, i < n → a i = b i := by
  have e : costN c a n = costN c b n := Int.le_antisymm (h.least b g.asg) (g.least a h.asg)
  refine ⟨e, fun i => ?_⟩
  induction i using Nat.strongRecOn with
  | ind i ih =>
    intro hi
    have h1 := h.lex b g.asg e.symm i hi fun j hj => (ih j hj (by omega)).symm
    have h2 := g.lex a h.asg e i hi fun j hj => ih j hj (by omega)
    omega

end Go.Proofs.Ytncmfjncdhhjoaa
