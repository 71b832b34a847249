/- Plain: raising places by ties, round by round (Bellman and Ford); what stays is the least solution, what still rises leads back into a circle that is worth more than 0. -/
namespace Go.Proofs.Ytpaemlkikkcjiaa

/-- A function changed at one place. -/
def upd {α : Type} (f : Nat → α) (k : Nat) (v : α) : Nat → α := fun j => if j = k then v else f j
theorem upd_at {α : Type} (f : Nat → α) (k : Nat) (v : α) : upd f k v k = v := by simp [upd]
theorem upd_ne {α : Type} {f : Nat → α} {k j : Nat} {v : α} (h : j ≠ k) : upd f k v j = f j := by simp [upd, h]

/-- A tie between places; the ground is place 0. -/
structure Te where
  a : Nat
  b : Nat
  l : Int

/-- Heights, the tie by which each place was raised last, the place that was raised last in this round. -/
structure Ra where
  h : Nat → Int
  by_ : Nat → Nat
  r : Option Nat

def tieStep (i : Nat) (t : Te) (s : Ra) : Ra :=
  if s.h t.b < s.h t.a + t.l then ⟨upd s.h t.b (s.h t.a + t.l), upd s.by_ t.b i, some t.b⟩ else s
/-- After the first i ties. -/
def runT (ts : List Te) : Nat → Ra → Ra
  | 0, s => s
  | i + 1, s => match ts[i]? with | some t => tieStep i t (runT ts i s) | none => runT ts i s
theorem runT_succ {ts : List Te} {i : Nat} {t : Te} (h : ts[i]? = some t) (s : Ra) : runT ts (i + 1) s = tieStep i t (runT ts i s) := by
  simp [runT, h]
def clr (s : Ra) : Ra := ⟨s.h, s.by_, none⟩
def start : Ra := ⟨fun _ => 0, fun _ => 0, none⟩
/-- After k rounds. -/
def rnds (ts : List Te) : Nat → Ra
  | 0 => start
  | k + 1 => runT ts ts.length (clr (rnds ts k))

/-- What the heights owe to their ties. -/
def Sat (ts : List Te) (x : Nat → Int) : Prop := ∀ t, t ∈ ts → x t.a + t.l ≤ x t.b

structure Inv (n : Nat) (ts : List Te) (k i : Nat) (s : Ra) (R T : Nat → Nat) (now : Nat) : Prop where
  rk : ∀ p, R p ≤ k
  tn : ∀ p, T p ≤ now
  ex : ∀ p, R p = 0 ∨ 1 ≤ T p
  one : ∀ p q, 1 ≤ T p → T p = T q → p = q
  zero : ∀ p, 1 ≤ T p → 1 ≤ R p
  pre : ∀ p, 1 ≤ R p → ∃ t, ts[s.by_ p]? = some t ∧ t.b = p ∧ s.h p ≤ s.h t.a + t.l ∧ (T p < T t.a ∨ t.a = p → s.h p < s.h t.a + t.l) ∧ R p ≤ R t.a + 1
  tie : ∀ j t, ts[j]? = some t → R t.a < (if j < i then k else k - 1) → s.h t.a + t.l ≤ s.h t.b
  no : s.r = none → ∀ p, R p < k ∨ k = 0
  yes : ∀ p, s.r = some p → R p = k ∧ 1 ≤ k
  low : ∀ p, 1 ≤ R p → p ≤ n

theorem inv_start (n : Nat) (ts : List Te) : Inv n ts 0 ts.length start (fun _ => 0) (fun _ => 0) 0 := by
  constructor <;> intros <;> simp_all [start]

theorem inv_round {n : Nat} {ts : List Te} {k : Nat} {s : Ra} {R T : Nat → Nat} {now : Nat} (h : Inv n ts k ts.length s R T now) : Inv n ts (k + 1) 0 (clr s) R T now := by
  refine ⟨fun p => by have := h.rk p; omega, h.tn, h.ex, h.one, h.zero, h.pre, ?_, ?_, ?_, h.low⟩
  · intro j t hj hr
    have hlt : j < ts.length := (List.getElem?_eq_some_iff.1 hj).1
    refine h.tie j t hj ?_
    rw [if_pos hlt]
    simpa using hr
  · intro _ p; left; have := h.rk p; omega
  · intro p hp; simp [clr] at hp

theorem inv_step {n : Nat} {ts : List Te} {k i : Nat} {s : Ra} {R T : Nat → Nat} {now : Nat} (h : Inv n ts k i s R T now) (hk : 1 ≤ k) {t : Te} (ht : ts[i]? = some t) (hb : t.b ≤ n) :
    ∃ R' T' now', Inv n ts k (i + 1) (tieStep i t s) R' T' now' := by
  by_cases hlt : s.h t.b < s.h t.a + t.l
  · have hRa : k - 1 ≤ R t.a := by
      refine Nat.le_of_not_lt fun hr => ?_
      have := h.tie i t ht (by rw [if_neg (Nat.lt_irrefl i)]; exact hr)
      omega
    refine ⟨upd R t.b k, upd T t.b (now + 1), now + 1, ?_⟩
    have e : tieStep i t s = ⟨upd s.h t.b (s.h t.a + t.l), upd s.by_ t.b i, some t.b⟩ := by unfold tieStep; rw [if_pos hlt]
    rw [e]
    refine ⟨?_, ?_, ?_, ?_, ?_, ?_, ?_, ?_, ?_, ?_⟩
    · intro p; simp only [upd]; split
      · omega
      · exact h.rk p
    · intro p; simp only [upd]; split
      · omega
      · have := h.tn p; omega
    · intro p; simp only [upd]; split
      · right; omega
      · exact h.ex p
    · intro p q hp e
      simp only [upd] at hp e
      have hp1 := h.tn p
      have hq1 := h.tn q
      split at e <;> split at e
      · omega
      · omega
      · omega
      · rename_i h1 h2
        rw [if_neg h1] at hp
        exact h.one p q hp e
    · intro p hp
      simp only [upd] at hp ⊢
      split
      · omega
      · rename_i h1; rw [if_neg h1] at hp; exact h.zero p hp
    · intro p hp
      simp only [upd] at hp ⊢
      by_cases hpb : p = t.b
      · subst hpb
        simp only [if_true]
        refine ⟨t, ht, rfl, ?_, ?_, ?_⟩
        · split
          · rename_i h1; rw [h1] at hlt ⊢; omega
          · omega
        · intro hor
          by_cases hab : t.a = t.b
          · rw [if_pos hab, hab]; rw [hab] at hlt; omega
          · rw [if_neg hab] at hor
            rcases hor with h1 | h1
            · have := h.tn t.a; omega
            · exact absurd h1 hab
        · split <;> omega
      · rw [if_neg hpb] at hp
        obtain ⟨tp, h1, h2, h3, h4, h5⟩ := h.pre p hp
        rw [if_neg hpb, if_neg hpb]
        refine ⟨tp, h1, h2, ?_, ?_, ?_⟩
        · split
          · rename_i e1; rw [e1] at h3; omega
          · exact h3
        · intro hor
          split
          · rename_i e1; rw [e1] at h3; omega
          · rename_i e1
            refine h4 ?_
            rw [if_neg hpb, if_neg e1] at hor
            exact hor
        · rw [if_neg hpb]
          split
          · rename_i e1; have := h.rk p; omega
          · exact h5
    · intro j tj hj hr
      simp only [upd] at hr ⊢
      by_cases hab : tj.a = t.b
      · rw [if_pos hab] at hr
        split at hr <;> omega
      · rw [if_neg hab] at hr ⊢
        by_cases hji : j = i
        · subst hji
          rw [ht] at hj
          injection hj with hj
          subst hj
          simp
        · have hc : s.h tj.a + tj.l ≤ s.h tj.b := by
            refine h.tie j tj hj ?_
            have e1 : (j < i + 1) ↔ (j < i) := by omega
            simp only [e1] at hr
            exact hr
          split
          · rename_i e2; rw [e2] at hc; omega
          · exact hc
    · intro hn; simp at hn
    · intro p hp
      simp at hp
      subst hp
      simp [upd]; exact hk
    · intro p hp
      simp only [upd] at hp
      split at hp
      · rename_i e1; rw [e1]; exact hb
      · exact h.low p hp
  · have e : tieStep i t s = s := by unfold tieStep; rw [if_neg hlt]
    rw [e]
    refine ⟨R, T, now, h.rk, h.tn, h.ex, h.one, h.zero, h.pre, ?_, h.no, h.yes, h.low⟩
    intro j tj hj hr
    by_cases hji : j = i
    · subst hji
      rw [ht] at hj
      injection hj with hj
      subst hj
      omega
    · refine h.tie j tj hj ?_
      have e1 : (j < i + 1) ↔ (j < i) := by omega
      simp only [e1] at hr
      exact hr

theorem inv_run {n : Nat} {ts : List Te} (hb : ∀ t, t ∈ ts → t.b ≤ n) {k : Nat} (hk : 1 ≤ k) {s : Ra} {R T : Nat → Nat} {now : Nat} (h : Inv n ts k 0 s R T now) (i : Nat) (hi : i ≤ ts.length) :
    ∃ R' T' now', Inv n ts k i (runT ts i s) R' T' now' := by
  induction i with
  | zero => exact ⟨_, _, _, h⟩
  | succ i ih =>
    obtain ⟨R', T', now', h'⟩ := ih (by omega)
    have ht := List.getElem?_eq_getElem (l := ts) (i := i) (by omega)
    rw [runT_succ ht]
    exact inv_step h' hk ht (hb _ (List.getElem_mem _))
theorem inv_rnds {n : Nat} {ts : List Te} (hb : ∀ t, t ∈ ts → t.b ≤ n) (k : Nat) : ∃ R T now, Inv n ts k ts.length (rnds ts k) R T now := by
  induction k with
  | zero => exact ⟨_, _, _, inv_start n ts⟩
  | succ k ih =>
    obtain ⟨R, T, now, h⟩ := ih
    exact inv_run hb (by omega) (inv_round h) _ (Nat.le_refl _)

/-- Nothing was raised: every tie holds. -/
theorem sat_of_none {n : Nat} {ts : List Te} (hb : ∀ t, t ∈ ts → t.b ≤ n) {k : Nat} (h : (rnds ts (k + 1)).r = none) : Sat ts (rnds ts (k + 1)).h := by
  obtain ⟨R, T, now, hi⟩ := inv_rnds hb (k + 1)
  intro t ht
  obtain ⟨j, hj, e⟩ := List.mem_iff_getElem.1 ht
  have hj' : ts[j]? = some t := by rw [List.getElem?_eq_getElem hj, e]
  refine hi.tie j t hj' ?_
  rw [if_pos hj]
  rcases hi.no h t.a with h1 | h1
  · exact h1
  · omega

/-- The heights lie below every solution. -/
theorem run_le {ts : List Te} {x : Nat → Int} (hx : Sat ts x) {s : Ra} (hs : ∀ p, s.h p ≤ x p) (i : Nat) : ∀ p, (runT ts i s).h p ≤ x p := by
  induction i with
  | zero => exact hs
  | succ i ih =>
    unfold runT
    cases ht : ts[i]? with
    | none => exact ih
    | some t =>
      intro p
      simp only [tieStep]
      split
      · simp only [upd]
        split
        · rename_i e
          have := hx t (List.mem_of_getElem? ht)
          have := ih t.a
          rw [e]; omega
        · exact ih p
      · exact ih p
theorem rnds_le {ts : List Te} {x : Nat → Int} (hx : Sat ts x) (h0 : ∀ p, 0 ≤ x p) (k : Nat) : ∀ p, (rnds ts k).h p ≤ x p := by
  induction k with
  | zero => exact h0
  | succ k ih => exact run_le hx (s := clr (rnds ts k)) ih _
theorem run_up (ts : List Te) (s : Ra) (i : Nat) : ∀ p, s.h p ≤ (runT ts i s).h p := by
  induction i with
  | zero => intro p; exact Int.le_refl _
  | succ i ih =>
    unfold runT
    cases ht : ts[i]? with
    | none => exact ih
    | some t =>
      intro p
      simp only [tieStep]
      have := ih p
      split
      · simp only [upd]
        split
        · rename_i e; rw [e] at this ⊢; omega
        · exact this
      · exact this
theorem rnds_up (ts : List Te) (k : Nat) : ∀ p, 0 ≤ (rnds ts k).h p := by
  induction k with
  | zero => intro p; exact Int.le_refl _
  | succ k ih => intro p; have h1 := ih p; have h2 := run_up ts (clr (rnds ts k)) ts.length p; exact Int.le_trans h1 h2
/-- No step rises by more than M. -/
theorem run_cap {ts : List Te} {M : Int} (hM : 0 ≤ M) (hl : ∀ t, t ∈ ts → t.l ≤ M) {s : Ra} {C : Int} (hs : ∀ p, s.h p ≤ C) (i : Nat) : ∀ p, (runT ts i s).h p ≤ C + i * M := by
  induction i with
  | zero => intro p; have := hs p; simp only [runT]; omega
  | succ i ih =>
    have e : ((i + 1 : Nat) : Int) * M = (i : Int) * M + M := by rw [Int.natCast_add, Int.add_mul]; simp
    unfold runT
    cases ht : ts[i]? with
    | none => intro p; have := ih p; simp only; rw [e]; omega
    | some t =>
      intro p
      have h1 := hl t (List.mem_of_getElem? ht)
      have h2 := ih t.a
      have h3 := ih p
      simp only [tieStep]
      rw [e]
      split
      · simp only [upd]
        split <;> omega
      · omega
theorem rnds_cap {ts : List Te} {M : Int} (hM : 0 ≤ M) (hl : ∀ t, t ∈ ts → t.l ≤ M) (k : Nat) : ∀ p, (rnds ts k).h p ≤ (k : Int) * (ts.length * M) := by
  induction k with
  | zero => intro p; simp [rnds, start]
  | succ k ih =>
    intro p
    have := run_cap hM hl (s := clr (rnds ts k)) ih ts.length p
    have e : ((k + 1 : Nat) : Int) * (ts.length * M) = (k : Int) * (ts.length * M) + ts.length * M := by rw [Int.natCast_add, Int.add_mul]; simp
    rw [e]
    exact this

/-! The way back. -/
def prd (ts : List Te) (by_ : Nat → Nat) (p : Nat) : Nat := match ts[by_ p]? with | some t => t.a | none => 0
def wgt (ts : List Te) (by_ : Nat → Nat) (p : Nat) : Int := match ts[by_ p]? with | some t => t.l | none => 0
def bck (ts : List Te) (by_ : Nat → Nat) (p : Nat) : Nat → Nat
  | 0 => p
  | j + 1 => prd ts by_ (bck ts by_ p j)
theorem bck_add (ts : List Te) (by_ : Nat → Nat) (p i : Nat) : ∀ j, bck ts by_ p (i + j) = bck ts by_ (bck ts by_ p i) j
  | 0 => rfl
  | j + 1 => by rw [← Nat.add_assoc]; simp only [bck]; rw [bck_add ts by_ p i j]
def sumW (ts : List Te) (by_ : Nat → Nat) (p : Nat) : Nat → Int
  | 0 => 0
  | j + 1 => sumW ts by_ p j + wgt ts by_ (bck ts by_ p j)

/-- A circle of ties: m places, one behind the other, all different, that are worth more than 0. -/
structure Circ (ts : List Te) (by_ : Nat → Nat) (q m : Nat) : Prop where
  pos : 1 ≤ m
  back : bck ts by_ q m = q
  dist : ∀ i j, i < m → j < m → bck ts by_ q i = bck ts by_ q j → i = j
  tie : ∀ j, ∃ t, ts[by_ (bck ts by_ q j)]? = some t ∧ t.b = bck ts by_ q j ∧ t.a = bck ts by_ q (j + 1)
  sum : 0 < sumW ts by_ q m

theorem exists_rep (n : Nat) (f : Nat → Nat) (hf : ∀ j, j ≤ n → f j ≤ n) (F : Nat) (hF : F ≤ n) (hl : f (n + 1) = F) : ∃ i j, i < j ∧ j ≤ n + 1 ∧ f i = f j := by
  refine Classical.byContradiction fun hn => ?_
  have hinj : ∀ i j, i ≤ n + 1 → j ≤ n + 1 → f i = f j → i = j := by
    intro i j hi hj e
    rcases Nat.lt_trichotomy i j with h | h | h
    · exact absurd ⟨i, j, h, hj, e⟩ hn
    · exact h
    · exact absurd ⟨j, i, h, hi, e.symm⟩ hn
  have key : ∀ m, ∀ g : Nat → Nat, (∀ j, j ≤ m → g j < m) → ∃ i j, i < j ∧ j ≤ m ∧ g i = g j := by
    intro m
    induction m with
    | zero => intro g hg; have := hg 0 (Nat.le_refl _); omega
    | succ m ih =>
      intro g hg
      refine Classical.byContradiction fun hn => ?_
      have hi2 : ∀ i j, i ≤ m + 1 → j ≤ m + 1 → g i = g j → i = j := by
        intro i j hi hj e
        rcases Nat.lt_trichotomy i j with h | h | h
        · exact absurd ⟨i, j, h, hj, e⟩ hn
        · exact h
        · exact absurd ⟨j, i, h, hi, e.symm⟩ hn
      have hlast := hg (m + 1) (Nat.le_refl _)
      obtain ⟨i, j, hij, hj, e⟩ := ih (fun j => if g j = m then g (m + 1) else g j) (by
        intro j hj
        have h1 := hg j (by omega)
        have h2 : g j ≠ g (m + 1) := fun e => by have := hi2 j (m + 1) (by omega) (Nat.le_refl _) e; omega
        (try simp only)
        split
        · omega
        · omega)
      (try simp only at e)
      have h2 : ∀ j, j ≤ m → g j ≠ g (m + 1) := fun j hj e => by have := hi2 j (m + 1) (by omega) (Nat.le_refl _) e; omega
      split at e <;> split at e
      · exact absurd (hi2 i j (by omega) (by omega) (by omega)) (by omega)
      · exact absurd e.symm (h2 j hj)
      · exact absurd e (h2 i (by omega))
      · exact absurd (hi2 i j (by omega) (by omega) e) (by omega)
  obtain ⟨i, j, hij, hj, e⟩ := key (n + 1) f (by
    intro j hj
    rcases Nat.lt_or_ge j (n + 1) with h | h
    · have := hf j (by omega); omega
    · have : j = n + 1 := by omega
      rw [this, hl]; omega)
  exact hn ⟨i, j, hij, hj, e⟩

theorem max_of {f : Nat → Nat} : ∀ m, 1 ≤ m → ∃ j, j < m ∧ ∀ i, i < m → f i ≤ f j
  | 0, h => absurd h (by omega)
  | 1, _ => ⟨0, by omega, fun i hi => by have : i = 0 := by omega
                                         rw [this]; exact Nat.le_refl _⟩
  | m + 2, _ => by
    obtain ⟨j, hj, h⟩ := max_of (f := f) (m + 1) (by omega)
    rcases Nat.le_total (f j) (f (m + 1)) with h1 | h1
    · refine ⟨m + 1, by omega, fun i hi => ?_⟩
      rcases Nat.lt_or_ge i (m + 1) with h2 | h2
      · exact Nat.le_trans (h i h2) h1
      · have : i = m + 1 := by omega
        rw [this]; exact Nat.le_refl _
    · refine ⟨j, by omega, fun i hi => ?_⟩
      rcases Nat.lt_or_ge i (m + 1) with h2 | h2
      · exact h i h2
      · have : i = m + 1 := by omega
        rw [this]; exact h1

theorem least_of {P : Nat → Prop} {m : Nat} (h : P m) : ∃ k, P k ∧ k ≤ m ∧ ∀ j, j < k → ¬ P j := by
  induction m using Nat.strongRecOn with
  | _ m ih =>
    by_cases hx : ∃ j, j < m ∧ P j
    · obtain ⟨j, hj, hp⟩ := hx
      obtain ⟨k, h1, h2, h3⟩ := ih j hj hp
      exact ⟨k, h1, by omega, h3⟩
    · exact ⟨m, h, Nat.le_refl _, fun j hj hp => hx ⟨j, hj, hp⟩⟩

/-- What still rises in round n + 1 leads back into a circle, n + 1 steps behind. -/
theorem circ_of {n : Nat} {ts : List Te} (ha : ∀ t, t ∈ ts → t.a ≤ n) (hb : ∀ t, t ∈ ts → t.b ≤ n) {p : Nat} (h : (rnds ts (n + 1)).r = some p) :
    (∃ m, m ≤ n + 1 ∧ Circ ts (rnds ts (n + 1)).by_ (bck ts (rnds ts (n + 1)).by_ p (n + 1)) m) ∧
      (∀ j, ∃ t, ts[(rnds ts (n + 1)).by_ (bck ts (rnds ts (n + 1)).by_ p j)]? = some t ∧ t.b = bck ts (rnds ts (n + 1)).by_ p j ∧ t.a = bck ts (rnds ts (n + 1)).by_ p (j + 1)) ∧ p ≤ n := by
  obtain ⟨R, T, now, hi⟩ := inv_rnds hb (n + 1)
  generalize rnds ts (n + 1) = s at *
  have hR0 : R p = n + 1 := (hi.yes p h).1
  have pr : ∀ q, 1 ≤ R q → ∃ t, ts[s.by_ q]? = some t ∧ t.b = q ∧ t.a = prd ts s.by_ q ∧ t.l = wgt ts s.by_ q ∧ s.h q ≤ s.h (prd ts s.by_ q) + wgt ts s.by_ q ∧
      (T q < T (prd ts s.by_ q) ∨ prd ts s.by_ q = q → s.h q < s.h (prd ts s.by_ q) + wgt ts s.by_ q) ∧ R q ≤ R (prd ts s.by_ q) + 1 ∧ prd ts s.by_ q ≤ n := by
    intro q hq
    obtain ⟨t, h1, h2, h3, h4, h5⟩ := hi.pre q hq
    have e1 : prd ts s.by_ q = t.a := by unfold prd; rw [h1]
    have e2 : wgt ts s.by_ q = t.l := by unfold wgt; rw [h1]
    rw [e1, e2]
    exact ⟨t, h1, h2, rfl, rfl, h3, h4, h5, ha t (List.mem_of_getElem? h1)⟩
  have hRj : ∀ j, j ≤ n + 1 → n + 1 - j ≤ R (bck ts s.by_ p j) := by
    intro j
    induction j with
    | zero => intro _; simp only [bck]; omega
    | succ j ih =>
      intro hj
      have h1 := ih (by omega)
      obtain ⟨t, _, _, _, _, _, _, h5, _⟩ := pr (bck ts s.by_ p j) (by omega)
      simp only [bck]; omega
  have hle : ∀ j, j ≤ n → bck ts s.by_ p j ≤ n := fun j hj => hi.low _ (by have := hRj j (by omega); omega)
  have hlast : bck ts s.by_ p (n + 1) ≤ n := by
    obtain ⟨t, _, _, _, _, _, _, _, h6⟩ := pr (bck ts s.by_ p n) (by have := hRj n (by omega); omega)
    simp only [bck]; exact h6
  obtain ⟨i, j, hij, hj, e⟩ := exists_rep n (bck ts s.by_ p) hle _ hlast rfl
  have hper : ∀ k, i ≤ k → bck ts s.by_ p (k + (j - i)) = bck ts s.by_ p k := by
    intro k
    induction k with
    | zero => intro hk; have : i = 0 := by omega
              subst this; simp only [Nat.zero_add, Nat.sub_zero]; exact e.symm
    | succ k ih =>
      intro hk
      rcases Nat.lt_or_ge k i with h1 | h1
      · have h2 : i = k + 1 := by omega
        subst h2
        have : k + 1 + (j - (k + 1)) = j := by omega
        rw [this]; exact e.symm
      · have h2 : k + 1 + (j - i) = k + (j - i) + 1 := by omega
        rw [h2]; simp only [bck]; rw [ih h1]
  have hall : ∀ k, 1 ≤ R (bck ts s.by_ p k) := by
    intro k
    induction k using Nat.strongRecOn with
    | _ k ih =>
      rcases Nat.lt_or_ge n k with h1 | h1
      · have h2 := hper (k - (j - i)) (by omega)
        have h3 : k - (j - i) + (j - i) = k := by omega
        rw [h3] at h2
        rw [h2]
        exact ih _ (by omega)
      · have := hRj k (by omega); omega
  have hq : bck ts s.by_ (bck ts s.by_ p (n + 1)) (j - i) = bck ts s.by_ p (n + 1) := by
    rw [← bck_add]; exact hper (n + 1) (by omega)
  refine ⟨?_, fun j => ?_, hi.low p (by omega)⟩
  rotate_left
  · obtain ⟨t, h1, h2, h3, _⟩ := pr _ (hall j)
    exact ⟨t, h1, h2, h3⟩
  generalize hqe : bck ts s.by_ p (n + 1) = q at *
  have hallq : ∀ k, 1 ≤ R (bck ts s.by_ q k) := by intro k; rw [← hqe, ← bck_add]; exact hall _
  obtain ⟨m, ⟨hm1, hmq⟩, hmle, hmin⟩ := least_of (P := fun m => 1 ≤ m ∧ bck ts s.by_ q m = q) (m := j - i) ⟨by omega, hq⟩
  have hdist : ∀ a b, a < m → b < m → bck ts s.by_ q a = bck ts s.by_ q b → a = b := by
    have key : ∀ a b, a < b → b < m → bck ts s.by_ q a ≠ bck ts s.by_ q b := by
      intro a b hab hbm e1
      have h1 : bck ts s.by_ q (a + (m - b)) = q := by
        rw [bck_add, e1, ← bck_add]
        have : b + (m - b) = m := by omega
        rw [this]; exact hmq
      exact hmin (a + (m - b)) (by omega) ⟨by omega, h1⟩
    intro a b hai hbm e1
    rcases Nat.lt_trichotomy a b with h1 | h1 | h1
    · exact absurd e1 (key a b h1 hbm)
    · exact h1
    · exact absurd e1.symm (key b a h1 hai)
  refine ⟨m, by omega, hm1, hmq, hdist, ?_, ?_⟩
  · intro k
    obtain ⟨t, h1, h2, h3, _⟩ := pr _ (hallq k)
    exact ⟨t, h1, h2, h3⟩
  · -- the sum
    have tele : ∀ k, s.h (bck ts s.by_ q 0) - s.h (bck ts s.by_ q k) ≤ sumW ts s.by_ q k ∧
        ((∃ a, a < k ∧ s.h (bck ts s.by_ q a) < s.h (bck ts s.by_ q (a + 1)) + wgt ts s.by_ (bck ts s.by_ q a)) → s.h (bck ts s.by_ q 0) - s.h (bck ts s.by_ q k) < sumW ts s.by_ q k) := by
      intro k
      induction k with
      | zero => exact ⟨by simp [sumW], fun ⟨a, ha, _⟩ => by omega⟩
      | succ k ih =>
        obtain ⟨t, _, _, _, _, h1, _⟩ := pr _ (hallq k)
        have e1 : bck ts s.by_ q (k + 1) = prd ts s.by_ (bck ts s.by_ q k) := rfl
        rw [← e1] at h1
        refine ⟨by simp only [sumW]; have := ih.1; omega, ?_⟩
        rintro ⟨a, ha, hs⟩
        simp only [sumW]
        by_cases hak : a = k
        · subst hak; have := ih.1; omega
        · have := ih.2 ⟨a, by omega, hs⟩; omega
    have h0 := (tele m).2 ?_
    · have e1 : bck ts s.by_ q 0 = q := rfl
      rw [e1, hmq] at h0; omega
    · -- the place that was raised last, and what hangs on it
      obtain ⟨z, hz, hmax⟩ := max_of (f := fun a => T (bck ts s.by_ q a)) m hm1
      have hTz : 1 ≤ T (bck ts s.by_ q z) := by
        rcases hi.ex (bck ts s.by_ q z) with h1 | h1
        · have := hallq z; omega
        · exact h1
      -- the successor of z: index z - 1, or m - 1
      have hsucc : ∃ a, a < m ∧ bck ts s.by_ q (a + 1) = bck ts s.by_ q z := by
        rcases Nat.eq_zero_or_pos z with h1 | h1
        · subst h1
          refine ⟨m - 1, by omega, ?_⟩
          have : m - 1 + 1 = m := by omega
          rw [this, hmq]; rfl
        · refine ⟨z - 1, by omega, ?_⟩
          have : z - 1 + 1 = z := by omega
          rw [this]
      obtain ⟨a, ham, hae⟩ := hsucc
      refine ⟨a, ham, ?_⟩
      obtain ⟨t, _, _, _, _, _, h4, _⟩ := pr _ (hallq a)
      have e1 : bck ts s.by_ q (a + 1) = prd ts s.by_ (bck ts s.by_ q a) := rfl
      rw [← e1] at h4
      refine h4 ?_
      have h5 := hmax a ham
      rw [hae]
      rcases Nat.lt_or_ge (T (bck ts s.by_ q a)) (T (bck ts s.by_ q z)) with h6 | h6
      · exact .inl h6
      · right
        exact hi.one _ _ hTz (by (try simp only at h5); omega)

/-- Where there is a circle there is no solution. -/
theorem no_sat {ts : List Te} {by_ : Nat → Nat} {q m : Nat} (h : Circ ts by_ q m) (x : Nat → Int) (hx : Sat ts x) : False := by
  have tele : ∀ k, sumW ts by_ q k ≤ x (bck ts by_ q 0) - x (bck ts by_ q k) := by
    intro k
    induction k with
    | zero => simp [sumW]
    | succ k ih =>
      obtain ⟨t, h1, h2, h3⟩ := h.tie k
      have h4 := hx t (List.mem_of_getElem? h1)
      have e : wgt ts by_ (bck ts by_ q k) = t.l := by unfold wgt; rw [h1]
      simp only [sumW]
      rw [e, ← h3]; rw [h2] at h4; omega
  have h1 := tele m
  have h2 := h.sum
  rw [h.back] at h1
  have e : bck ts by_ q 0 = q := rfl
  rw [e] at h1
  omega
end Go.Proofs.Ytpaemlkikkcjiaa
