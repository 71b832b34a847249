/- Plain: prices that prove an assignment, and the search for the cheapest way to a free column. -/
import Derived.Test.YtncmfjncdhhjoaaMCol
namespace Go.Proofs.Ytncmfjncdhhjoaa

/-- Prices that are fair, and prove the columns that rows have so far. -/
structure Fair (n m : Nat) (c : Nat → Nat → Int) (u v o : Nat → Int) (B : Int) : Prop where
  cost : ∀ i k, i < n → k < m → -1 ≤ c i k ∧ c i k ≤ 1000000000
  low : ∀ i k, i < n → k < m → c i k ≠ -1 → u i + v k ≤ c i k
  neg : ∀ k, k < m → v k ≤ 0 ∧ -B ≤ v k
  pos : ∀ i, i < n → 0 ≤ u i ∧ u i ≤ B
  dom : ∀ k, k < m → -1 ≤ o k
  own : ∀ k, k < m → ∀ q : Nat, o k = (q : Int) → q < n ∧ c q k ≠ -1 ∧ u q + v k = c q k
  free : ∀ k, k < m → o k = -1 → v k = 0
  inj : Inj m o

/-- Does a row bring a column nearer. -/
def nearer (c : Nat → Nat → Int) (u v : Nat → Int) (dn : Nat → Bool) (i : Nat) (a : Int) (d : Nat → Int) (k : Nat) : Bool :=
  c i k != -1 && (!dn k && decide (a + c i k - u i - v k < d k))
def widD (c : Nat → Nat → Int) (u v : Nat → Int) (dn : Nat → Bool) (i : Nat) (a : Int) (d : Nat → Int) (k : Nat) : Int :=
  if nearer c u v dn i a d k = true then a + c i k - u i - v k else d k
def widF (c : Nat → Nat → Int) (u v : Nat → Int) (dn : Nat → Bool) (i : Nat) (a fr : Int) (d f : Nat → Int) (k : Nat) : Int :=
  if nearer c u v dn i a d k = true then fr else f k

theorem nearer_t {c : Nat → Nat → Int} {u v : Nat → Int} {dn : Nat → Bool} {i : Nat} {a : Int} {d : Nat → Int} {k : Nat}
    (h : nearer c u v dn i a d k = true) : c i k ≠ -1 ∧ dn k = false ∧ a + c i k - u i - v k < d k := by
  unfold nearer at h; simpa using h
theorem nearer_f {c : Nat → Nat → Int} {u v : Nat → Int} {dn : Nat → Bool} {i : Nat} {a : Int} {d : Nat → Int} {k : Nat}
    (h : ¬ nearer c u v dn i a d k = true) (h1 : c i k ≠ -1) (h2 : dn k = false) : d k ≤ a + c i k - u i - v k := by
  refine Int.not_lt.1 fun h3 => h ?_
  unfold nearer; simp [h1, h2, h3]
theorem nearer_d {c : Nat → Nat → Int} {u v : Nat → Int} {dn : Nat → Bool} {i : Nat} {a : Int} {d : Nat → Int} {k : Nat}
    (h : dn k = true) : ¬ nearer c u v dn i a d k = true := by
  unfold nearer; simp [h]

/-- The search at its loop's head: D are the columns that are done, in their order. -/
structure Srch (n m : Nat) (c : Nat → Nat → Int) (u v o : Nat → Int) (r : Nat) (D : List Nat) (dn : Nat → Bool) (d f : Nat → Int) : Prop where
  nd : D.Nodup
  own : ∀ j, j ∈ D → j < m ∧ ∃ q : Nat, o j = (q : Int)
  mark : ∀ j, j < m → (dn j = true ↔ j ∈ D)
  rng : ∀ k, k < m → 0 ≤ d k ∧ d k ≤ 1152921504606846976
  way : ∀ k, k < m → d k < 1152921504606846976 → (f k = -1 ∧ c r k ≠ -1 ∧ d k = c r k - u r - v k) ∨
    (∃ j q : Nat, j ∈ D ∧ f k = (j : Int) ∧ o j = (q : Int) ∧ c q k ≠ -1 ∧ d k = d j + c q k - u q - v k ∧ (k ∈ D → D.idxOf j < D.idxOf k))
  relr : ∀ k, k < m → c r k ≠ -1 → d k ≤ c r k - u r - v k
  relax : ∀ k, k < m → ∀ j, j ∈ D → ∀ q : Nat, o j = (q : Int) → c q k ≠ -1 → d k ≤ d j + c q k - u q - v k
  mono : ∀ j, j ∈ D → ∀ k, k < m → k ∉ D → d j ≤ d k
  fin : ∀ j, j ∈ D → d j < 1152921504606846976
  low : ∀ j, j ∈ D → ∀ q : Nat, o j = (q : Int) → d j - u q ≤ (D.length : Int) * 1000000000
  up : ∀ k, k < m → d k < 1152921504606846976 → d k + v k ≤ ((D.length : Int) + 1) * 1000000000

theorem Srch.len {n m : Nat} {c : Nat → Nat → Int} {u v o : Nat → Int} {r : Nat} {D : List Nat} {dn : Nat → Bool} {d f : Nat → Int}
    (h : Srch n m c u v o r D dn d f) : D.length ≤ m := by
  have := nodup_le (l2 := List.range m) h.nd fun x hx => List.mem_range.2 (h.own x hx).1
  simpa using this
theorem Srch.len_lt {n m : Nat} {c : Nat → Nat → Int} {u v o : Nat → Int} {r : Nat} {D : List Nat} {dn : Nat → Bool} {d f : Nat → Int}
    (h : Srch n m c u v o r D dn d f) {k : Nat} (hk : k < m) (hn : k ∉ D) : D.length < m := by
  have := nodup_le (l1 := k :: D) (l2 := List.range m) (List.nodup_cons.2 ⟨hn, h.nd⟩) (by
    intro x hx
    rcases List.mem_cons.1 hx with rfl | hx
    · exact List.mem_range.2 hk
    · exact List.mem_range.2 (h.own x hx).1)
  simp only [List.length_cons, List.length_range] at this
  omega

theorem srch_start {n m : Nat} {c : Nat → Nat → Int} {u v o : Nat → Int} {B : Int} {r : Nat} (F : Fair n m c u v o B) (hr : r < n) :
    Srch n m c u v o r [] (fun _ => false) (widD c u v (fun _ => false) r 0 (fun _ => 1152921504606846976))
      (widF c u v (fun _ => false) r 0 (-1) (fun _ => 1152921504606846976) (fun _ => -1)) where
  nd := List.nodup_nil
  own := by simp
  mark := by simp
  rng := by
    intro k hk
    unfold widD; split
    · rename_i h
      have h5 : c r k ≠ -1 ∧ false = false ∧ 0 + c r k - u r - v k < 1152921504606846976 := nearer_t h
      have := F.low r k hr hk h5.1
      omega
    · dsimp only; omega
  way := by
    intro k hk hd
    refine .inl ?_
    unfold widD at hd ⊢; unfold widF
    split at hd
    · rename_i h
      rw [if_pos h, if_pos h]
      exact ⟨rfl, (nearer_t h).1, by omega⟩
    · exact absurd hd (by simp)
  relr := by
    intro k hk hc
    unfold widD; split
    · omega
    · rename_i h
      have h5 : 1152921504606846976 ≤ 0 + c r k - u r - v k := nearer_f h hc rfl
      dsimp only; omega
  relax := by simp
  mono := by simp
  fin := by simp
  low := by simp
  up := by
    intro k hk hd
    unfold widD at hd ⊢
    split at hd
    · rename_i h
      rw [if_pos h]
      have := F.cost r k hr hk
      have := F.pos r hr
      simp only [List.length_nil]; omega
    · exact absurd hd (by simp)

theorem idx_app {D : List Nat} {k j : Nat} (hj : j ∈ D) : (D ++ [k]).idxOf j = D.idxOf j := by rw [List.idxOf_append, if_pos hj]
theorem idx_new {D : List Nat} {k : Nat} (hk : k ∉ D) : (D ++ [k]).idxOf k = D.length := by
  rw [List.idxOf_append, if_neg hk]; simp

theorem srch_step {n m : Nat} {c : Nat → Nat → Int} {u v o : Nat → Int} {B : Int} {r : Nat} {D : List Nat} {dn : Nat → Bool} {d f : Nat → Int}
    (F : Fair n m c u v o B) (S : Srch n m c u v o r D dn d f) {k0 q0 : Nat} (hk : k0 < m) (hn : k0 ∉ D) (hf : d k0 < 1152921504606846976)
    (hl : ∀ k, k < m → k ∉ D → d k0 ≤ d k) (hq : o k0 = (q0 : Int)) :
    Srch n m c u v o r (D ++ [k0]) (upd dn k0 true) (widD c u v (upd dn k0 true) q0 (d k0) d)
      (widF c u v (upd dn k0 true) q0 (d k0) k0 d f) := by
  obtain ⟨hq1, hq2, hq3⟩ := F.own k0 hk q0 hq
  have hmark : ∀ j, j < m → (upd dn k0 true j = true ↔ j ∈ D ++ [k0]) := by
    intro j hj
    by_cases e : j = k0
    · subst e; rw [upd_at]; simp
    · rw [upd_ne e, S.mark j hj]; simp [e]
  have hsame : ∀ k, k < m → k ∈ D ++ [k0] → ¬ nearer c u v (upd dn k0 true) q0 (d k0) d k = true := fun k hk' hm => nearer_d ((hmark k hk').2 hm)
  have hdn : ∀ k, k < m → k ∉ D ++ [k0] → upd dn k0 true k = false := fun k hk' hm => by
    cases h : upd dn k0 true k with
    | false => rfl
    | true => exact absurd ((hmark k hk').1 h) hm
  have hD : ∀ j, j ∈ D ++ [k0] → j < m := by
    intro j hj
    rcases List.mem_append.1 hj with h | h
    · exact (S.own j h).1
    · rw [List.mem_singleton.1 h]; exact hk
  have hdd : ∀ j, j ∈ D ++ [k0] → widD c u v (upd dn k0 true) q0 (d k0) d j = d j := fun j hj => if_neg (hsame j (hD j hj) hj)
  have hle : ∀ k, widD c u v (upd dn k0 true) q0 (d k0) d k ≤ d k := by
    intro k; unfold widD; split
    · rename_i h; have := nearer_t h; omega
    · omega
  have hred : ∀ k, k < m → c q0 k ≠ -1 → 0 ≤ c q0 k - u q0 - v k := fun k hk' hc => by
    have := F.low q0 k hq1 hk' hc; omega
  have hc0 : 0 ≤ c q0 k0 := by have := F.cost q0 k0 hq1 hk; omega
  have hlow0 : d k0 - u q0 ≤ ((D.length : Int) + 1) * 1000000000 := by
    have := S.up k0 hk hf; omega
  have hlen : (((D ++ [k0]).length : Nat) : Int) = (D.length : Int) + 1 := by simp
  refine ⟨?_, ?_, hmark, ?_, ?_, ?_, ?_, ?_, ?_, ?_, ?_⟩
  · exact List.nodup_append.2 ⟨S.nd, by simp, by
      intro a ha b hb
      rw [List.mem_singleton.1 hb]
      rintro rfl; exact hn ha⟩
  · intro j hj
    refine ⟨hD j hj, ?_⟩
    rcases List.mem_append.1 hj with h | h
    · exact (S.own j h).2
    · rw [List.mem_singleton.1 h]; exact ⟨q0, hq⟩
  · intro k hk'
    have h1 := S.rng k hk'
    have h2 := hle k
    refine ⟨?_, by omega⟩
    unfold widD; split
    · rename_i h
      have h3 := hred k hk' (nearer_t h).1
      have h4 := S.rng k0 hk
      omega
    · exact h1.1
  · intro k hk' hd
    by_cases h : nearer c u v (upd dn k0 true) q0 (d k0) d k = true
    · refine .inr ⟨k0, q0, by simp, if_pos h, hq, (nearer_t h).1, ?_, fun hm => absurd h (hsame k hk' hm)⟩
      rw [hdd k0 (by simp)]
      exact if_pos h
    · have e1 : widD c u v (upd dn k0 true) q0 (d k0) d k = d k := if_neg h
      have e2 : widF c u v (upd dn k0 true) q0 (d k0) k0 d f k = f k := if_neg h
      rw [e1] at hd
      rw [e1, e2]
      rcases S.way k hk' hd with ⟨h1, h2, h3⟩ | ⟨j, q, h1, h2, h3, h4, h5, h6⟩
      · exact .inl ⟨h1, h2, h3⟩
      · refine .inr ⟨j, q, List.mem_append.2 (.inl h1), h2, h3, h4, ?_, fun hm => ?_⟩
        · rw [hdd j (List.mem_append.2 (.inl h1))]; exact h5
        · rw [idx_app h1]
          rcases List.mem_append.1 hm with h7 | h7
          · rw [idx_app h7]; exact h6 h7
          · rw [List.mem_singleton.1 h7, idx_new hn]
            exact List.idxOf_lt_length_of_mem h1
  · intro k hk' hc
    have := S.relr k hk' hc
    have := hle k
    omega
  · intro k hk' j hj q hjq hc
    rw [hdd j hj]
    rcases List.mem_append.1 hj with h | h
    · have := S.relax k hk' j h q hjq hc
      have := hle k
      omega
    · have e := List.mem_singleton.1 h; subst e
      have e : q0 = q := by have := hq.symm.trans hjq; omega
      subst e
      by_cases hm : k ∈ D ++ [j]
      · rw [hdd k hm]
        have h3 := hred k hk' hc
        rcases List.mem_append.1 hm with h7 | h7
        · have := S.mono k h7 j hk hn
          omega
        · rw [List.mem_singleton.1 h7] at h3 ⊢; omega
      · by_cases h8 : nearer c u v (upd dn j true) q0 (d j) d k = true
        · have e1 : widD c u v (upd dn j true) q0 (d j) d k = d j + c q0 k - u q0 - v k := if_pos h8
          omega
        · have e1 : widD c u v (upd dn j true) q0 (d j) d k = d k := if_neg h8
          have := nearer_f h8 hc (hdn k hk' hm)
          omega
  · intro j hj k hk' hm
    rw [hdd j hj]
    have h1 : d j ≤ d k0 := by
      rcases List.mem_append.1 hj with h | h
      · exact S.mono j h k0 hk hn
      · rw [List.mem_singleton.1 h]; omega
    have h2 := hl k hk' fun h => hm (List.mem_append.2 (.inl h))
    unfold widD; split
    · rename_i h
      have := hred k hk' (nearer_t h).1
      omega
    · omega
  · intro j hj
    rw [hdd j hj]
    rcases List.mem_append.1 hj with h | h
    · exact S.fin j h
    · rw [List.mem_singleton.1 h]; exact hf
  · intro j hj q hjq
    rw [hdd j hj, hlen]
    rcases List.mem_append.1 hj with h | h
    · have := S.low j h q hjq; omega
    · have e := List.mem_singleton.1 h; subst e
      have e : q0 = q := by have := hq.symm.trans hjq; omega
      subst e; exact hlow0
  · intro k hk' hd
    rw [hlen]
    by_cases h : nearer c u v (upd dn k0 true) q0 (d k0) d k = true
    · have e1 : widD c u v (upd dn k0 true) q0 (d k0) d k = d k0 + c q0 k - u q0 - v k := if_pos h
      have := F.cost q0 k hq1 hk'
      omega
    · have e1 : widD c u v (upd dn k0 true) q0 (d k0) d k = d k := if_neg h
      rw [e1] at hd
      have := S.up k hk' hd
      omega

/-- Which columns rows may have at all. -/
def mayC (c : Nat → Nat → Int) (i k : Nat) : Bool := c i k != -1
theorem mayC_iff {c : Nat → Nat → Int} {i k : Nat} : mayC c i k = true ↔ c i k ≠ -1 := by unfold mayC; simp

/-- An assignment of n rows to m columns. -/
structure Asg (n m : Nat) (c : Nat → Nat → Int) (τ : Nat → Nat) : Prop where
  ok : ∀ i, i < n → τ i < m ∧ c i (τ i) ≠ -1
  inj : ∀ i j, i < n → j < n → τ i = τ j → i = j

/-- A search that comes to an end without a free column: there is no assignment. -/
theorem srch_none {n m : Nat} {c : Nat → Nat → Int} {u v o : Nat → Int} {B : Int} {r : Nat} {D : List Nat} {dn : Nat → Bool} {d f : Nat → Int}
    (F : Fair n m c u v o B) (S : Srch n m c u v o r D dn d f) (hr : r < n) (hro : ¬ Has m o r) (hm : m ≤ 64) (hB : B ≤ 4096000000000)
    (hl : ∀ k, k < m → k ∉ D → 1152921504606846976 ≤ d k) {τ : Nat → Nat} (A : Asg n m c τ) : False := by
  have hlen := S.len
  have hX : Shut m (mayC c) o (fun j => j ∈ D) := by
    intro j hj hx
    obtain ⟨_, q, e⟩ := S.own j hx
    refine ⟨q, e, fun i hi hmy => ?_⟩
    refine Classical.byContradiction fun hn => ?_
    have hc := mayC_iff.1 hmy
    have h1 := S.relax i hi j hx q e hc
    have h2 := hl i hi hn
    have h3 := S.low j hx q e
    have h4 := F.neg i hi
    have h5 := F.cost q i (F.own j hj q e).1 hi
    omega
  have hcr : τ r < m ∧ τ r ∈ D := by
    obtain ⟨h1, h2⟩ := A.ok r hr
    refine ⟨h1, Classical.byContradiction fun hn => ?_⟩
    have h3 := S.relr (τ r) h1 h2
    have h4 := hl _ h1 hn
    have h5 := F.neg _ h1
    have h6 := F.pos r hr
    have h7 := F.cost r _ hr h1
    omega
  refine stuck hX F.inj hro hcr (fun q ⟨j, hj, hx, e⟩ => ?_) (fun p q hp hq e => ?_)
  · have := F.own j hj q e
    exact ⟨(A.ok q this.1).1, mayC_iff.2 (A.ok q this.1).2⟩
  · refine A.inj p q ?_ ?_ e
    · rcases hp with rfl | ⟨j, hj, _, e⟩
      · exact hr
      · exact (F.own j hj p e).1
    · rcases hq with rfl | ⟨j, hj, _, e⟩
      · exact hr
      · exact (F.own j hj q e).1

/-- The prices behind 'raise'. -/
structure Raised (n m : Nat) (u v o : Nat → Int) (r : Nat) (D : List Nat) (d : Nat → Int) (A : Int) (u' v' : Nat → Int) : Prop where
  row : u' r = u r + A
  tree : ∀ j, j ∈ D → ∀ q : Nat, o j = (q : Int) → u' q = u q + (A - d j)
  other : ∀ i, i < n → i ≠ r → (∀ j, j ∈ D → o j ≠ (i : Int)) → u' i = u i
  inD : ∀ k, k < m → k ∈ D → v' k = v k - (A - d k)
  outD : ∀ k, k < m → k ∉ D → v' k = v k

/-- Each owner on the way moves to the next column, the row to the first. -/
inductive Moves (f : Nat → Int) (r : Nat) : (Nat → Int) → Nat → (Nat → Int) → Prop
  | base {o : Nat → Int} {k : Nat} : f k = -1 → Moves f r o k (upd o k (r : Int))
  | step {o o' : Nat → Int} {k j : Nat} : f k = (j : Int) → Moves f r (upd o k (o j)) j o' → Moves f r o k o'

theorem Moves.good {n m : Nat} {c : Nat → Nat → Int} {u v o0 : Nat → Int} {r : Nat} {D : List Nat} {dn : Nat → Bool} {d f : Nat → Int}
    (S : Srch n m c u v o0 r D dn d f) (hro : ¬ Has m o0 r) {k0 : Nat} (hk0 : k0 ∉ D) {G : Nat → Nat → Prop}
    (hGr : ∀ k, (k ∈ D ∨ k = k0) → f k = -1 → G k r)
    (hGs : ∀ k, (k ∈ D ∨ k = k0) → ∀ j q : Nat, f k = (j : Int) → o0 j = (q : Int) → G k q)
    (hfs : ∀ k, (k ∈ D ∨ k = k0) → ∀ j : Nat, f k = (j : Int) → j ∈ D ∧ (k ∈ D → D.idxOf j < D.idxOf k))
    {o o' : Nat → Int} {k : Nat} (h : Moves f r o k o') (hk : k ∈ D ∨ k = k0) (hkm : k < m)
    (hin : Inj m (upd o k (-1))) (hrows : ∀ q : Nat, Has m (upd o k (-1)) q ↔ Has m o0 q)
    (hold : ∀ j, j ∈ D → (k ∈ D → D.idxOf j ≤ D.idxOf k) → o j = o0 j)
    (hG : ∀ j, j < m → j ≠ k → ∀ q : Nat, o j = (q : Int) → G j q)
    (hfree : ∀ j, j < m → j ≠ k → o j = -1 → o0 j = -1) (hdom : ∀ j, j < m → -1 ≤ o j) :
    Inj m o' ∧ (∀ q : Nat, Has m o' q ↔ Has m o0 q ∨ q = r) ∧ (∀ j, j < m → ∀ q : Nat, o' j = (q : Int) → G j q) ∧
      (∀ j, j < m → o' j = -1 → o0 j = -1) ∧ (∀ j, j < m → -1 ≤ o' j) := by
  induction h with
  | base e =>
    rename_i o k
    have hput := Adds.put (may := fun _ _ => true) (s := fun _ => false) (r := r) hkm (upd_at o k (-1)) hin (fun hh => hro ((hrows r).1 hh)) rfl rfl
    have e1 : upd (upd o k (-1)) k (r : Int) = upd o k (r : Int) := by
      funext j; unfold upd; split <;> rfl
    rw [e1] at hput
    refine ⟨hput.inj, fun q => by rw [hput.rows, hrows], fun j hj q eq => ?_, fun j hj eq => ?_, fun j hj => ?_⟩
    · by_cases e2 : j = k
      · subst e2; rw [upd_at] at eq
        have : r = q := by omega
        exact this ▸ hGr j hk e
      · rw [upd_ne e2] at eq; exact hG j hj e2 q eq
    · by_cases e2 : j = k
      · subst e2; rw [upd_at] at eq; omega
      · rw [upd_ne e2] at eq; exact hfree j hj e2 eq
    · by_cases e2 : j = k
      · subst e2; rw [upd_at]; omega
      · rw [upd_ne e2]; exact hdom j hj
  | step e hm ih =>
    rename_i o o' k j
    obtain ⟨hjD, hjk⟩ := hfs k hk j e
    obtain ⟨hjm, q, hjq⟩ := S.own j hjD
    have hjk' : j ≠ k := by
      rintro rfl
      rcases hk with h | h
      · have := hjk h; omega
      · exact hk0 (h ▸ hjD)
    have hoj : o j = (q : Int) := by rw [hold j hjD fun h => by have := hjk h; omega]; exact hjq
    have hidx : ∀ i, i ∈ D → D.idxOf i ≤ D.idxOf j → i ≠ k := by
      intro i hi hle
      rintro rfl
      rcases hk with h | h
      · have := hjk h; omega
      · exact hk0 (h ▸ hi)
    have hval : ∀ i, upd (upd o k (o j)) j (-1) i = if i = j then -1 else if i = k then (q : Int) else o i := by
      intro i; unfold upd; rw [hoj]
    have hv2 : ∀ i, upd o k (-1) i = if i = k then -1 else o i := fun i => rfl
    refine ih (.inl hjD) hjm ?_ ?_ ?_ ?_ ?_ ?_
    · intro a b ha hb eab h0
      rw [hval, hval] at eab
      rw [hval] at h0
      by_cases a1 : a = j
      · rw [if_pos a1] at h0; omega
      · rw [if_neg a1] at eab h0
        by_cases b1 : b = j
        · rw [if_pos b1] at eab; split at eab <;> omega
        · rw [if_neg b1] at eab
          by_cases a2 : a = k
          · by_cases b2 : b = k
            · omega
            · rw [if_pos a2, if_neg b2] at eab
              exact absurd (hin b j hb hjm (by rw [hv2, hv2, if_neg b2, if_neg hjk', ← eab, hoj]) (by rw [hv2, if_neg b2]; omega)) b1
          · by_cases b2 : b = k
            · rw [if_neg a2, if_pos b2] at eab
              exact absurd (hin a j ha hjm (by rw [hv2, hv2, if_neg a2, if_neg hjk', eab, hoj]) (by rw [hv2, if_neg a2]; omega)) a1
            · rw [if_neg a2, if_neg b2] at eab
              rw [if_neg a2] at h0
              exact hin a b ha hb (by rw [hv2, hv2, if_neg a2, if_neg b2]; exact eab) (by rw [hv2, if_neg a2]; exact h0)
    · intro p
      rw [← hrows]
      constructor
      · rintro ⟨i, hi, ei⟩
        rw [hval] at ei
        by_cases a1 : i = j
        · rw [if_pos a1] at ei; omega
        · rw [if_neg a1] at ei
          by_cases a2 : i = k
          · rw [if_pos a2] at ei; exact ⟨j, hjm, by rw [hv2, if_neg hjk', hoj]; exact ei⟩
          · rw [if_neg a2] at ei; exact ⟨i, hi, by rw [hv2, if_neg a2]; exact ei⟩
      · rintro ⟨i, hi, ei⟩
        rw [hv2] at ei
        by_cases a2 : i = k
        · rw [if_pos a2] at ei; omega
        · rw [if_neg a2] at ei
          by_cases a1 : i = j
          · subst a1; exact ⟨k, hkm, by rw [hval, if_neg (Ne.symm hjk'), if_pos rfl, ← hoj]; exact ei⟩
          · exact ⟨i, hi, by rw [hval, if_neg a1, if_neg a2]; exact ei⟩
    · intro i hi hle
      have h1 := hle hjD
      have h2 := hidx i hi h1
      rw [upd_ne h2]
      exact hold i hi fun h => by
        have := hjk h; omega
    · intro i hi hne p ep
      by_cases a2 : i = k
      · subst a2; rw [upd_at, hoj] at ep
        have : q = p := by omega
        exact this ▸ hGs i hk j q e hjq
      · rw [upd_ne a2] at ep; exact hG i hi a2 p ep
    · intro i hi hne ei
      by_cases a2 : i = k
      · subst a2; rw [upd_at, hoj] at ei; omega
      · rw [upd_ne a2] at ei; exact hfree i hi a2 ei
    · intro i hi
      by_cases a2 : i = k
      · subst a2; rw [upd_at, hoj]; omega
      · rw [upd_ne a2]; exact hdom i hi

/-- What 'way' says of the columns that are done and the one that is found. -/
theorem Srch.step_of {n m : Nat} {c : Nat → Nat → Int} {u v o : Nat → Int} {r : Nat} {D : List Nat} {dn : Nat → Bool} {d f : Nat → Int}
    (S : Srch n m c u v o r D dn d f) {k0 : Nat} (hk : k0 < m) (hf : d k0 < 1152921504606846976) {k : Nat} (h : k ∈ D ∨ k = k0) :
    k < m ∧ ((f k = -1 ∧ c r k ≠ -1 ∧ d k = c r k - u r - v k) ∨
    (∃ j q : Nat, j ∈ D ∧ f k = (j : Int) ∧ o j = (q : Int) ∧ c q k ≠ -1 ∧ d k = d j + c q k - u q - v k ∧ (k ∈ D → D.idxOf j < D.idxOf k))) := by
  rcases h with h | rfl
  · exact ⟨(S.own k h).1, S.way k (S.own k h).1 (S.fin k h)⟩
  · exact ⟨hk, S.way k hk hf⟩

/-- A search that finds a free column: the prices stay fair, and a row more has a column. -/
theorem srch_found {n m : Nat} {c : Nat → Nat → Int} {u v o : Nat → Int} {B : Int} {r : Nat} {D : List Nat} {dn : Nat → Bool} {d f : Nat → Int}
    (F : Fair n m c u v o B) (S : Srch n m c u v o r D dn d f) (hr : r < n) (hro : ¬ Has m o r) (hm : m ≤ 64)
    {k0 : Nat} (hk : k0 < m) (hn : k0 ∉ D) (hf : d k0 < 1152921504606846976) (hl : ∀ k, k < m → k ∉ D → d k0 ≤ d k) (hq : o k0 = -1)
    {u' v' o' : Nat → Int} (R : Raised n m u v o r D d (d k0) u' v') (M : Moves f r o k0 o') :
    Fair n m c u' v' o' (B + 64000000000) ∧ (∀ q : Nat, Has m o' q ↔ Has m o q ∨ q = r) := by
  have hlen := S.len_lt hk hn
  have hA : 0 ≤ d k0 ∧ d k0 ≤ 64000000000 := by
    have h1 := S.up k0 hk hf
    have h2 := F.free k0 hk hq
    have h3 := S.rng k0 hk
    omega
  have hdj : ∀ j, j ∈ D → 0 ≤ d j ∧ d j ≤ d k0 := fun j hj => ⟨(S.rng j (S.own j hj).1).1, S.mono j hj k0 hk hn⟩
  have hrq : ∀ j, j < m → ∀ q : Nat, o j = (q : Int) → q ≠ r := fun j hj q e h => hro ⟨j, hj, h ▸ e⟩
  have hkD : ∀ j, j ∈ D → j ≠ k0 := fun j hj e => hn (e ▸ hj)
  -- what a row has become
  have hcase : ∀ i, i < n → (i = r ∧ u' i = u i + d k0) ∨ (∃ j, j ∈ D ∧ o j = (i : Int) ∧ u' i = u i + (d k0 - d j)) ∨
      (i ≠ r ∧ (∀ j, j ∈ D → o j ≠ (i : Int)) ∧ u' i = u i) := by
    intro i hi
    by_cases e : i = r
    · exact .inl ⟨e, e ▸ R.row⟩
    · by_cases h : ∃ j, j ∈ D ∧ o j = (i : Int)
      · obtain ⟨j, hj, e2⟩ := h
        exact .inr (.inl ⟨j, hj, e2, R.tree j hj i e2⟩)
      · have h' : ∀ j, j ∈ D → o j ≠ (i : Int) := fun j hj e2 => h ⟨j, hj, e2⟩
        exact .inr (.inr ⟨e, h', R.other i hi e h'⟩)
  have hrel : ∀ k, k < m → (k ∈ D ∨ k = k0) → v' k = v k - (d k0 - d k) := by
    intro k hk' h
    rcases h with h | rfl
    · exact R.inD k hk' h
    · rw [R.outD k hk' hn]; omega
  have hGold : ∀ j, j < m → ∀ q : Nat, o j = (q : Int) → q < n ∧ c q j ≠ -1 ∧ u' q + v' j = c q j := by
    intro j hj q e
    obtain ⟨h1, h2, h3⟩ := F.own j hj q e
    refine ⟨h1, h2, ?_⟩
    by_cases hjD : j ∈ D
    · rw [R.tree j hjD q e, R.inD j hj hjD]; omega
    · rw [R.outD j hj hjD]
      rcases hcase q h1 with ⟨h4, _⟩ | ⟨i, hi, h4, _⟩ | ⟨_, _, h4⟩
      · exact absurd h4 (hrq j hj q e)
      · exact absurd (F.inj j i hj (S.own i hi).1 (e.trans h4.symm) (by omega) ▸ hi) hjD
      · omega
  have hGr : ∀ k, (k ∈ D ∨ k = k0) → f k = -1 → r < n ∧ c r k ≠ -1 ∧ u' r + v' k = c r k := by
    intro k h e
    obtain ⟨hkm, h1⟩ := S.step_of hk hf h
    rcases h1 with ⟨_, h2, h3⟩ | ⟨j, q, _, h2, _⟩
    · refine ⟨hr, h2, ?_⟩
      rw [R.row, hrel k hkm h]; omega
    · omega
  have hGs : ∀ k, (k ∈ D ∨ k = k0) → ∀ j q : Nat, f k = (j : Int) → o j = (q : Int) → q < n ∧ c q k ≠ -1 ∧ u' q + v' k = c q k := by
    intro k h j q e1 e2
    obtain ⟨hkm, h1⟩ := S.step_of hk hf h
    rcases h1 with ⟨h0, _⟩ | ⟨j', q', h1, h2, h3, h4, h5, _⟩
    · omega
    · have e : j' = j := by omega
      subst e
      have e : q' = q := by omega
      subst e
      refine ⟨(F.own j' (S.own j' h1).1 q' h3).1, h4, ?_⟩
      rw [R.tree j' h1 q' h3, hrel k hkm h]; omega
  have hfs : ∀ k, (k ∈ D ∨ k = k0) → ∀ j : Nat, f k = (j : Int) → j ∈ D ∧ (k ∈ D → D.idxOf j < D.idxOf k) := by
    intro k h j e1
    obtain ⟨hkm, h1⟩ := S.step_of hk hf h
    rcases h1 with ⟨h0, _⟩ | ⟨j', q', h1, h2, h3, h4, h5, h6⟩
    · omega
    · have e : j' = j := by omega
      subst e; exact ⟨h1, h6⟩
  have e0 : upd o k0 (-1) = o := by
    funext j; unfold upd; split
    · rename_i e; rw [e, hq]
    · rfl
  obtain ⟨g1, g2, g3, g4, g5⟩ := Moves.good (G := fun k q => q < n ∧ c q k ≠ -1 ∧ u' q + v' k = c q k) S hro hn hGr hGs hfs M (.inr rfl) hk
    (by rw [e0]; exact F.inj) (fun q => by rw [e0]) (fun _ _ _ => rfl) (fun j hj _ q e => hGold j hj q e) (fun _ _ _ e => e) F.dom
  refine ⟨⟨F.cost, ?_, ?_, ?_, g5, g3, ?_, g1⟩, g2⟩
  · intro i k hi hk' hc
    have h0 := F.low i k hi hk' hc
    by_cases hkk : k ∈ D
    · rw [R.inD k hk' hkk]
      rcases hcase i hi with ⟨rfl, h1⟩ | ⟨j, hj, h2, h1⟩ | ⟨_, _, h1⟩
      · have := S.relr k hk' hc; omega
      · have := S.relax k hk' j hj i h2 hc; omega
      · have := hdj k hkk; omega
    · rw [R.outD k hk' hkk]
      have h5 := hl k hk' hkk
      rcases hcase i hi with ⟨rfl, h1⟩ | ⟨j, hj, h2, h1⟩ | ⟨_, _, h1⟩
      · have := S.relr k hk' hc; omega
      · have := S.relax k hk' j hj i h2 hc; omega
      · omega
  · intro k hk'
    have h0 := F.neg k hk'
    by_cases hkk : k ∈ D
    · rw [R.inD k hk' hkk]
      have := hdj k hkk; omega
    · rw [R.outD k hk' hkk]; omega
  · intro i hi
    have h0 := F.pos i hi
    rcases hcase i hi with ⟨rfl, h1⟩ | ⟨j, hj, h2, h1⟩ | ⟨_, _, h1⟩
    · omega
    · have := hdj j hj; omega
    · omega
  · intro k hk' e
    have h1 := g4 k hk' e
    have h2 : k ∉ D := fun h => by
      obtain ⟨_, q, e2⟩ := S.own k h; omega
    rw [R.outD k hk' h2]
    exact F.free k hk' h1

/-- No way is longer than the columns that are done: what 'moveOn' does comes to an end. -/
def rankD (D : List Nat) (k : Nat) : Nat := if k ∈ D then D.idxOf k else D.length

end Go.Proofs.Ytncmfjncdhhjoaa
