/- Plain: rows find columns by turning others out; an injective map of a finite set into itself; who is stuck. -/
namespace Go.Proofs.Ytncmfjncdhhjoaa

/-- A function changed at one place. -/
def upd {α : Type} (f : Nat → α) (k : Nat) (v : α) : Nat → α := fun j => if j = k then v else f j
theorem upd_at {α : Type} (f : Nat → α) (k : Nat) (v : α) : upd f k v k = v := by simp [upd]
theorem upd_ne {α : Type} {f : Nat → α} {k j : Nat} {v : α} (h : j ≠ k) : upd f k v j = f j := by simp [upd, h]

theorem nodup_le {l1 l2 : List Nat} (h : l1.Nodup) (hs : ∀ x, x ∈ l1 → x ∈ l2) : l1.length ≤ l2.length := by
  induction l1 generalizing l2 with
  | nil => simp
  | cons a t ih =>
    have ha : a ∈ l2 := hs a (by simp)
    rw [List.nodup_cons] at h
    have h1 := ih (l2 := l2.erase a) h.2 fun x hx => by
      refine (List.mem_erase_of_ne ?_).2 (hs x (by simp [hx]))
      rintro rfl; exact h.1 hx
    rw [List.length_erase_of_mem ha] at h1
    have h2 : 0 < l2.length := List.length_pos_of_mem ha
    simp only [List.length_cons]; omega

theorem onto_of {l1 l2 : List Nat} (h : l1.Nodup) (hs : ∀ x, x ∈ l1 → x ∈ l2) (hl : l2.length ≤ l1.length) : ∀ y, y ∈ l2 → y ∈ l1 := by
  intro y hy
  refine Classical.byContradiction fun hn => ?_
  have h1 := nodup_le (l1 := y :: l1) (l2 := l2) (List.nodup_cons.2 ⟨hn, h⟩) (by
    intro x hx
    rcases List.mem_cons.1 hx with rfl | hx
    · exact hy
    · exact hs x hx)
  simp only [List.length_cons] at h1; omega

theorem nodup_map {L : List Nat} {f : Nat → Nat} (h : L.Nodup) (hi : ∀ i j, i ∈ L → j ∈ L → f i = f j → i = j) : (L.map f).Nodup := by
  unfold List.Nodup at *
  rw [List.pairwise_map]
  exact h.imp_of_mem fun {a b} ha hb hne e => hne (hi a b ha hb e)

/-- An injective map of a finite set into itself meets all of it. -/
theorem pigeon {m : Nat} {X : Nat → Prop} {f : Nat → Nat} (hf : ∀ j, j < m → X j → f j < m ∧ X (f j))
    (hi : ∀ i j, i < m → j < m → X i → X j → f i = f j → i = j) {y : Nat} (hy : y < m) (hX : X y) : ∃ j, j < m ∧ X j ∧ f j = y := by
  classical
  have hm : ∀ j, j ∈ (List.range m).filter (fun j => decide (X j)) ↔ j < m ∧ X j := by intro j; simp
  have hn : ((List.range m).filter (fun j => decide (X j))).Nodup := List.Pairwise.filter _ List.nodup_range
  have h1 := onto_of (l1 := ((List.range m).filter (fun j => decide (X j))).map f) (l2 := (List.range m).filter (fun j => decide (X j)))
    (nodup_map hn fun i j hi' hj' e => hi i j ((hm i).1 hi').1 ((hm j).1 hj').1 ((hm i).1 hi').2 ((hm j).1 hj').2 e)
    (by
      intro x hx
      obtain ⟨j, hj, rfl⟩ := List.mem_map.1 hx
      exact (hm _).2 (hf j ((hm j).1 hj).1 ((hm j).1 hj).2))
    (by simp) y ((hm y).2 ⟨hy, hX⟩)
  obtain ⟨j, hj, e⟩ := List.mem_map.1 h1
  exact ⟨j, ((hm j).1 hj).1, ((hm j).1 hj).2, e⟩

/-- No column has two rows. -/
def Inj (m : Nat) (o : Nat → Int) : Prop := ∀ i j, i < m → j < m → o i = o j → 0 ≤ o i → i = j
/-- A row has a column. -/
def Has (m : Nat) (o : Nat → Int) (q : Nat) : Prop := ∃ j, j < m ∧ o j = (q : Int)
/-- A set of columns that all have rows, which may have no others. -/
def Shut (m : Nat) (may : Nat → Nat → Bool) (o : Nat → Int) (X : Nat → Prop) : Prop :=
  ∀ j, j < m → X j → ∃ q : Nat, o j = (q : Int) ∧ ∀ i, i < m → may q i = true → X i

/-- Who may only have columns of a shut set is stuck: the rows of the set and it cannot all have columns. -/
theorem stuck {m : Nat} {may : Nat → Nat → Bool} {o : Nat → Int} {X : Nat → Prop} {r : Nat} (hX : Shut m may o X) (hi : Inj m o) (hr : ¬ Has m o r)
    {τ : Nat → Nat} (hn : τ r < m ∧ X (τ r)) (ht : ∀ q, (∃ j, j < m ∧ X j ∧ o j = ((q : Nat) : Int)) → τ q < m ∧ may q (τ q) = true)
    (hτ : ∀ p q, (p = r ∨ ∃ j, j < m ∧ X j ∧ o j = ((p : Nat) : Int)) → (q = r ∨ ∃ j, j < m ∧ X j ∧ o j = ((q : Nat) : Int)) → τ p = τ q → p = q) : False := by
  have hq : ∀ j, j < m → X j → o j = (((o j).toNat : Nat) : Int) := by
    intro j hj hx; obtain ⟨q, e, _⟩ := hX j hj hx; rw [e]; simp
  have h := pigeon (m := m) (X := X) (f := fun j => τ (o j).toNat) (fun j hj hx => by
      obtain ⟨q, e, hc⟩ := hX j hj hx
      have e2 : (o j).toNat = q := by rw [e]; simp
      have := ht q ⟨j, hj, hx, e⟩
      simp only [e2]
      exact ⟨this.1, hc _ this.1 this.2⟩)
    (fun i j hi' hj' hxi hxj e => by
      have := hτ _ _ (.inr ⟨i, hi', hxi, hq i hi' hxi⟩) (.inr ⟨j, hj', hxj, hq j hj' hxj⟩) e
      refine hi i j hi' hj' ?_ ?_
      · rw [hq i hi' hxi, hq j hj' hxj, this]
      · rw [hq i hi' hxi]; omega)
    hn.1 hn.2
  obtain ⟨j, hj, hx, e⟩ := h
  have := hτ _ _ (.inr ⟨j, hj, hx, hq j hj hx⟩) (.inl rfl) e
  exact hr ⟨j, hj, by rw [hq j hj hx, this]⟩

/-- The search for a column of a row from a column on: what it finds, the owners and the columns seen behind it. -/
inductive Room (m : Nat) (may : Nat → Nat → Bool) : Nat → Nat → (Nat → Int) → (Nat → Bool) → Bool → (Nat → Int) → (Nat → Bool) → Prop
  | done {r k : Nat} {o : Nat → Int} {s : Nat → Bool} : m ≤ k → Room m may r k o s false o s
  | skip {r k : Nat} {o o' : Nat → Int} {s s' : Nat → Bool} {b : Bool} : k < m → (s k || !may r k) = true → Room m may r (k + 1) o s b o' s' → Room m may r k o s b o' s'
  | free {r k : Nat} {o : Nat → Int} {s : Nat → Bool} : k < m → s k = false → may r k = true → o k = -1 → Room m may r k o s true (upd o k (r : Int)) (upd s k true)
  | move {r k q : Nat} {o o' : Nat → Int} {s s' : Nat → Bool} : k < m → s k = false → may r k = true → o k = (q : Int) → Room m may q 0 o (upd s k true) true o' s' → Room m may r k o s true (upd o' k (r : Int)) s'
  | stay {r k q : Nat} {o o1 o' : Nat → Int} {s s1 s' : Nat → Bool} {b : Bool} : k < m → s k = false → may r k = true → o k = (q : Int) → Room m may q 0 o (upd s k true) false o1 s1 → Room m may r (k + 1) o1 s1 b o' s' → Room m may r k o s b o' s'

theorem Room.det {m : Nat} {may : Nat → Nat → Bool} {r k : Nat} {o o1 o2 : Nat → Int} {s s1 s2 : Nat → Bool} {b1 b2 : Bool}
    (h : Room m may r k o s b1 o1 s1) (g : Room m may r k o s b2 o2 s2) : b1 = b2 ∧ o1 = o2 ∧ s1 = s2 := by
  induction h generalizing b2 o2 s2 with
  | done hk => cases g <;> first | exact ⟨rfl, rfl, rfl⟩ | omega
  | skip hk hs _ ih =>
    cases g with
    | done hk' => omega
    | skip _ _ g => exact ih g
    | free _ h1 h2 _ => simp [h1, h2] at hs
    | move _ h1 h2 _ _ => simp [h1, h2] at hs
    | stay _ h1 h2 _ _ _ => simp [h1, h2] at hs
  | free hk h1 h2 h3 =>
    cases g with
    | done hk' => omega
    | skip _ hs g => simp [h1, h2] at hs
    | free _ _ _ _ => exact ⟨rfl, rfl, rfl⟩
    | move _ _ _ h3' _ => omega
    | stay _ _ _ h3' _ _ => omega
  | move hk h1 h2 h3 _ ih =>
    cases g with
    | done hk' => omega
    | skip _ hs g => simp [h1, h2] at hs
    | free _ _ _ h3' => omega
    | move _ _ _ h3' g =>
      have e := Int.ofNat.inj (h3.symm.trans h3'); subst e
      obtain ⟨_, rfl, rfl⟩ := ih g; exact ⟨rfl, rfl, rfl⟩
    | stay _ _ _ h3' g _ =>
      have e := Int.ofNat.inj (h3.symm.trans h3'); subst e
      exact absurd (ih g).1 (by simp)
  | stay hk h1 h2 h3 _ _ ih ih2 =>
    cases g with
    | done hk' => omega
    | skip _ hs g => simp [h1, h2] at hs
    | free _ _ _ h3' => omega
    | move _ _ _ h3' g =>
      have e := Int.ofNat.inj (h3.symm.trans h3'); subst e
      exact absurd (ih g).1 (by simp)
    | stay _ _ _ h3' g g2 =>
      have e := Int.ofNat.inj (h3.symm.trans h3'); subst e
      obtain ⟨_, rfl, rfl⟩ := ih g
      exact ih2 g2

/-- What is seen stays seen, and its owners stay. -/
theorem Room.frame {m : Nat} {may : Nat → Nat → Bool} {r k : Nat} {o o' : Nat → Int} {s s' : Nat → Bool} {b : Bool}
    (h : Room m may r k o s b o' s') : (∀ j, s j = true → s' j = true ∧ o' j = o j) ∧ (b = false → o' = o) := by
  induction h with
  | done hk => exact ⟨fun j hj => ⟨hj, rfl⟩, fun _ => rfl⟩
  | skip hk hs hh ih => exact ih
  | free hk h1 h2 h3 =>
    rename_i r k o s
    refine ⟨fun j hj => ?_, fun e => by simp at e⟩
    have hne : j ≠ k := fun e => by rw [e, h1] at hj; simp at hj
    rw [upd_ne hne, upd_ne hne]; exact ⟨hj, rfl⟩
  | move hk h1 h2 h3 ha ih =>
    rename_i r k q o o' s s'
    refine ⟨fun j hj => ?_, fun e => by simp at e⟩
    have hne : j ≠ k := fun e => by rw [e, h1] at hj; simp at hj
    rw [upd_ne hne]
    exact ih.1 j (by rw [upd_ne hne]; exact hj)
  | stay hk h1 h2 h3 ha hc ih ih2 =>
    rename_i r k q o o1 o' s s1 s' b
    have e := ih.2 rfl; subst e
    refine ⟨fun j hj => ?_, fun e => ih2.2 e⟩
    have hne : j ≠ k := fun e => by rw [e, h1] at hj; simp at hj
    exact ih2.1 j (ih.1 j (by rw [upd_ne hne]; exact hj)).1

/-- Owners are rows or nobody. -/
theorem Room.dom {m : Nat} {may : Nat → Nat → Bool} {r k : Nat} {o o' : Nat → Int} {s s' : Nat → Bool} {b : Bool}
    (h : Room m may r k o s b o' s') (hd : ∀ j, j < m → -1 ≤ o j) : ∀ j, j < m → -1 ≤ o' j := by
  induction h with
  | done hk => exact hd
  | skip hk hs _ ih => exact ih hd
  | free hk h1 h2 h3 =>
    intro j hj; unfold upd; split
    · omega
    · exact hd j hj
  | move hk h1 h2 h3 _ ih =>
    intro j hj; unfold upd; split
    · omega
    · exact ih hd j hj
  | stay hk h1 h2 h3 _ _ ih ih2 => exact ih2 (ih hd)

/-- What a search in vain has come to: columns that have rows, which may have nothing else. -/
theorem Room.vain {m : Nat} {may : Nat → Nat → Bool} {r k : Nat} {o o' : Nat → Int} {s s' : Nat → Bool} {b : Bool}
    (h : Room m may r k o s b o' s') (hb : b = false) :
    (∀ j, j < m → s j = false → s' j = true → ∃ q : Nat, o j = (q : Int) ∧ ∀ i, i < m → may q i = true → s' i = true) ∧
    (∀ i, k ≤ i → i < m → may r i = true → s' i = true) := by
  induction h with
  | done hk => exact ⟨fun j _ hj hj' => by rw [hj] at hj'; simp at hj', fun i hi hi' _ => by omega⟩
  | skip hk hs hh ih =>
    rename_i r k o o' s s' b
    refine ⟨(ih hb).1, fun i hi hi' hm => ?_⟩
    by_cases e : i = k
    · subst e
      simp [hm] at hs
      exact (hh.frame.1 _ hs).1
    · exact (ih hb).2 i (by omega) hi' hm
  | free hk h1 h2 h3 => simp at hb
  | move hk h1 h2 h3 _ ih => simp at hb
  | stay hk h1 h2 h3 ha hc ih ih2 =>
    rename_i r k q o o1 o' s s1 s' b
    have e := ha.frame.2 rfl; subst e
    have hk' : s' k = true := (hc.frame.1 k (ha.frame.1 k (upd_at _ _ _)).1).1
    refine ⟨fun j hj hj0 hj1 => ?_, fun i hi hi' hm => ?_⟩
    · by_cases ej : j = k
      · subst ej
        exact ⟨q, h3, fun i hi hm => (hc.frame.1 i ((ih rfl).2 i (by omega) hi hm)).1⟩
      · by_cases e1 : s1 j = true
        · obtain ⟨p, ep, hp⟩ := (ih rfl).1 j hj (by rw [upd_ne ej]; exact hj0) e1
          exact ⟨p, ep, fun i hi hm => (hc.frame.1 i (hp i hi hm)).1⟩
        · exact (ih2 hb).1 j hj (by simpa using e1) hj1
    · by_cases e : i = k
      · subst e; exact hk'
      · exact (ih2 hb).2 i (by omega) hi' hm

/-- A search changes nothing of a shut set; who finds a column may have one outside. -/
theorem Room.shut {m : Nat} {may : Nat → Nat → Bool} {r k : Nat} {o o' : Nat → Int} {s s' : Nat → Bool} {b : Bool}
    (h : Room m may r k o s b o' s') {X : Nat → Prop} (hX : Shut m may o X) : (∀ j, X j → o' j = o j) ∧ (b = true → ∃ i, i < m ∧ may r i = true ∧ ¬ X i) := by
  induction h with
  | done hk => exact ⟨fun j hj => rfl, fun e => by simp at e⟩
  | skip hk hs hh ih => exact ih hX
  | free hk h1 h2 h3 =>
    rename_i r k o s
    have hn : ¬ X k := fun hx => by
      obtain ⟨q, e, _⟩ := hX k hk hx; omega
    exact ⟨fun j hj => upd_ne fun e => hn (by rw [← e]; exact hj), fun _ => ⟨k, hk, h2, hn⟩⟩
  | move hk h1 h2 h3 ha ih =>
    rename_i r k q o o' s s'
    obtain ⟨i, hi, hm, hx⟩ := (ih hX).2 rfl
    have hn : ¬ X k := fun hx' => by
      obtain ⟨p, e, hq⟩ := hX k hk hx'
      have e : q = p := by omega
      subst e
      exact hx (hq i hi hm)
    exact ⟨fun j hj => by rw [upd_ne fun e => hn (by rw [← e]; exact hj)]; exact (ih hX).1 j hj, fun _ => ⟨k, hk, h2, hn⟩⟩
  | stay hk h1 h2 h3 ha hc ih ih2 =>
    have e := ha.frame.2 rfl; subst e
    exact ih2 hX

/-- Behind a search that finds: a row more has a column. -/
structure Adds (m : Nat) (may : Nat → Nat → Bool) (s : Nat → Bool) (r : Nat) (t t' : Nat → Int) : Prop where
  inj : Inj m t'
  rows : ∀ q : Nat, Has m t' q ↔ Has m t q ∨ q = r
  edge : ∀ j, j < m → ∀ q : Nat, t' j = (q : Int) → t j = (q : Int) ∨ may q j = true
  same : ∀ j, s j = true → t' j = t j
  one : ∃ z, z < m ∧ t z = -1 ∧ t' z ≠ -1 ∧ ∀ j, j < m → t' j = -1 → t j = -1

/-- A row that has no column gets a free one. -/
theorem Adds.put {m : Nat} {may : Nat → Nat → Bool} {s : Nat → Bool} {r k : Nat} {t : Nat → Int} (hk : k < m) (ht : t k = -1) (hi : Inj m t) (hr : ¬ Has m t r)
    (hm : may r k = true) (hs : s k = false) : Adds m may s r t (upd t k (r : Int)) where
  inj := by
    intro i j hi' hj' e h0
    by_cases e1 : i = k
    · by_cases e2 : j = k
      · omega
      · subst e1; rw [upd_at, upd_ne e2] at e; exact absurd ⟨j, hj', e.symm⟩ hr
    · by_cases e2 : j = k
      · subst e2; rw [upd_at, upd_ne e1] at e; exact absurd ⟨i, hi', e⟩ hr
      · rw [upd_ne e1, upd_ne e2] at e; rw [upd_ne e1] at h0; exact hi i j hi' hj' e h0
  rows := by
    intro q
    constructor
    · rintro ⟨j, hj, e⟩
      by_cases e1 : j = k
      · subst e1; rw [upd_at] at e; exact .inr (by omega)
      · rw [upd_ne e1] at e; exact .inl ⟨j, hj, e⟩
    · rintro (⟨j, hj, e⟩ | rfl)
      · refine ⟨j, hj, ?_⟩
        rw [upd_ne fun e1 => by rw [e1, ht] at e; omega]; exact e
      · exact ⟨k, hk, upd_at _ _ _⟩
  edge := by
    intro j hj q e
    by_cases e1 : j = k
    · subst e1; rw [upd_at] at e
      have : r = q := by omega
      exact .inr (this ▸ hm)
    · rw [upd_ne e1] at e; exact .inl e
  same := by
    intro j hj
    exact upd_ne fun e => by rw [e, hs] at hj; simp at hj
  one := ⟨k, hk, ht, by rw [upd_at]; omega, fun j hj e => by
    by_cases e1 : j = k
    · rw [e1, upd_at] at e; omega
    · rwa [upd_ne e1] at e⟩

theorem Room.adds {m : Nat} {may : Nat → Nat → Bool} {r k : Nat} {o o' : Nat → Int} {s s' : Nat → Bool} {b : Bool}
    (h : Room m may r k o s b o' s') (hb : b = true) {t : Nat → Int} (ht : ∀ j, s j = false → t j = o j) (hi : Inj m t) (hr : ¬ Has m t r) :
    Adds m may s r t (fun j => if s j = true then t j else o' j) := by
  induction h generalizing t with
  | done hk => simp at hb
  | skip hk hs _ ih => exact ih hb ht hi hr
  | free hk h1 h2 h3 =>
    rename_i r k o s
    have e : (fun j => if s j = true then t j else upd o k (r : Int) j) = upd t k (r : Int) := by
      funext j
      by_cases e1 : j = k
      · subst e1; rw [if_neg (by simp [h1]), upd_at, upd_at]
      · rw [upd_ne e1, upd_ne e1]
        by_cases e2 : s j = true
        · rw [if_pos e2]
        · rw [if_neg e2, ht j (by simpa using e2)]
    rw [e]
    exact Adds.put hk ((ht k h1).trans h3) hi hr h2 h1
  | move hk h1 h2 h3 ha ih =>
    rename_i r k q o o' s s'
    have htk : t k = (q : Int) := (ht k h1).trans h3
    have hi1 : Inj m (upd t k (-1)) := by
      intro i j hi' hj' e h0
      by_cases e1 : i = k
      · subst e1; rw [upd_at] at h0; omega
      · by_cases e2 : j = k
        · subst e2; rw [upd_at] at e; omega
        · rw [upd_ne e1, upd_ne e2] at e; rw [upd_ne e1] at h0; exact hi i j hi' hj' e h0
    have hq1 : ¬ Has m (upd t k (-1)) q := by
      rintro ⟨j, hj, e⟩
      by_cases e1 : j = k
      · subst e1; rw [upd_at] at e; omega
      · rw [upd_ne e1] at e; exact e1 (hi j k hj hk (e.trans htk.symm) (by omega))
    have A := ih rfl (t := upd t k (-1)) (fun j hj => by
      have e1 : j ≠ k := fun e => by rw [e, upd_at] at hj; simp at hj
      rw [upd_ne e1]; rw [upd_ne e1] at hj; exact ht j hj) hi1 hq1
    generalize hT : (fun j => if upd s k true j = true then upd t k (-1) j else o' j) = T at A
    have hTk : T k = -1 := by rw [← hT]; simp only [upd_at, if_true]
    have hrT : ¬ Has m T r := by
      intro hh
      rcases (A.rows r).1 hh with ⟨j, hj, e⟩ | e
      · by_cases e1 : j = k
        · subst e1; rw [upd_at] at e; omega
        · rw [upd_ne e1] at e; exact hr ⟨j, hj, e⟩
      · exact hr ⟨k, hk, by rw [htk, e]⟩
    have e : (fun j => if s j = true then t j else upd o' k (r : Int) j) = upd T k (r : Int) := by
      funext j
      by_cases e1 : j = k
      · subst e1; rw [if_neg (by simp [h1]), upd_at, upd_at]
      · rw [upd_ne e1, upd_ne e1, ← hT]
        simp only [upd_ne e1]
    rw [e]
    have B := Adds.put (may := may) (s := s) hk hTk A.inj hrT h2 h1
    refine ⟨B.inj, fun p => ?_, fun j hj p ep => ?_, fun j hj => ?_, ?_⟩
    · rw [B.rows, A.rows]
      constructor
      · rintro ((⟨j, hj, e⟩ | rfl) | rfl)
        · by_cases e1 : j = k
          · subst e1; rw [upd_at] at e; omega
          · rw [upd_ne e1] at e; exact .inl ⟨j, hj, e⟩
        · exact .inl ⟨k, hk, htk⟩
        · exact .inr rfl
      · rintro (⟨j, hj, e⟩ | rfl)
        · by_cases e1 : j = k
          · subst e1; exact .inl (.inr (by omega))
          · exact .inl (.inl ⟨j, hj, by rw [upd_ne e1]; exact e⟩)
        · exact .inr rfl
    · rcases B.edge j hj p ep with h | h
      · rcases A.edge j hj p h with h' | h'
        · by_cases e1 : j = k
          · subst e1; rw [upd_at] at h'; omega
          · rw [upd_ne e1] at h'; exact .inl h'
        · exact .inr h'
      · exact .inr h
    · have e1 : j ≠ k := fun e => by rw [e, h1] at hj; simp at hj
      rw [upd_ne e1, A.same j (by rw [upd_ne e1]; exact hj), upd_ne e1]
    · obtain ⟨z, hz, hz1, hz2, hz3⟩ := A.one
      have e1 : z ≠ k := fun e => by rw [e, hTk] at hz2; exact hz2 rfl
      refine ⟨z, hz, by rwa [upd_ne e1] at hz1, by rwa [upd_ne e1], fun j hj e => ?_⟩
      by_cases e2 : j = k
      · subst e2; rw [upd_at] at e; omega
      · rw [upd_ne e2] at e
        have := hz3 j hj e
        rwa [upd_ne e2] at this
  | stay hk h1 h2 h3 ha hc ih ih2 =>
    rename_i r k q o o1 o' s s1 s' b
    have e := ha.frame.2 rfl; subst e
    have hss : ∀ j, s j = true → s1 j = true := fun j hj => by
      have e1 : j ≠ k := fun e => by rw [e, h1] at hj; simp at hj
      exact (ha.frame.1 j (by rw [upd_ne e1]; exact hj)).1
    have hf : ∀ j, s1 j = false → s j = false := fun j hj => by
      cases hsj : s j with
      | false => rfl
      | true => rw [hss j hsj] at hj; simp at hj
    have A := ih2 hb (t := t) (fun j hj => ht j (hf j hj)) hi hr
    have e : (fun j => if s1 j = true then t j else o' j) = (fun j => if s j = true then t j else o' j) := by
      funext j
      by_cases e1 : s j = true
      · rw [if_pos e1, if_pos (hss j e1)]
      · rw [if_neg e1]
        by_cases e2 : s1 j = true
        · rw [if_pos e2, (hc.frame.1 j e2).2, ht j (by simpa using e1)]
        · rw [if_neg e2]
    rw [e] at A
    exact ⟨A.inj, A.rows, A.edge, fun j hj => A.same j (hss j hj), A.one⟩

/-- The whole search of a row that has no column. -/
theorem Room.found {m : Nat} {may : Nat → Nat → Bool} {r : Nat} {o o' : Nat → Int} {s s' : Nat → Bool}
    (h : Room m may r 0 o s true o' s') (hi : Inj m o) (hr : ¬ Has m o r) : Adds m may s r o o' := by
  have A := h.adds rfl (t := o) (fun _ _ => rfl) hi hr
  have e : (fun j => if s j = true then o j else o' j) = o' := by
    funext j
    by_cases e1 : s j = true
    · rw [if_pos e1, (h.frame.1 j e1).2]
    · rw [if_neg e1]
  rwa [e] at A

/-- The column that is found: what was tried before it was in vain. -/
theorem Room.first {m : Nat} {may : Nat → Nat → Bool} {r k : Nat} {o o' : Nat → Int} {s s' : Nat → Bool} {b : Bool}
    (h : Room m may r k o s b o' s') (hb : b = true) : ∃ z, k ≤ z ∧ z < m ∧ o' z = (r : Int) ∧ may r z = true ∧ s z = false ∧
      ∃ s1 : Nat → Bool, (∀ j, s j = true → s1 j = true) ∧
        (∀ j, j < m → s j = false → s1 j = true → ∃ q : Nat, o j = (q : Int) ∧ ∀ i, i < m → may q i = true → s1 i = true) ∧
        (∀ i, k ≤ i → i < z → may r i = true → s1 i = true) := by
  induction h with
  | done hk => simp at hb
  | skip hk hs hh ih =>
    rename_i r k o o' s s' b
    obtain ⟨z, hz, hzm, e, hm, hsz, s1, h1, h2, h3⟩ := ih hb
    refine ⟨z, by omega, hzm, e, hm, hsz, s1, h1, h2, fun i hi hiz hmi => ?_⟩
    by_cases e1 : i = k
    · subst e1; simp [hmi] at hs; exact h1 _ hs
    · exact h3 i (by omega) hiz hmi
  | free hk h1 h2 h3 =>
    rename_i r k o s
    exact ⟨k, by omega, hk, upd_at _ _ _, h2, h1, s, fun _ h => h, fun j _ h h' => by rw [h] at h'; simp at h', fun i hi hiz => by omega⟩
  | move hk h1 h2 h3 ha ih =>
    rename_i r k q o o' s s'
    exact ⟨k, by omega, hk, upd_at _ _ _, h2, h1, s, fun _ h => h, fun j _ h h' => by rw [h] at h'; simp at h', fun i hi hiz => by omega⟩
  | stay hk h1 h2 h3 ha hc ih ih2 =>
    rename_i r k q o o1 o' s s1 s' b
    have e := ha.frame.2 rfl; subst e
    have hss : ∀ j, s j = true → s1 j = true := fun j hj => by
      have e1 : j ≠ k := fun e => by rw [e, h1] at hj; simp at hj
      exact (ha.frame.1 j (by rw [upd_ne e1]; exact hj)).1
    obtain ⟨z, hz, hzm, e, hm, hsz, s2, g1, g2, g3⟩ := ih2 hb
    have hsz' : s z = false := by
      cases hsj : s z with
      | false => rfl
      | true => rw [hss z hsj] at hsz; simp at hsz
    refine ⟨z, by omega, hzm, e, hm, hsz', s2, fun j hj => g1 j (hss j hj), fun j hj hj0 hj1 => ?_, fun i hi hiz hmi => ?_⟩
    · by_cases ej : j = k
      · subst ej
        exact ⟨q, h3, fun i hi hm => g1 i ((ha.vain rfl).2 i (by omega) hi hm)⟩
      · by_cases e1 : s1 j = true
        · obtain ⟨p, ep, hp⟩ := (ha.vain rfl).1 j hj (by rw [upd_ne ej]; exact hj0) e1
          exact ⟨p, ep, fun i hi hm => g1 i (hp i hi hm)⟩
        · exact g2 j hj (by simpa using e1) hj1
    · by_cases e1 : i = k
      · subst e1; exact g1 i (ha.frame.1 i (upd_at _ _ _)).1
      · exact g3 i (by omega) hiz hmi

end Go.Proofs.Ytncmfjncdhhjoaa
