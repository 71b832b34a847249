/- Cutting a panel from edge to edge, plain: no program, no memory. -/
namespace Go.Proofs.Ytkfjlgjncaddpaa

/-- A shape; what is done with a rectangle, and what that is worth. -/
structure Sh where
  w : Int
  h : Int
  v : Int
  t : Bool
deriving DecidableEq
structure Cho where
  k : Int
  a : Int
  v : Int
deriving DecidableEq
def sh0 : Sh := ⟨0, 0, 0, false⟩
def cho0 : Cho := ⟨0, 0, 0⟩
def isS (s : Sh) (i j : Int) : Bool := decide (i = s.w) && decide (j = s.h)
def isT (s : Sh) (i j : Int) : Bool := s.t && (decide (i = s.h) && decide (j = s.w))
def offer (c o : Cho) : Cho := if c.v < o.v then o else c
/-- The value of a rectangle by a table; 0 of one without an area. -/
def pv (T : Nat → Nat → Cho) (w h : Int) : Int := if w < 1 ∨ h < 1 then 0 else (T w.toNat h.toNat).v
def shO (s : Sh) (n : Nat) (i j : Nat) : List Cho := (if isS s i j = true then [⟨1, n, s.v⟩] else []) ++ (if isT s i j = true then [⟨2, n, s.v⟩] else [])
def offS (ss : List Sh) (i j n : Nat) : List Cho := (List.range n).flatMap fun q => shO (ss.getD q sh0) q i j
def offA (T : Nat → Nat → Cho) (kerf i j n : Nat) : List Cho := (List.range n).map fun q => ⟨3, (q + 1 : Nat), pv T (q + 1 : Nat) j + pv T (i - (q + 1 : Nat) - kerf) j⟩
def offD (T : Nat → Nat → Cho) (kerf i j n : Nat) : List Cho := (List.range n).map fun q => ⟨4, (q + 1 : Nat), pv T i (q + 1 : Nat) + pv T i (j - (q + 1 : Nat) - kerf)⟩
def offs (T : Nat → Nat → Cho) (kerf : Nat) (ss : List Sh) (i j : Nat) : List Cho := offS ss i j ss.length ++ (offA T kerf i j (i - 1) ++ offD T kerf i j (j - 1))
def choF (T : Nat → Nat → Cho) (kerf : Nat) (ss : List Sh) (i j : Nat) : Cho := (offs T kerf ss i j).foldl offer cho0
def tabN (kerf : Nat) (ss : List Sh) : Nat → Nat → Nat → Cho
  | 0 => fun _ _ => cho0
  | n + 1 => fun i j => choF (tabN kerf ss n) kerf ss i j
/-- The best choice for a rectangle. -/
def best (kerf : Nat) (ss : List Sh) (i j : Nat) : Cho := tabN kerf ss (i + j + 1) i j

theorem pv_congr {T T' : Nat → Nat → Cho} {w h : Int} (e : 1 ≤ w → 1 ≤ h → (T w.toNat h.toNat).v = (T' w.toNat h.toNat).v) : pv T w h = pv T' w h := by
  unfold pv
  split
  · rfl
  · rename_i hh; exact e (by omega) (by omega)
theorem offA_congr {T T' : Nat → Nat → Cho} {kerf i j n : Nat} (hn : n ≤ i - 1) (e : ∀ x, 1 ≤ x → x < i → (T x j).v = (T' x j).v) : offA T kerf i j n = offA T' kerf i j n := by
  unfold offA
  apply List.map_congr_left
  intro q hq
  have hq := List.mem_range.1 hq
  rw [pv_congr (T := T) (T' := T') (w := (q + 1 : Nat)) (h := j) (fun _ _ => by simp only [Int.toNat_natCast]; exact e _ (by omega) (by omega)),
    pv_congr (T := T) (T' := T') (w := (i - (q + 1 : Nat) - kerf)) (h := j) (fun _ _ => by simp only [Int.toNat_natCast]; exact e _ (by omega) (by omega))]
theorem offD_congr {T T' : Nat → Nat → Cho} {kerf i j n : Nat} (hn : n ≤ j - 1) (e : ∀ y, 1 ≤ y → y < j → (T i y).v = (T' i y).v) : offD T kerf i j n = offD T' kerf i j n := by
  unfold offD
  apply List.map_congr_left
  intro q hq
  have hq := List.mem_range.1 hq
  rw [pv_congr (T := T) (T' := T') (w := i) (h := (q + 1 : Nat)) (fun _ _ => by simp only [Int.toNat_natCast]; exact e _ (by omega) (by omega)),
    pv_congr (T := T) (T' := T') (w := i) (h := (j - (q + 1 : Nat) - kerf)) (fun _ _ => by simp only [Int.toNat_natCast]; exact e _ (by omega) (by omega))]
theorem choF_congr {T T' : Nat → Nat → Cho} {kerf : Nat} {ss : List Sh} {i j : Nat} (e1 : ∀ x, 1 ≤ x → x < i → (T x j).v = (T' x j).v) (e2 : ∀ y, 1 ≤ y → y < j → (T i y).v = (T' i y).v) : choF T kerf ss i j = choF T' kerf ss i j := by
  unfold choF offs
  rw [offA_congr (Nat.le_refl _) e1, offD_congr (Nat.le_refl _) e2]
theorem tabN_stable (kerf : Nat) (ss : List Sh) : ∀ (s i j n m : Nat), i + j ≤ s → i + j + 1 ≤ n → i + j + 1 ≤ m → tabN kerf ss n i j = tabN kerf ss m i j
  | s, i, j, 0, _, _, h, _ => by omega
  | s, i, j, _ + 1, 0, _, _, h => by omega
  | 0, i, j, n + 1, m + 1, hs, hn, hm => by
    show choF _ _ _ _ _ = choF _ _ _ _ _
    exact choF_congr (fun x _ hx => by omega) (fun y _ hy => by omega)
  | s + 1, i, j, n + 1, m + 1, hs, hn, hm => by
    show choF _ _ _ _ _ = choF _ _ _ _ _
    exact choF_congr (fun x _ hx => by rw [tabN_stable kerf ss s x j n m (by omega) (by omega) (by omega)]) (fun y _ hy => by rw [tabN_stable kerf ss s i y n m (by omega) (by omega) (by omega)])
theorem best_eq (kerf : Nat) (ss : List Sh) (i j : Nat) : best kerf ss i j = choF (best kerf ss) kerf ss i j := by
  show choF (tabN kerf ss (i + j)) kerf ss i j = _
  refine choF_congr (fun x _ hx => ?_) (fun y _ hy => ?_)
  · show _ = (tabN kerf ss (x + j + 1) x j).v
    rw [tabN_stable kerf ss (x + j) x j (i + j) (x + j + 1) (by omega) (by omega) (by omega)]
  · show _ = (tabN kerf ss (i + y + 1) i y).v
    rw [tabN_stable kerf ss (i + y) i y (i + j) (i + y + 1) (by omega) (by omega) (by omega)]

/-- What is left after several offers. -/
theorem fold_ge (c : Cho) (l : List Cho) : c.v ≤ (l.foldl offer c).v ∧ ∀ o ∈ l, o.v ≤ (l.foldl offer c).v := by
  induction l generalizing c with
  | nil => exact ⟨Int.le_refl _, fun o h => by cases h⟩
  | cons o l ih =>
    have h1 := ih (offer c o)
    have h2 : c.v ≤ (offer c o).v ∧ o.v ≤ (offer c o).v := by unfold offer; split <;> omega
    refine ⟨Int.le_trans h2.1 h1.1, fun x hx => ?_⟩
    rcases List.mem_cons.1 hx with rfl | hx
    · exact Int.le_trans h2.2 h1.1
    · exact h1.2 x hx
theorem fold_mem (c : Cho) (l : List Cho) : l.foldl offer c = c ∨ l.foldl offer c ∈ l := by
  induction l generalizing c with
  | nil => exact .inl rfl
  | cons o l ih =>
    rcases ih (offer c o) with h | h
    · rw [List.foldl_cons, h]
      unfold offer
      split
      · exact .inr (by simp)
      · exact .inl rfl
    · exact .inr (List.mem_cons_of_mem _ h)
/-- The first that is worth as much as what is left is it. -/
theorem fold_first (c : Cho) (l : List Cho) (k : Nat) (x : Cho) (hk : (c :: l)[k]? = some x) (hx : x.v = (l.foldl offer c).v) (hf : ∀ q y, q < k → (c :: l)[q]? = some y → y.v ≠ (l.foldl offer c).v) : l.foldl offer c = x := by
  induction l generalizing c k with
  | nil =>
    match k, hk with
    | 0, hk => simpa using hk
    | k + 1, hk => simp at hk
  | cons o l ih =>
    rw [List.foldl_cons] at hx hf ⊢
    match k, hk with
    | 0, hk =>
      have e : c = x := by simpa using hk
      subst e
      have h1 := (fold_ge (offer c o) l).1
      have e : offer c o = c := by unfold offer at h1 ⊢; split <;> rename_i h2 <;> first | rfl | (rw [if_pos h2] at h1; unfold offer at hx; rw [if_pos h2] at hx; omega)
      rw [e] at hx ⊢
      exact ih c 0 (by simp) hx (fun q y hq => by omega)
    | k + 1, hk =>
      have hc := hf 0 c (by omega) (by simp)
      by_cases h : c.v < o.v
      · have e : offer c o = o := by unfold offer; rw [if_pos h]
        rw [e] at hx hf ⊢
        exact ih o k (by simpa using hk) hx (fun q y hq hy => hf (q + 1) y (by omega) (by simpa using hy))
      · have e : offer c o = c := by unfold offer; rw [if_neg h]
        rw [e] at hx hf hc ⊢
        match k, hk with
        | 0, hk =>
          have e2 : o = x := by simpa using hk
          subst e2
          have := (fold_ge c l).1
          omega
        | k + 1, hk =>
          refine ih c (k + 1) (by simpa using hk) hx (fun q y hq hy => ?_)
          match q, hy with
          | 0, hy => have e3 : c = y := by simpa using hy
                     subst e3; exact hc
          | q + 1, hy => exact hf (q + 2) y (by omega) (by simpa using hy)

/-- Where an offer comes from. -/
theorem mem_offS {ss : List Sh} {i j n : Nat} {o : Cho} (h : o ∈ offS ss i j n) : ∃ q, q < n ∧ o.v = (ss.getD q sh0).v ∧ o.a = q ∧ (o.k = 1 ∧ isS (ss.getD q sh0) i j = true ∨ o.k = 2 ∧ isT (ss.getD q sh0) i j = true) := by
  unfold offS at h
  obtain ⟨q, hq, hm⟩ := List.mem_flatMap.1 h
  refine ⟨q, List.mem_range.1 hq, ?_⟩
  unfold shO at hm
  rcases List.mem_append.1 hm with hm | hm
  · split at hm
    · rename_i e
      simp at hm; subst hm
      exact ⟨rfl, rfl, .inl ⟨rfl, e⟩⟩
    · cases hm
  · split at hm
    · rename_i e
      simp at hm; subst hm
      exact ⟨rfl, rfl, .inr ⟨rfl, e⟩⟩
    · cases hm
theorem offS_mem {ss : List Sh} {i j n q : Nat} (hq : q < n) : (isS (ss.getD q sh0) i j = true → ⟨1, q, (ss.getD q sh0).v⟩ ∈ offS ss i j n) ∧ (isT (ss.getD q sh0) i j = true → ⟨2, q, (ss.getD q sh0).v⟩ ∈ offS ss i j n) := by
  constructor
  · intro h
    unfold offS
    refine List.mem_flatMap.2 ⟨q, List.mem_range.2 hq, ?_⟩
    unfold shO
    rw [if_pos h]; simp
  · intro h
    unfold offS
    refine List.mem_flatMap.2 ⟨q, List.mem_range.2 hq, ?_⟩
    unfold shO
    rw [if_pos h]; simp
theorem mem_offA {T : Nat → Nat → Cho} {kerf i j n : Nat} {o : Cho} : o ∈ offA T kerf i j n ↔ ∃ q, q < n ∧ o = ⟨3, (q + 1 : Nat), pv T (q + 1 : Nat) j + pv T (i - (q + 1 : Nat) - kerf) j⟩ := by
  unfold offA
  rw [List.mem_map]
  constructor
  · rintro ⟨q, hq, rfl⟩; exact ⟨q, List.mem_range.1 hq, rfl⟩
  · rintro ⟨q, hq, rfl⟩; exact ⟨q, List.mem_range.2 hq, rfl⟩
theorem mem_offD {T : Nat → Nat → Cho} {kerf i j n : Nat} {o : Cho} : o ∈ offD T kerf i j n ↔ ∃ q, q < n ∧ o = ⟨4, (q + 1 : Nat), pv T i (q + 1 : Nat) + pv T i (j - (q + 1 : Nat) - kerf)⟩ := by
  unfold offD
  rw [List.mem_map]
  constructor
  · rintro ⟨q, hq, rfl⟩; exact ⟨q, List.mem_range.1 hq, rfl⟩
  · rintro ⟨q, hq, rfl⟩; exact ⟨q, List.mem_range.2 hq, rfl⟩

/-- A value for each rectangle, 0 of one without an area. -/
def pu (U : Nat → Nat → Int) (w h : Int) : Int := if w < 1 ∨ h < 1 then 0 else U w.toNat h.toNat
/-- A table that no choice goes beyond, in a panel. -/
structure Upper (kerf : Nat) (ss : List Sh) (W H : Nat) (U : Nat → Nat → Int) : Prop where
  nn : ∀ i j, i ≤ W → j ≤ H → 0 ≤ U i j
  shape : ∀ i j s, i ≤ W → j ≤ H → s ∈ ss → isS s i j = true ∨ isT s i j = true → s.v ≤ U i j
  across : ∀ i j x, i ≤ W → j ≤ H → 1 ≤ j → 1 ≤ x → x < i → pu U x j + pu U (i - x - kerf) j ≤ U i j
  down : ∀ i j y, i ≤ W → j ≤ H → 1 ≤ i → 1 ≤ y → y < j → pu U i y + pu U i (j - y - kerf) ≤ U i j
theorem getD_mem {ss : List Sh} {q : Nat} (h : q < ss.length) : ss.getD q sh0 ∈ ss := by
  rw [List.getD_eq_getElem?_getD, List.getElem?_eq_getElem h]
  exact List.getElem_mem h
theorem mem_getD {ss : List Sh} {s : Sh} (h : s ∈ ss) : ∃ q, q < ss.length ∧ ss.getD q sh0 = s := by
  obtain ⟨q, hq, rfl⟩ := List.mem_iff_getElem.1 h
  exact ⟨q, hq, by rw [List.getD_eq_getElem?_getD, List.getElem?_eq_getElem hq]; rfl⟩
theorem pv_best (kerf : Nat) (ss : List Sh) (w h : Int) : pv (best kerf ss) w h = pu (fun i j => (best kerf ss i j).v) w h := rfl
theorem upper_best {kerf : Nat} {ss : List Sh} {W H : Nat} {U : Nat → Nat → Int} (h : Upper kerf ss W H U) : ∀ (s i j : Nat), i + j ≤ s → 1 ≤ i → 1 ≤ j → i ≤ W → j ≤ H → (best kerf ss i j).v ≤ U i j := by
  intro s
  induction s with
  | zero => intro i j hs hi hj; omega
  | succ s ih =>
    intro i j hs hi1 hj1 hi hj
    have hp : ∀ (a b : Int), a ≤ i → b ≤ j → a + b < i + j → pv (best kerf ss) a b ≤ pu U a b := by
      intro a b ha hb hab
      rw [pv_best]
      unfold pu
      split
      · exact Int.le_refl _
      · rename_i hh
        exact ih a.toNat b.toNat (by omega) (by omega) (by omega) (by omega) (by omega)
    rw [best_eq]
    unfold choF
    rcases fold_mem cho0 (offs (best kerf ss) kerf ss i j) with e | e
    · rw [e]; exact h.nn i j hi hj
    · generalize (offs (best kerf ss) kerf ss i j).foldl offer cho0 = o at *
      unfold offs at e
      rcases List.mem_append.1 e with e | e
      · obtain ⟨q, hq, hv, _, hk⟩ := mem_offS e
        rw [hv]
        refine h.shape i j _ hi hj (getD_mem hq) ?_
        rcases hk with ⟨_, hk⟩ | ⟨_, hk⟩
        · exact .inl hk
        · exact .inr hk
      · rcases List.mem_append.1 e with e | e
        · obtain ⟨q, hq, rfl⟩ := mem_offA.1 e
          have h1 := hp ((q + 1 : Nat) : Int) j (by omega) (by omega) (by omega)
          have h2 := hp (i - ((q + 1 : Nat) : Int) - kerf) j (by omega) (by omega) (by omega)
          have h3 := h.across i j (q + 1) hi hj hj1 (by omega) (by omega)
          simp only
          omega
        · obtain ⟨q, hq, rfl⟩ := mem_offD.1 e
          have h1 := hp i ((q + 1 : Nat) : Int) (by omega) (by omega) (by omega)
          have h2 := hp i (j - ((q + 1 : Nat) : Int) - kerf) (by omega) (by omega) (by omega)
          have h3 := h.down i j (q + 1) hi hj hi1 (by omega) (by omega)
          simp only
          omega
theorem best_upper (kerf : Nat) (ss : List Sh) (W H : Nat) : Upper kerf ss W H (fun i j => (best kerf ss i j).v) := by
  have hb : ∀ i j o, o ∈ offs (best kerf ss) kerf ss i j → o.v ≤ (best kerf ss i j).v := by
    intro i j o ho
    rw [best_eq]
    exact (fold_ge cho0 _).2 o ho
  refine ⟨fun i j _ _ => ?_, fun i j s _ _ hs hk => ?_, fun i j x _ _ _ h1 h2 => ?_, fun i j y _ _ _ h1 h2 => ?_⟩
  · show 0 ≤ (best kerf ss i j).v
    rw [best_eq]
    exact (fold_ge cho0 _).1
  · obtain ⟨q, hq, rfl⟩ := mem_getD hs
    rcases hk with hk | hk
    · exact hb i j _ (List.mem_append_left _ ((offS_mem hq).1 hk))
    · exact hb i j _ (List.mem_append_left _ ((offS_mem hq).2 hk))
  · have := hb i j _ (List.mem_append_right _ (List.mem_append_left _ (mem_offA.2 ⟨x - 1, by omega, rfl⟩)))
    simp only [show x - 1 + 1 = x from by omega] at this
    exact this
  · have := hb i j _ (List.mem_append_right _ (List.mem_append_right _ (mem_offD.2 ⟨y - 1, by omega, rfl⟩)))
    simp only [show y - 1 + 1 = y from by omega] at this
    exact this
theorem best_nn (kerf : Nat) (ss : List Sh) (i j : Nat) : 0 ≤ (best kerf ss i j).v := (best_upper kerf ss i j).nn i j (Nat.le_refl _) (Nat.le_refl _)
theorem pu_nn {U : Nat → Nat → Int} (h : ∀ i j, 0 ≤ U i j) (a b : Int) : 0 ≤ pu U a b := by
  unfold pu; split
  · omega
  · exact h _ _
/-- What a valid panel's values are below. -/
def OkS (ss : List Sh) : Prop := ∀ s ∈ ss, 1 ≤ s.w ∧ s.w ≤ 64 ∧ 1 ≤ s.h ∧ s.h ≤ 64 ∧ 0 ≤ s.v ∧ s.v ≤ 1000000
theorem area_le {ss : List Sh} {A V : Int} (W H kerf : Nat) (hA : 0 < A) (hV : 0 ≤ V) (hok : OkS ss) (hf : ∀ s, s ∈ ss → (s.w ≤ W ∧ s.h ≤ H ∨ s.t = true ∧ s.h ≤ W ∧ s.w ≤ H) → s.v * A ≤ V * (s.w * s.h)) :
    Upper kerf ss W H (fun i j => V * ((i : Int) * j) / A) := by
  have hdiv : ∀ (a b c : Int), a + b ≤ c → a / A + b / A ≤ c / A := by
    intro a b c h
    rw [Int.le_ediv_iff_mul_le hA]
    have h1 := Int.ediv_mul_le a (b := A) (by omega)
    have h2 := Int.ediv_mul_le b (b := A) (by omega)
    rw [Int.add_mul]
    omega
  have hpu : ∀ (a b : Int), pu (fun i j => V * ((i : Int) * j) / A) a b ≤ V * (max a 0 * max b 0) / A := by
    intro a b
    unfold pu
    split
    · exact Int.ediv_nonneg (Int.mul_nonneg hV (Int.mul_nonneg (by omega) (by omega))) (by omega)
    · rename_i h
      show V * ((a.toNat : Int) * (b.toNat : Int)) / A ≤ _
      rw [Int.toNat_of_nonneg (by omega), Int.toNat_of_nonneg (by omega), Int.max_eq_left (by omega), Int.max_eq_left (by omega)]
      exact Int.le_refl _
  refine ⟨fun i j _ _ => ?_, fun i j s hi hj hs hk => ?_, fun i j x hi hj hj1 h1 h2 => ?_, fun i j y hi hj hi1 h1 h2 => ?_⟩
  · exact Int.ediv_nonneg (Int.mul_nonneg hV (Int.mul_nonneg (by omega) (by omega))) (by omega)
  · rw [Int.le_ediv_iff_mul_le hA]
    rcases hk with hk | hk
    · simp only [isS, Bool.and_eq_true, decide_eq_true_eq] at hk
      have := hf s hs (.inl ⟨by omega, by omega⟩)
      rwa [hk.1, hk.2]
    · simp only [isT, Bool.and_eq_true, decide_eq_true_eq] at hk
      have := hf s hs (.inr ⟨hk.1, by omega, by omega⟩)
      rw [hk.2.1, hk.2.2, Int.mul_comm s.h s.w]
      exact this
  · have p1 := hpu (x : Int) j
    have p2 := hpu ((i : Int) - x - kerf) j
    have p3 := hdiv (V * (max (x : Int) 0 * max (j : Int) 0)) (V * (max ((i : Int) - x - kerf) 0 * max (j : Int) 0)) (V * ((i : Int) * j)) (by
      rw [← Int.mul_add, ← Int.add_mul]
      exact Int.mul_le_mul_of_nonneg_left (Int.mul_le_mul (by omega) (by omega) (by omega) (by omega)) hV)
    show _ ≤ V * ((i : Int) * j) / A
    omega
  · have p1 := hpu (i : Int) y
    have p2 := hpu (i : Int) ((j : Int) - y - kerf)
    have p3 := hdiv (V * (max (i : Int) 0 * max (y : Int) 0)) (V * (max (i : Int) 0 * max ((j : Int) - y - kerf) 0)) (V * ((i : Int) * j)) (by
      rw [← Int.mul_add, ← Int.mul_add]
      exact Int.mul_le_mul_of_nonneg_left (Int.mul_le_mul (by omega) (by omega) (by omega) (by omega)) hV)
    show _ ≤ V * ((i : Int) * j) / A
    omega
theorem mil_le {ss : List Sh} (hok : OkS ss) (kerf i j : Nat) (hi : 1 ≤ i) (hj : 1 ≤ j) : (best kerf ss i j).v ≤ 1000000 * ((i : Int) * j) := by
  have h := upper_best (area_le (A := 1) (V := 1000000) i j kerf (by omega) (by omega) hok (fun s hs _ => by
    obtain ⟨h1, h2, h3, h4, h5, h6⟩ := hok s hs
    have : (1 : Int) ≤ s.w * s.h := by have := Int.mul_le_mul h1 h3 (by omega) (by omega); omega
    omega)) (i + j) i j (Nat.le_refl _) hi hj (Nat.le_refl _) (Nat.le_refl _)
  rwa [Int.ediv_one] at h
theorem best_big {ss : List Sh} (hok : OkS ss) (kerf i j : Nat) (hi1 : 1 ≤ i) (hj1 : 1 ≤ j) (hi : i ≤ 65) (hj : j ≤ 65) : 0 ≤ (best kerf ss i j).v ∧ (best kerf ss i j).v ≤ 4225000000 := by
  refine ⟨best_nn kerf ss i j, Int.le_trans (mil_le hok kerf i j hi1 hj1) ?_⟩
  have : (i : Int) * j ≤ 65 * 65 := Int.mul_le_mul (by omega) (by omega) (by omega) (by omega)
  omega
theorem pv_big {ss : List Sh} (hok : OkS ss) (kerf : Nat) (a b : Int) (ha : a ≤ 65) (hb : b ≤ 65) : 0 ≤ pv (best kerf ss) a b ∧ pv (best kerf ss) a b ≤ 4225000000 := by
  unfold pv
  split
  · omega
  · exact best_big hok kerf _ _ (by omega) (by omega) (by omega) (by omega)

/-- What the saw knows when all rows before i are done, and of row i all columns before j. -/
def filT (kerf : Nat) (ss : List Sh) (h i j : Nat) : Nat → Nat → Cho := fun a b => if 1 ≤ a ∧ 1 ≤ b ∧ b ≤ h ∧ (a < i ∨ a = i ∧ b < j) then best kerf ss a b else cho0
theorem filT_start (kerf : Nat) (ss : List Sh) (h : Nat) : filT kerf ss h 1 1 = fun _ _ => cho0 := by
  funext a b
  unfold filT
  rw [if_neg (by omega)]
theorem filT_next (kerf : Nat) (ss : List Sh) (h i : Nat) : filT kerf ss h i (h + 1) = filT kerf ss h (i + 1) 1 := by
  funext a b
  unfold filT
  by_cases e : 1 ≤ a ∧ 1 ≤ b ∧ b ≤ h ∧ (a < i ∨ a = i ∧ b < h + 1)
  · rw [if_pos e, if_pos (by omega)]
  · rw [if_neg e, if_neg (by omega)]
theorem filT_at (kerf : Nat) (ss : List Sh) (h i j a b : Nat) (e : 1 ≤ a ∧ 1 ≤ b ∧ b ≤ h ∧ (a < i ∨ a = i ∧ b < j)) : filT kerf ss h i j a b = best kerf ss a b := by
  unfold filT; rw [if_pos e]
theorem filT_cho (kerf : Nat) (ss : List Sh) (h i j : Nat) (hi : 1 ≤ i) (hj : 1 ≤ j) (hjh : j ≤ h) : choF (filT kerf ss h i j) kerf ss i j = best kerf ss i j := by
  rw [best_eq]
  exact choF_congr (fun x h1 hx => by rw [filT_at _ _ _ _ _ _ _ (by omega)]) (fun y h1 hy => by rw [filT_at _ _ _ _ _ _ _ (by omega)])
theorem filT_big {ss : List Sh} (hok : OkS ss) (kerf h i j : Nat) (a b : Int) (ha : a ≤ 65) (hb : b ≤ 65) : 0 ≤ pv (filT kerf ss h i j) a b ∧ pv (filT kerf ss h i j) a b ≤ 4225000000 := by
  unfold pv
  split
  · omega
  · rename_i e
    unfold filT
    split
    · exact best_big hok kerf _ _ (by omega) (by omega) (by omega) (by omega)
    · simp [cho0]
end Go.Proofs.Ytkfjlgjncaddpaa
