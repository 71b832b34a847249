/- What is known of the pieces of a plan, plain. -/
import Derived.Test.YtkfjlgjncaddpaaRdf
import Derived.Test.YtkfjlgjncaddpaaPlanP
namespace Go.Proofs.Ytkfjlgjncaddpaa

/-- What holds of no pieces, of one that fits, and of both parts of a cut, holds of all plans. -/
theorem rd_ind {K : Int} {ss : List Sh} {P : Int → Int → Int → Int → List Pc → Prop} (h0 : ∀ x y a b, P x y a b [])
    (hp : ∀ x y a b (q : Nat), 1 ≤ a → 1 ≤ b → q < ss.length → isS (ss.getD q sh0) a b = true ∨ isT (ss.getD q sh0) a b = true → P x y a b [⟨x, y, a, b, q⟩])
    (ha : ∀ x y a b z p1 p2, 1 ≤ a → 1 ≤ b → 1 ≤ z → z ≤ a - 1 → P x y z b p1 → P (x + (z + K)) y (a - (z + K)) b p2 → P x y a b (p1 ++ p2))
    (hd : ∀ x y a b z p1 p2, 1 ≤ a → 1 ≤ b → 1 ≤ z → z ≤ b - 1 → P x y a z p1 → P x (y + (z + K)) a (b - (z + K)) p2 → P x y a b (p1 ++ p2)) :
    ∀ (n : Nat) (x y a b : Int) (l : List Cu) (u : List Pc × List Cu), rdF K ss n x y a b l = some u → P x y a b u.1 := by
  intro n
  induction n with
  | zero => intro x y a b l u h; simp only [rdF, Option.some.injEq] at h; subst h; exact h0 x y a b
  | succ n ih =>
    intro x y a b l u h
    by_cases e : a < 1 ∨ b < 1
    · rw [rdF_empty e] at h
      simp only [Option.some.injEq] at h
      subst h; exact h0 x y a b
    · cases l with
      | nil => rw [rdF_nil e] at h; cases h
      | cons c r =>
        rw [rdF_cons e] at h
        by_cases k0 : c.k = 0
        · rw [if_pos k0] at h
          split at h
          · simp only [Option.some.injEq] at h; subst h; exact h0 x y a b
          · cases h
        rw [if_neg k0] at h
        by_cases k1 : c.k = 1
        · rw [if_pos k1] at h
          split at h
          · rename_i hh
            simp only [Option.some.injEq] at h; subst h
            have h2 := inB_t hh.1
            have h3 : ((c.a.toNat : Nat) : Int) = c.a := by omega
            have := hp x y a b c.a.toNat (by omega) (by omega) (by omega) (.inl hh.2)
            rw [h3] at this
            exact this
          · cases h
        rw [if_neg k1] at h
        by_cases k2 : c.k = 2
        · rw [if_pos k2] at h
          split at h
          · rename_i hh
            simp only [Option.some.injEq] at h; subst h
            have h2 := inB_t hh.1
            have h3 : ((c.a.toNat : Nat) : Int) = c.a := by omega
            have := hp x y a b c.a.toNat (by omega) (by omega) (by omega) (.inr hh.2)
            rw [h3] at this
            exact this
          · cases h
        rw [if_neg k2] at h
        by_cases k3 : c.k = 3
        · rw [if_pos k3] at h
          split at h
          · rename_i hh
            have h2 := inB_t hh
            obtain ⟨v, hv, h⟩ := Option.bind_eq_some_iff.1 h
            obtain ⟨w, hw, h⟩ := Option.map_eq_some_iff.1 h
            subst h
            exact ha x y a b c.a v.1 w.1 (by omega) (by omega) h2.1 h2.2 (ih _ _ _ _ _ v hv) (ih _ _ _ _ _ w hw)
          · cases h
        rw [if_neg k3] at h
        by_cases k4 : c.k = 4
        · rw [if_pos k4] at h
          split at h
          · rename_i hh
            have h2 := inB_t hh
            obtain ⟨v, hv, h⟩ := Option.bind_eq_some_iff.1 h
            obtain ⟨w, hw, h⟩ := Option.map_eq_some_iff.1 h
            subst h
            exact hd x y a b c.a v.1 w.1 (by omega) (by omega) h2.1 h2.2 (ih _ _ _ _ _ v hv) (ih _ _ _ _ _ w hw)
          · cases h
        rw [if_neg k4] at h
        cases h
def sumP (f : Pc → Int) : List Pc → Int
  | [] => 0
  | t :: l => f t + sumP f l
theorem sumP_append (f : Pc → Int) (a b : List Pc) : sumP f (a ++ b) = sumP f a + sumP f b := by
  induction a with
  | nil => simp [sumP]
  | cons t a ih => simp only [List.cons_append, sumP, ih]; omega
def pc0 : Pc := ⟨0, 0, 0, 0, 0⟩
theorem sumP_take (f : Pc → Int) {l : List Pc} {m : Nat} (h : m < l.length) : sumP f (l.take (m + 1)) = sumP f (l.take m) + f (l.getD m pc0) := by
  rw [List.take_succ_eq_append_getElem h, sumP_append, List.getD_eq_getElem?_getD, List.getElem?_eq_getElem h]
  simp [sumP]
theorem sumP_bound (f : Pc → Int) {l : List Pc} {lo hi : Int} (h : ∀ t ∈ l, lo ≤ f t ∧ f t ≤ hi) : lo * l.length ≤ sumP f l ∧ sumP f l ≤ hi * l.length := by
  induction l with
  | nil => simp [sumP]
  | cons t l ih =>
    have h1 := h t (List.mem_cons_self ..)
    have h2 := ih fun s hs => h s (List.mem_cons_of_mem _ hs)
    simp only [sumP, List.length_cons]
    have e1 : lo * ((l.length + 1 : Nat) : Int) = lo * l.length + lo := by rw [Int.natCast_add]; simp [Int.mul_add]
    have e2 : hi * ((l.length + 1 : Nat) : Int) = hi * l.length + hi := by rw [Int.natCast_add]; simp [Int.mul_add]
    rw [e1, e2]
    omega
/-- What a piece is, and where. -/
structure PcOk (ss : List Sh) (x y a b : Int) (t : Pc) : Prop where
  sh : ∃ q : Nat, q < ss.length ∧ t.s = q ∧ (isS (ss.getD q sh0) t.w t.h = true ∨ isT (ss.getD q sh0) t.w t.h = true)
  lo : x ≤ t.x ∧ y ≤ t.y ∧ 1 ≤ t.w ∧ 1 ≤ t.h
  hi : t.x + t.w ≤ x + a ∧ t.y + t.h ≤ y + b
theorem rd_pcs {K : Int} (hK : 0 ≤ K) {ss : List Sh} (n : Nat) (x y a b : Int) (l : List Cu) (u : List Pc × List Cu) (h : rdF K ss n x y a b l = some u) : ∀ t ∈ u.1, PcOk ss x y a b t := by
  refine rd_ind (P := fun x y a b p => ∀ t ∈ p, PcOk ss x y a b t) (fun _ _ _ _ t ht => by cases ht) ?_ ?_ ?_ n x y a b l u h
  · intro x y a b q h1 h2 h3 h4 t ht
    simp only [List.mem_cons, List.not_mem_nil, or_false] at ht
    subst ht
    exact ⟨⟨q, h3, rfl, h4⟩, ⟨Int.le_refl _, Int.le_refl _, h1, h2⟩, Int.le_refl _, Int.le_refl _⟩
  · intro x y a b z p1 p2 h1 h2 h3 h4 i1 i2 t ht
    rcases List.mem_append.1 ht with ht | ht
    · obtain ⟨s1, s2, s3⟩ := i1 t ht
      exact ⟨s1, s2, by omega, by omega⟩
    · obtain ⟨s1, s2, s3⟩ := i2 t ht
      exact ⟨s1, ⟨by omega, by omega, s2.2.2⟩, by omega, by omega⟩
  · intro x y a b z p1 p2 h1 h2 h3 h4 i1 i2 t ht
    rcases List.mem_append.1 ht with ht | ht
    · obtain ⟨s1, s2, s3⟩ := i1 t ht
      exact ⟨s1, s2, by omega, by omega⟩
    · obtain ⟨s1, s2, s3⟩ := i2 t ht
      exact ⟨s1, ⟨by omega, by omega, s2.2.2⟩, by omega, by omega⟩
/-- Pieces lie apart, with the kerf between them. -/
theorem rd_apart {K : Int} (hK : 0 ≤ K) {ss : List Sh} (n : Nat) (x y a b : Int) (l : List Cu) (u : List Pc × List Cu) (h : rdF K ss n x y a b l = some u) : u.1.Pairwise fun s t => s.x + s.w + K ≤ t.x ∨ s.y + s.h + K ≤ t.y := by
  refine (rd_ind (P := fun x y a b p => (∀ t ∈ p, x ≤ t.x ∧ y ≤ t.y ∧ t.x + t.w ≤ x + a ∧ t.y + t.h ≤ y + b) ∧ p.Pairwise fun s t => s.x + s.w + K ≤ t.x ∨ s.y + s.h + K ≤ t.y) (fun _ _ _ _ => ⟨fun t ht => (by cases ht), .nil⟩) ?_ ?_ ?_ n x y a b l u h).2
  · intro x y a b q h1 h2 h3 h4
    refine ⟨fun t ht => ?_, List.pairwise_singleton _ _⟩
    simp only [List.mem_cons, List.not_mem_nil, or_false] at ht
    subst ht
    exact ⟨Int.le_refl _, Int.le_refl _, Int.le_refl _, Int.le_refl _⟩
  · intro x y a b z p1 p2 h1 h2 h3 h4 ⟨i1, j1⟩ ⟨i2, j2⟩
    refine ⟨fun t ht => ?_, List.pairwise_append.2 ⟨j1, j2, fun s hs t ht => ?_⟩⟩
    · rcases List.mem_append.1 ht with ht | ht
      · have := i1 t ht; omega
      · have := i2 t ht; omega
    · have := i1 s hs; have := i2 t ht; left; omega
  · intro x y a b z p1 p2 h1 h2 h3 h4 ⟨i1, j1⟩ ⟨i2, j2⟩
    refine ⟨fun t ht => ?_, List.pairwise_append.2 ⟨j1, j2, fun s hs t ht => ?_⟩⟩
    · rcases List.mem_append.1 ht with ht | ht
      · have := i1 t ht; omega
      · have := i2 t ht; omega
    · have := i1 s hs; have := i2 t ht; right; omega
/-- No plan of a rectangle is worth more than a table says that no choice goes beyond. -/
theorem rd_upper {kerf : Nat} {ss : List Sh} {W H : Nat} {U : Nat → Nat → Int} (hU : Upper kerf ss W H U) (n : Nat) (x y a b : Int) (l : List Cu) (u : List Pc × List Cu) (h : rdF kerf ss n x y a b l = some u) (haW : a ≤ W) (hbH : b ≤ H) :
    sumP (fun t => (ss.getD t.s.toNat sh0).v) u.1 ≤ pu U a b := by
  have hpn : ∀ a b : Int, a ≤ W → b ≤ H → 0 ≤ pu U a b := by
    intro a b h1 h2
    unfold pu
    split
    · omega
    · exact hU.nn _ _ (by omega) (by omega)
  refine rd_ind (P := fun _ _ a b p => a ≤ W → b ≤ H → sumP (fun t => (ss.getD t.s.toNat sh0).v) p ≤ pu U a b) (fun _ _ a b h1 h2 => hpn a b h1 h2) ?_ ?_ ?_ n x y a b l u h haW hbH
  · intro x y a b q h1 h2 h3 h4 h5 h6
    unfold pu
    rw [if_neg (by omega)]
    simp only [sumP, Int.toNat_natCast]
    have := hU.shape a.toNat b.toNat (ss.getD q sh0) (by omega) (by omega) (getD_mem h3) (by rw [Int.toNat_of_nonneg (by omega), Int.toNat_of_nonneg (by omega)]; exact h4)
    omega
  · intro x y a b z p1 p2 h1 h2 h3 h4 i1 i2 h5 h6
    rw [sumP_append]
    have e1 := i1 (by omega) h6
    have e2 := i2 (by omega) h6
    have := hU.across a.toNat b.toNat z.toNat (by omega) (by omega) (by omega) (by omega) (by omega)
    rw [Int.toNat_of_nonneg (by omega), Int.toNat_of_nonneg (by omega), Int.toNat_of_nonneg (by omega), show a - z - (kerf : Int) = a - (z + kerf) by omega] at this
    have e3 : pu U a b = U a.toNat b.toNat := by unfold pu; rw [if_neg (by omega)]
    rw [e3]
    omega
  · intro x y a b z p1 p2 h1 h2 h3 h4 i1 i2 h5 h6
    rw [sumP_append]
    have e1 := i1 h5 (by omega)
    have e2 := i2 h5 (by omega)
    have := hU.down a.toNat b.toNat z.toNat (by omega) (by omega) (by omega) (by omega) (by omega)
    rw [Int.toNat_of_nonneg (by omega), Int.toNat_of_nonneg (by omega), Int.toNat_of_nonneg (by omega), show b - z - (kerf : Int) = b - (z + kerf) by omega] at this
    have e3 : pu U a b = U a.toNat b.toNat := by unfold pu; rw [if_neg (by omega)]
    rw [e3]
    omega
/-- The best plan is read, and is worth what it should be. -/
theorem rd_best (kerf : Nat) (ss : List Sh) : ∀ (n : Nat) (x y a b : Int) (rest : List Cu), a.toNat + b.toNat ≤ n → ∃ ps, rdF kerf ss n x y a b (planN kerf ss n a b ++ rest) = some (ps, rest) ∧ sumP (fun t => (ss.getD t.s.toNat sh0).v) ps = pv (best kerf ss) a b := by
  intro n
  induction n with
  | zero =>
    intro x y a b rest hn
    refine ⟨[], ?_, ?_⟩
    · simp [rdF, planN]
    · unfold pv; rw [if_pos (by omega)]; rfl
  | succ n ih =>
    intro x y a b rest hn
    by_cases e : a < 1 ∨ b < 1
    · refine ⟨[], ?_, ?_⟩
      · rw [planN_empty e, rdF_empty e]; rfl
      · unfold pv; rw [if_pos e]; rfl
    · obtain ⟨i, rfl⟩ : ∃ i : Nat, a = (i : Int) := ⟨a.toNat, by omega⟩
      obtain ⟨j, rfl⟩ : ∃ j : Nat, b = (j : Int) := ⟨b.toNat, by omega⟩
      have hi : 1 ≤ i := by omega
      have hj : 1 ≤ j := by omega
      have hpv : pv (best kerf ss) i j = (best kerf ss i j).v := by unfold pv; rw [if_neg (by omega)]; simp
      rw [hpv, planN_at hi hj rfl rfl]
      rcases best_cut kerf ss i j with h | ⟨q, hq, ha, hv, ⟨hk, hs⟩ | ⟨hk, hs⟩⟩ | ⟨z, hz1, hz2, h⟩ | ⟨z, hz1, hz2, h⟩
      · refine ⟨[], ?_, by rw [h]; rfl⟩
        rw [h]
        rw [if_neg (by show ¬ (cho0.k = 3); decide), if_neg (by show ¬ (cho0.k = 4); decide), List.cons_append, rdF_cons e]
        rw [if_pos (by rfl), if_pos (by rfl)]
        rfl
      · refine ⟨[⟨x, y, i, j, q⟩], ?_, by simp [sumP, hv]⟩
        rw [hk, ha, if_neg (by omega), if_neg (by omega), List.cons_append, rdF_cons e]
        rw [if_neg (by show ¬ (1 : Int) = 0; omega), if_pos (by rfl), if_pos ⟨by unfold inB; simp; omega, by simpa using hs⟩]
        rfl
      · refine ⟨[⟨x, y, i, j, q⟩], ?_, by simp [sumP, hv]⟩
        rw [hk, ha, if_neg (by omega), if_neg (by omega), List.cons_append, rdF_cons e]
        rw [if_neg (by show ¬ (2 : Int) = 0; omega), if_neg (by show ¬ (2 : Int) = 1; omega), if_pos (by rfl), if_pos ⟨by unfold inB; simp; omega, by simpa using hs⟩]
        rfl
      · rw [h]
        simp only
        rw [if_pos trivial, List.cons_append, rdF_cons e]
        simp only
        obtain ⟨p1, e1, s1⟩ := ih x y z j (planN kerf ss n (i - (z + kerf)) j ++ rest) (by omega)
        obtain ⟨p2, e2, s2⟩ := ih (x + (z + kerf)) y (i - (z + kerf)) j rest (by omega)
        refine ⟨p1 ++ p2, ?_, ?_⟩
        · rw [if_neg (by omega), if_neg (by omega), if_neg (by omega), if_pos trivial, if_pos (by unfold inB; simp; omega), List.append_assoc, e1, Option.bind_some, e2]
          rfl
        · rw [sumP_append, s1, s2, show (i : Int) - (z + kerf) = i - z - kerf by omega]
      · rw [h]
        simp only
        rw [if_neg (by omega), if_pos trivial, List.cons_append, rdF_cons e]
        simp only
        obtain ⟨p1, e1, s1⟩ := ih x y i z (planN kerf ss n i (j - (z + kerf)) ++ rest) (by omega)
        obtain ⟨p2, e2, s2⟩ := ih x (y + (z + kerf)) i (j - (z + kerf)) rest (by omega)
        refine ⟨p1 ++ p2, ?_, ?_⟩
        · rw [if_neg (by omega), if_neg (by omega), if_neg (by omega), if_neg (by omega), if_pos trivial, if_pos (by unfold inB; simp; omega), List.append_assoc, e1, Option.bind_some, e2]
          rfl
        · rw [sumP_append, s1, s2, show (j : Int) - (z + kerf) = j - z - kerf by omega]
end Go.Proofs.Ytkfjlgjncaddpaa
