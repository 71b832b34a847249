/- Plain: regulations, their least and greatest solutions, what the program's and the reference's rounds find. -/
import Derived.Test.YtpaemlkikkcjiaaRais
namespace Go.Proofs.Ytpaemlkikkcjiaa

/-- A tie as the program has it. -/
structure T3 where
  a : Int
  b : Int
  l : Int
def plc (a : Int) : Nat := (a + 1).toNat
def teOf (t : T3) : Te := ⟨plc t.a, plc t.b, t.l⟩
/-- Indexes that are there, a Least of at most M. -/
def OkT (n : Nat) (M : Int) (t : T3) : Prop := -1 ≤ t.a ∧ t.a ≤ (n : Int) - 1 ∧ -1 ≤ t.b ∧ t.b ≤ (n : Int) - 1 ∧ -M ≤ t.l ∧ t.l ≤ M
def OkL (n : Nat) (M : Int) (ts : List T3) : Prop := ∀ t, t ∈ ts → OkT n M t
/-- The height of a variable; that of -1 is 0. -/
def atX (x : Nat → Int) (a : Int) : Int := if a < 0 then 0 else x a.toNat
def Ties (ts : List T3) (x : Nat → Int) : Prop := ∀ t, t ∈ ts → t.l ≤ atX x t.b - atX x t.a
def Sol (n : Nat) (ts : List T3) (x : Nat → Int) : Prop := (∀ i, i < n → 0 ≤ x i) ∧ Ties ts x
structure Least (n : Nat) (ts : List T3) (x : Nat → Int) : Prop where
  sol : Sol n ts x
  low : ∀ y, Sol n ts y → ∀ i, i < n → x i ≤ y i
theorem Least.unique {n : Nat} {ts : List T3} {x y : Nat → Int} (h : Least n ts x) (g : Least n ts y) : ∀ i, i < n → x i = y i := fun i hi => by
  have h1 := h.low y g.sol i hi
  have h2 := g.low x h.sol i hi
  omega

def floorT (n : Nat) : List T3 := (List.range n).map fun (i : Nat) => ⟨-1, (i : Int), 0⟩
/-- The program's ties: those that are given, and the floor. -/
def allT (n : Nat) (ts : List T3) : List T3 := ts ++ floorT n
def teL (ts : List T3) : List Te := ts.map teOf
/-- The reference's ties: those that can raise a variable. -/
def upT (ts : List T3) : List T3 := ts.filter fun t => decide (0 ≤ t.b)

theorem teL_len (ts : List T3) : (teL ts).length = ts.length := by simp [teL]
theorem teL_at {ts : List T3} {i : Nat} {t : T3} (h : ts[i]? = some t) : (teL ts)[i]? = some (teOf t) := by simp [teL, h]
theorem allT_len (n : Nat) (ts : List T3) : (allT n ts).length = ts.length + n := by simp [allT, floorT]
theorem okT_floor (n : Nat) {M : Int} (hM : 0 ≤ M) : OkL n M (floorT n) := by
  intro t ht
  simp only [floorT, List.mem_map, List.mem_range] at ht
  obtain ⟨i, hi, rfl⟩ := ht
  refine ⟨?_, ?_, ?_, ?_, ?_, ?_⟩ <;> simp only <;> omega
theorem okL_all {n : Nat} {M : Int} {ts : List T3} (h : OkL n M ts) (hM : 0 ≤ M) : OkL n M (allT n ts) := by
  intro t ht
  rcases List.mem_append.1 ht with h1 | h1
  · exact h t h1
  · exact okT_floor n hM t h1
theorem te_bounds {n : Nat} {M : Int} {ts : List T3} (h : OkL n M ts) : (∀ t, t ∈ teL ts → t.a ≤ n) ∧ (∀ t, t ∈ teL ts → t.b ≤ n) ∧ ∀ t, t ∈ teL ts → t.l ≤ M := by
  refine ⟨?_, ?_, ?_⟩ <;>
  · intro t ht
    simp only [teL, List.mem_map] at ht
    obtain ⟨u, hu, rfl⟩ := ht
    obtain ⟨_, _, _, _, _, _⟩ := h u hu
    simp only [teOf, plc]; omega

/-- A solution as heights of places. -/
def lift (n : Nat) (x : Nat → Int) (p : Nat) : Int := if p = 0 then 0 else if p ≤ n then x (p - 1) else 0
theorem lift_at {n : Nat} {M : Int} {t : T3} (x : Nat → Int) (h : OkT n M t) : lift n x (plc t.a) = atX x t.a ∧ lift n x (plc t.b) = atX x t.b := by
  have key : ∀ a : Int, -1 ≤ a → a ≤ (n : Int) - 1 → lift n x (plc a) = atX x a := by
    intro a h1 h2
    unfold lift atX plc
    by_cases ha : a < 0
    · rw [if_pos ha, if_pos (by omega)]
    · rw [if_neg ha, if_neg (by omega), if_pos (by omega)]
      congr 1; omega
  exact ⟨key _ h.1 h.2.1, key _ h.2.2.1 h.2.2.2.1⟩
theorem lift_pos {n : Nat} {x : Nat → Int} (h : ∀ i, i < n → 0 ≤ x i) (p : Nat) : 0 ≤ lift n x p := by
  unfold lift
  split
  · exact Int.le_refl _
  · split
    · exact h _ (by omega)
    · exact Int.le_refl _
theorem sat_lift {n : Nat} {M : Int} {ts : List T3} {x : Nat → Int} (hx : Ties ts x) (ho : OkL n M ts) : Sat (teL ts) (lift n x) := by
  intro t ht
  simp only [teL, List.mem_map] at ht
  obtain ⟨u, hu, rfl⟩ := ht
  have h1 := lift_at x (ho u hu)
  have h2 := hx u hu
  simp only [teOf]
  rw [h1.1, h1.2]; omega
theorem ties_all {n : Nat} {ts : List T3} {x : Nat → Int} (h : Sol n ts x) : Ties (allT n ts) x := by
  intro t ht
  rcases List.mem_append.1 ht with h1 | h1
  · exact h.2 t h1
  · simp only [floorT, List.mem_map, List.mem_range] at h1
    obtain ⟨i, hi, rfl⟩ := h1
    have := h.1 i hi
    simp only [atX]
    rw [if_neg (by omega), if_pos (by omega)]
    simp only [Int.toNat_natCast]; omega
theorem sat_all {n : Nat} {M : Int} {ts : List T3} {x : Nat → Int} (h : Sol n ts x) (ho : OkL n M ts) (hM : 0 ≤ M) : Sat (teL (allT n ts)) (lift n x) := sat_lift (ties_all h) (okL_all ho hM)
theorem sol_sat {n : Nat} {M : Int} {ts : List T3} {y : Nat → Int} (ho : OkL n M ts) (h : Sat (teL (allT n ts)) y) : Sol n ts (fun i => y (i + 1) - y 0) := by
  have key : ∀ a : Int, -1 ≤ a → atX (fun i => y (i + 1) - y 0) a = y (plc a) - y 0 := by
    intro a ha
    unfold atX plc
    by_cases h1 : a < 0
    · have : (a + 1).toNat = 0 := by omega
      rw [if_pos h1, this]; omega
    · have : (a + 1).toNat = a.toNat + 1 := by omega
      rw [if_neg h1, this]
  refine ⟨fun i hi => ?_, fun t ht => ?_⟩
  · have := h (teOf ⟨-1, (i : Int), 0⟩) (by
      refine List.mem_map.2 ⟨⟨-1, (i : Int), 0⟩, ?_, rfl⟩
      refine List.mem_append.2 (.inr ?_)
      simp only [floorT, List.mem_map, List.mem_range]
      exact ⟨i, hi, rfl⟩)
    simp only [teOf, plc] at this
    have e1 : ((-1 : Int) + 1).toNat = 0 := by omega
    have e2 : ((i : Int) + 1).toNat = i + 1 := by omega
    rw [e1, e2] at this
    show 0 ≤ y (i + 1) - y 0
    omega
  · have h1 := h (teOf t) (List.mem_map.2 ⟨t, List.mem_append.2 (.inl ht), rfl⟩)
    simp only [teOf] at h1
    obtain ⟨h2, _, h3, _⟩ := ho t ht
    rw [key _ h2, key _ h3]; omega

/-- The program's rounds: what settles is the least solution. -/
theorem prog_least {n : Nat} {M : Int} {ts : List T3} (ho : OkL n M ts) (hM : 0 ≤ M) {k : Nat} (h : (rnds (teL (allT n ts)) (k + 1)).r = none) :
    (rnds (teL (allT n ts)) (k + 1)).h 0 = 0 ∧ Least n ts (fun i => (rnds (teL (allT n ts)) (k + 1)).h (i + 1)) := by
  have hb := te_bounds (okL_all ho hM)
  have hs := sat_of_none (n := n) hb.2.1 h
  have hsol := sol_sat ho hs
  have hle : ∀ y, Sol n ts y → ∀ p, (rnds (teL (allT n ts)) (k + 1)).h p ≤ lift n y p := fun y hy => rnds_le (sat_all hy ho hM) (lift_pos hy.1) (k + 1)
  have h0 : (rnds (teL (allT n ts)) (k + 1)).h 0 = 0 := by
    have h1 := hle _ hsol 0
    have h2 := rnds_up (teL (allT n ts)) (k + 1) 0
    simp only [lift, if_true] at h1
    omega
  refine ⟨h0, ?_, fun y hy i hi => ?_⟩
  · have e : (fun i => (rnds (teL (allT n ts)) (k + 1)).h (i + 1) - (rnds (teL (allT n ts)) (k + 1)).h 0) = (fun i => (rnds (teL (allT n ts)) (k + 1)).h (i + 1)) := by funext i; rw [h0]; omega
    rw [← e]; exact hsol
  · have := hle y hy (i + 1)
    simp only [lift] at this
    rw [if_neg (by omega), if_pos (by omega)] at this
    exact this
/-- What still rises after n + 1 rounds leads into a circle, and there is no solution. -/
theorem prog_none {n : Nat} {M : Int} {ts : List T3} (ho : OkL n M ts) (hM : 0 ≤ M) {p : Nat} (h : (rnds (teL (allT n ts)) (n + 1)).r = some p) :
    (∃ m, m ≤ n + 1 ∧ Circ (teL (allT n ts)) (rnds (teL (allT n ts)) (n + 1)).by_ (bck (teL (allT n ts)) (rnds (teL (allT n ts)) (n + 1)).by_ p (n + 1)) m) ∧ (∀ x, ¬ Sol n ts x) ∧
      (∀ j, ∃ t, (teL (allT n ts))[(rnds (teL (allT n ts)) (n + 1)).by_ (bck (teL (allT n ts)) (rnds (teL (allT n ts)) (n + 1)).by_ p j)]? = some t ∧ t.b = bck (teL (allT n ts)) (rnds (teL (allT n ts)) (n + 1)).by_ p j ∧ t.a = bck (teL (allT n ts)) (rnds (teL (allT n ts)) (n + 1)).by_ p (j + 1)) ∧ p ≤ n := by
  have hb := te_bounds (okL_all ho hM)
  obtain ⟨⟨m, hm, hc⟩, hj⟩ := circ_of hb.1 hb.2.1 h
  refine ⟨⟨m, hm, hc⟩, ?_, hj⟩
  exact (fun x hx => no_sat hc _ (sat_all hx ho hM))

theorem mem_up {ts : List T3} {t : T3} : t ∈ upT ts ↔ t ∈ ts ∧ 0 ≤ t.b := by simp [upT]
theorem okL_up {n : Nat} {M : Int} {ts : List T3} (h : OkL n M ts) : OkL n M (upT ts) := fun t ht => h t (mem_up.1 ht).1
/-- The ground is never raised where no tie ends there. -/
theorem ground_run {ts : List Te} (hb : ∀ t, t ∈ ts → t.b ≠ 0) {s : Ra} (hs : s.h 0 = 0) (i : Nat) : (runT ts i s).h 0 = 0 := by
  induction i with
  | zero => exact hs
  | succ i ih =>
    unfold runT
    cases ht : ts[i]? with
    | none => exact ih
    | some t =>
      simp only [tieStep]
      split
      · simp only [upd]
        rw [if_neg (fun e => hb t (List.mem_of_getElem? ht) e.symm)]
        exact ih
      · exact ih
theorem ground_rnds {ts : List Te} (hb : ∀ t, t ∈ ts → t.b ≠ 0) (k : Nat) : (rnds ts k).h 0 = 0 := by
  induction k with
  | zero => rfl
  | succ k ih => exact ground_run hb (s := clr (rnds ts k)) ih _
theorem up_ne {ts : List T3} : ∀ t, t ∈ teL (upT ts) → t.b ≠ 0 := by
  intro t ht
  simp only [teL, List.mem_map] at ht
  obtain ⟨u, hu, rfl⟩ := ht
  have := (mem_up.1 hu).2
  simp only [teOf, plc]; omega
/-- The reference's rounds: they find the least solution, if there is one. -/
theorem ref_least {n : Nat} {M : Int} {ts : List T3} (ho : OkL n M ts) {y : Nat → Int} (hy : Sol n ts y) :
    Least n ts (fun i => (rnds (teL (upT ts)) (n + 1)).h (i + 1)) := by
  have hou := okL_up ho
  have hb := te_bounds hou
  have hsat : ∀ z, Sol n ts z → Sat (teL (upT ts)) (lift n z) := fun z hz => sat_lift (fun t ht => hz.2 t (mem_up.1 ht).1) hou
  have hle : ∀ z, Sol n ts z → ∀ p, (rnds (teL (upT ts)) (n + 1)).h p ≤ lift n z p := fun z hz => rnds_le (hsat z hz) (lift_pos hz.1) (n + 1)
  have h0 := ground_rnds (up_ne (ts := ts)) (n + 1)
  have hup := rnds_up (teL (upT ts)) (n + 1)
  have hs : Sat (teL (upT ts)) (rnds (teL (upT ts)) (n + 1)).h := by
    cases hr : (rnds (teL (upT ts)) (n + 1)).r with
    | none => exact sat_of_none (n := n) hb.2.1 hr
    | some p =>
      obtain ⟨⟨m, _, hc⟩, _⟩ := circ_of hb.1 hb.2.1 hr
      exact absurd (hsat y hy) (fun hx => no_sat hc _ hx)
  generalize rnds (teL (upT ts)) (n + 1) = s at *
  have key : ∀ a : Int, -1 ≤ a → atX (fun i => s.h (i + 1)) a = s.h (plc a) := by
    intro a ha
    unfold atX plc
    by_cases h1 : a < 0
    · have : (a + 1).toNat = 0 := by omega
      rw [if_pos h1, this, h0]
    · have : (a + 1).toNat = a.toNat + 1 := by omega
      rw [if_neg h1, this]
  have hlow : ∀ z, Sol n ts z → ∀ i, i < n → s.h (i + 1) ≤ z i := by
    intro z hz i hi
    have := hle z hz (i + 1)
    simp only [lift] at this
    rw [if_neg (by omega), if_pos (by omega)] at this
    exact this
  refine ⟨⟨fun i _ => hup _, fun t ht => ?_⟩, hlow⟩
  obtain ⟨h1, h2, h3, _⟩ := ho t ht
  by_cases hb0 : 0 ≤ t.b
  · have h4 := hs (teOf t) (List.mem_map.2 ⟨t, mem_up.2 ⟨ht, hb0⟩, rfl⟩)
    simp only [teOf] at h4
    rw [key _ h1, key _ h3]; omega
  · have h4 := hy.2 t ht
    have h5 := hle y hy (plc t.a)
    have h6 := (lift_at y (ho t ht)).1
    have e : t.b = -1 := by omega
    rw [key _ h1, e]
    rw [e] at h4
    have e1 : atX y (-1) = 0 := by simp [atX]
    have e2 : atX (fun i => s.h (i + 1)) (-1) = 0 := by simp [atX]
    rw [e1] at h4
    rw [e2]; omega

/-! From the top. -/
def turnT (top : Int) (t : T3) : T3 := ⟨t.b, t.a, t.l - (if t.a = -1 then top else 0) + (if t.b = -1 then top else 0)⟩
def topT (n : Nat) (ts : List T3) (top : Int) : List T3 := (allT n ts).map (turnT top)
def SolT (n : Nat) (ts : List T3) (top : Int) (x : Nat → Int) : Prop := Sol n ts x ∧ ∀ i, i < n → x i ≤ top
structure Great (n : Nat) (ts : List T3) (top : Int) (x : Nat → Int) : Prop where
  sol : SolT n ts top x
  high : ∀ y, SolT n ts top y → ∀ i, i < n → y i ≤ x i
theorem Great.unique {n : Nat} {ts : List T3} {top : Int} {x y : Nat → Int} (h : Great n ts top x) (g : Great n ts top y) : ∀ i, i < n → x i = y i := fun i hi => by
  have h1 := h.high y g.sol i hi
  have h2 := g.high x h.sol i hi
  omega
theorem okT_top {n : Nat} {M top : Int} {ts : List T3} (h : OkL n M ts) (hM : 0 ≤ M) (h0 : 0 ≤ top) (h1 : top ≤ M) : OkL n (M + M) (topT n ts top) := by
  intro t ht
  simp only [topT, List.mem_map] at ht
  obtain ⟨u, hu, rfl⟩ := ht
  obtain ⟨a1, a2, a3, a4, a5, a6⟩ := okL_all h hM u hu
  refine ⟨a3, a4, a1, a2, ?_, ?_⟩ <;> simp only [turnT] <;> split <;> split <;> omega
theorem topT_len (n : Nat) (ts : List T3) (top : Int) : (topT n ts top).length = ts.length + n := by simp [topT, allT_len]
theorem atX_top {x : Nat → Int} {top a : Int} (ha : -1 ≤ a) : atX (fun i => top - x i) a = (if a = -1 then 0 else top) - atX x a := by
  unfold atX
  by_cases h : a < 0
  · have e : a = -1 := by omega
    subst e; simp
  · rw [if_neg h, if_neg h, if_neg (by omega)]
/-- Distances from the top satisfy the turned ties just where the heights satisfy the ties. -/
theorem sol_turn {n : Nat} {M top : Int} {ts : List T3} {x : Nat → Int} (h : OkL n M ts) (hM : 0 ≤ M) : Sol n (topT n ts top) (fun i => top - x i) ↔ SolT n ts top x := by
  have hall := okL_all h hM
  have one : ∀ t, t ∈ allT n ts → ((turnT top t).l ≤ atX (fun i => top - x i) (turnT top t).b - atX (fun i => top - x i) (turnT top t).a ↔ t.l ≤ atX x t.b - atX x t.a) := by
    intro t ht
    obtain ⟨a1, a2, a3, a4, _, _⟩ := hall t ht
    simp only [turnT]
    rw [atX_top a1, atX_top a3]
    by_cases e1 : t.a = -1 <;> by_cases e2 : t.b = -1 <;> simp [e1, e2] <;> omega
  constructor
  · rintro ⟨h1, h2⟩
    have ht : Ties (allT n ts) x := fun t ht => (one t ht).1 (h2 _ (List.mem_map.2 ⟨t, ht, rfl⟩))
    refine ⟨⟨fun i hi => ?_, fun t hm => ht t (List.mem_append.2 (.inl hm))⟩, fun i hi => by have := h1 i hi; simp only at this; omega⟩
    have := ht ⟨-1, (i : Int), 0⟩ (List.mem_append.2 (.inr (by simp only [floorT, List.mem_map, List.mem_range]; exact ⟨i, hi, rfl⟩)))
    simp only [atX] at this
    rw [if_neg (by omega), if_pos (by omega)] at this
    simpa using this
  · rintro ⟨h1, h2⟩
    refine ⟨fun i hi => by have := h2 i hi; simp only; omega, fun t ht => ?_⟩
    simp only [topT, List.mem_map] at ht
    obtain ⟨u, hu, rfl⟩ := ht
    exact (one u hu).2 (ties_all h1 u hu)
theorem great_of {n : Nat} {M top : Int} {ts : List T3} {d : Nat → Int} (h : OkL n M ts) (hM : 0 ≤ M) (hd : Least n (topT n ts top) d) : Great n ts top (fun i => top - d i) := by
  have e : ∀ z : Nat → Int, (fun i => top - (fun i => top - z i) i) = z := by intro z; funext i; simp only; omega
  refine ⟨(sol_turn h hM).1 (by rw [e]; exact hd.sol), fun y hy i hi => ?_⟩
  have h2 : d i ≤ top - y i := hd.low _ ((sol_turn (x := y) h hM).2 hy) i hi
  show y i ≤ top - d i
  omega
theorem none_top {n : Nat} {M top : Int} {ts : List T3} (h : OkL n M ts) (hM : 0 ≤ M) (hd : ∀ d, ¬ Sol n (topT n ts top) d) (x : Nat → Int) : ¬ SolT n ts top x := fun hx => hd _ ((sol_turn h hM).2 hx)
end Go.Proofs.Ytpaemlkikkcjiaa
