/- Plain: what a clash is, said of the list that is returned: each tie ends where the next one begins, no tie begins where another one does, and together they are worth more than 0. -/
import Derived.Test.YtpaemlkikkcjiaaReg
namespace Go.Proofs.Ytpaemlkikkcjiaa

/-- A list of m indexes, whose ties lead from place to place. -/
structure Loop (all : List T3) (n m : Nat) (ix V : Nat → Nat) (W : Nat → Int) : Prop where
  pos : 1 ≤ m
  le : m ≤ n + 1
  at_ : ∀ j, j < m → ∃ t, all[ix j]? = some t ∧ t.a = (V (m - j) : Int) - 1 ∧ t.b = (V (m - 1 - j) : Int) - 1 ∧ W (m - j) = W (m - 1 - j) + t.l ∧ -1000000 ≤ t.l ∧ t.l ≤ 1000000
  low : ∀ j, V j ≤ n
  back : V m = V 0
  dist : ∀ i j, i < m → j < m → V i = V j → i = j
  sum : 0 < W m
  zero : W 0 = 0
  bnd : ∀ i, i ≤ m → -(1000000 * (i : Int)) ≤ W i ∧ W i ≤ 1000000 * (i : Int)

theorem Loop.next {all : List T3} {n m : Nat} {ix V : Nat → Nat} {W : Nat → Int} (h : Loop all n m ix V W) {i : Nat} (hi : i < m) : V (m - (i + 1) % m) = V (m - 1 - i) := by
  by_cases e : i + 1 = m
  · have e1 : (i + 1) % m = 0 := by rw [e]; exact Nat.mod_self m
    have e2 : m - 1 - i = 0 := by omega
    rw [e1, e2, Nat.sub_zero]; exact h.back
  · rw [Nat.mod_eq_of_lt (by omega)]
    congr 1; omega
theorem Loop.apart {all : List T3} {n m : Nat} {ix V : Nat → Nat} {W : Nat → Int} (h : Loop all n m ix V W) {i k : Nat} (hi : i < m) (hk : k < i) : V (m - k) ≠ V (m - i) := by
  intro e
  by_cases e0 : k = 0
  · subst e0
    rw [Nat.sub_zero, h.back] at e
    have := h.dist 0 (m - i) (by omega) (by omega) e
    omega
  · have := h.dist (m - k) (m - i) (by omega) (by omega) e
    omega

theorem loop_of {ts : List T3} {n m q : Nat} {by_ : Nat → Nat} (ho : OkL n 1000000 ts) (hm : m ≤ n + 1) (hc : Circ (teL ts) by_ q m) (hq : ∀ j, bck (teL ts) by_ q j ≤ n) :
    Loop ts n m (fun j => by_ (bck (teL ts) by_ q (m - 1 - j))) (bck (teL ts) by_ q) (sumW (teL ts) by_ q) := by
  have key : ∀ j, ∃ t, ts[by_ (bck (teL ts) by_ q j)]? = some t ∧ t.a = (bck (teL ts) by_ q (j + 1) : Int) - 1 ∧ t.b = (bck (teL ts) by_ q j : Int) - 1 ∧ wgt (teL ts) by_ (bck (teL ts) by_ q j) = t.l ∧ -1000000 ≤ t.l ∧ t.l ≤ 1000000 := fun j => by
    obtain ⟨e, he, hb, ha⟩ := hc.tie j
    have hw : wgt (teL ts) by_ (bck (teL ts) by_ q j) = e.l := by unfold wgt; rw [he]
    unfold teL at he
    rw [List.getElem?_map, Option.map_eq_some_iff] at he
    obtain ⟨t, ht, rfl⟩ := he
    obtain ⟨a1, a2, a3, a4, a5, a6⟩ := ho t (List.mem_of_getElem? ht)
    refine ⟨t, ht, ?_, ?_, hw, a5, a6⟩
    · rw [← ha]; simp only [teOf, plc]; omega
    · rw [← hb]; simp only [teOf, plc]; omega
  refine ⟨hc.pos, hm, fun j hj => ?_, hq, hc.back, hc.dist, hc.sum, rfl, fun i hi => ?_⟩
  · obtain ⟨t, h1, h2, h3, h4, h5, h6⟩ := key (m - 1 - j)
    have e : m - 1 - j + 1 = m - j := by omega
    rw [e] at h2
    refine ⟨t, h1, h2, h3, ?_, h5, h6⟩
    rw [← e]
    simp only [sumW]
    rw [h4]
  · induction i with
    | zero => simp [sumW]
    | succ i ih =>
      obtain ⟨t, _, _, _, h4, h5, h6⟩ := key i
      have := ih (by omega)
      simp only [sumW]
      rw [h4]; omega
end Go.Proofs.Ytpaemlkikkcjiaa
