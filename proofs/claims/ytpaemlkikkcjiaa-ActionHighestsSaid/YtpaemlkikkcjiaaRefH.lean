/- Plain: the reference's rounds from the top are the rounds over the turned ties. -/
import Derived.Test.YtpaemlkikkcjiaaRefP
namespace Go.Proofs.Ytpaemlkikkcjiaa

def turnL (ts : List T3) (top : Int) : List T3 := ts.map (turnT top)
theorem refRun_left (A B : List T3) (x : Nat → Int) (i : Nat) (hi : i ≤ A.length) : refRun (A ++ B) i x = refRun A i x := by
  induction i with
  | zero => rfl
  | succ i ih =>
    have ih := ih (by omega)
    have e : (A ++ B)[i]? = A[i]? := List.getElem?_append_left (by omega)
    simp only [refRun, e, ih]
theorem refRun_right (A B : List T3) (hB : ∀ t, t ∈ B → t.b < 0) (x : Nat → Int) (j : Nat) (hj : j ≤ B.length) : refRun (A ++ B) (A.length + j) x = refRun A A.length x := by
  induction j with
  | zero => exact refRun_left A B x A.length (Nat.le_refl _)
  | succ j ih =>
    have ih := ih (by omega)
    have e : (A ++ B)[A.length + j]? = B[j]? := by rw [List.getElem?_append_right (by omega)]; congr 1; omega
    obtain ⟨t, ht⟩ : ∃ t, B[j]? = some t := ⟨B[j]'(by omega), List.getElem?_eq_getElem _⟩
    have hb := hB t (List.mem_of_getElem? ht)
    have h1 : refRun (A ++ B) (A.length + j + 1) x = refStep t (refRun (A ++ B) (A.length + j) x) := refRun_succ (e.trans ht) x
    rw [← Nat.add_assoc, h1, ih]
    unfold refStep
    rw [if_neg (fun h => by omega)]
theorem refRnds_top (ts : List T3) (n : Nat) (top : Int) (k : Nat) : refRnds (topT n ts top) k = refRnds (turnL ts top) k := by
  have e : topT n ts top = turnL ts top ++ (floorT n).map (turnT top) := by simp [topT, allT, turnL]
  have hB : ∀ t, t ∈ (floorT n).map (turnT top) → t.b < 0 := by
    intro t ht
    simp only [floorT, List.mem_map, List.mem_range] at ht
    obtain ⟨_, ⟨i, hi, rfl⟩, rfl⟩ := ht
    simp [turnT]
  induction k with
  | zero => rfl
  | succ k ih =>
    simp only [refRnds, ih]
    have := refRun_right (turnL ts top) ((floorT n).map (turnT top)) hB (refRnds (turnL ts top) k) ((floorT n).map (turnT top)).length (Nat.le_refl _)
    rw [← List.length_append, ← e] at this
    exact this
/-- The heights that the reference holds after r rounds and i ties. -/
def hiX (ts : List T3) (top : Int) (r i : Nat) : Nat → Int := fun j => top - refRun (turnL ts top) i (refRnds (turnL ts top) r) j
theorem hiX_zero (ts : List T3) (top : Int) : hiX ts top 0 0 = fun _ => top := by funext j; simp [hiX, refRun, refRnds]
theorem hiX_round (ts : List T3) (top : Int) (r : Nat) : hiX ts top r ts.length = hiX ts top (r + 1) 0 := by
  funext j
  have : (turnL ts top).length = ts.length := by simp [turnL]
  simp only [hiX, refRun, refRnds, this]
theorem hiX_step {ts : List T3} {top : Int} {r i : Nat} {t : T3} (ht : ts[i]? = some t) (ha : -1 ≤ t.a) (hb : -1 ≤ t.b) :
    hiX ts top r (i + 1) = if 0 ≤ t.a ∧ atX (hiX ts top r i) t.b - t.l < hiX ts top r i t.a.toNat then upd (hiX ts top r i) t.a.toNat (atX (hiX ts top r i) t.b - t.l) else hiX ts top r i := by
  have h1 : (turnL ts top)[i]? = some (turnT top t) := by simp [turnL, ht]
  have h2 := refRun_succ h1 (refRnds (turnL ts top) r)
  have e1 : atX (hiX ts top r i) t.b = (if t.b = -1 then 0 else top) - atX (refRun (turnL ts top) i (refRnds (turnL ts top) r)) t.b := atX_top hb
  rw [e1]
  unfold hiX
  rw [h2]
  generalize refRun (turnL ts top) i (refRnds (turnL ts top) r) = D
  by_cases h0 : 0 ≤ t.a
  · have e2 : atX D t.a = D t.a.toNat := by unfold atX; rw [if_neg (by omega)]
    have e3 : (turnT top t).l = t.l + (if t.b = -1 then top else 0) := by unfold turnT; simp only; rw [if_neg (by omega)]; omega
    have e4 : (turnT top t).a = t.b := rfl
    have e5 : (turnT top t).b = t.a := rfl
    have e6 : atX D t.b + (t.l + (if t.b = -1 then top else 0)) = top - ((if t.b = -1 then 0 else top) - atX D t.b - t.l) := by split <;> omega
    by_cases hc : (if t.b = -1 then 0 else top) - atX D t.b - t.l < top - D t.a.toNat
    · rw [if_pos ⟨h0, hc⟩]
      unfold refStep
      rw [if_pos ⟨by rw [e5]; exact h0, by rw [e5, e4, e3, e2, e6]; omega⟩, e5, e4, e3, e6]
      funext j
      by_cases hj : j = t.a.toNat
      · rw [hj, upd_at, upd_at]; omega
      · rw [upd_ne hj, upd_ne hj]
    · rw [if_neg (fun h => hc h.2)]
      unfold refStep
      rw [if_neg (fun h => by have := h.2; rw [e5, e4, e3, e2, e6] at this; omega)]
  · rw [if_neg (fun h => h0 h.1)]
    unfold refStep
    rw [if_neg (fun h => h0 h.1)]
theorem hiX_bd {ts : List T3} {M top : Int} (hM : 0 ≤ M) (h0 : 0 ≤ top) (h1 : top ≤ M) (hl : ∀ t, t ∈ ts → t.l ≤ M) (r i j : Nat) : hiX ts top r i j ≤ top ∧ top - ((r : Int) * (ts.length * (M + M)) + (i : Int) * (M + M)) ≤ hiX ts top r i j := by
  have hl2 : ∀ t, t ∈ turnL ts top → t.l ≤ M + M := by
    intro t ht
    simp only [turnL, List.mem_map] at ht
    obtain ⟨u, hu, rfl⟩ := ht
    have := hl u hu
    simp only [turnT]
    split <;> split <;> omega
  have q1 := refRnds_bd (ts := turnL ts top) (M := M + M) (by omega) hl2 r
  have q0 : 0 ≤ (r : Int) * (((turnL ts top).length : Int) * (M + M)) := Int.mul_nonneg (by omega) (Int.mul_nonneg (by omega) (by omega))
  have q2 := refRun_bd (ts := turnL ts top) q1.1 q1.2 q0 (by omega) hl2 i
  have e : (turnL ts top).length = ts.length := by simp [turnL]
  rw [e] at q2
  have q3 := q2.1 j
  have q4 := q2.2 j
  unfold hiX
  omega
/-- If a solution below the top exists, the reference's rounds lead to the greatest one. -/
theorem hiX_great {n : Nat} {M top : Int} {ts : List T3} (ho : OkL n M ts) (hM : 0 ≤ M) (h0 : 0 ≤ top) (h1 : top ≤ M) {y : Nat → Int} (hy : SolT n ts top y) : Great n ts top (hiX ts top (n + 1) 0) := by
  have h := refRnds_least (okT_top ho hM h0 h1) ((sol_turn ho hM).2 hy)
  rw [refRnds_top] at h
  exact great_of ho hM h
end Go.Proofs.Ytpaemlkikkcjiaa
