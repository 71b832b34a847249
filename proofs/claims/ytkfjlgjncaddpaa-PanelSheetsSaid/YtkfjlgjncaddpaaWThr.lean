/- What the four readers of a plan say, put together. -/
import Derived.Test.YtkfjlgjncaddpaaPn
import Derived.Test.YtkfjlgjncaddpaaRda
namespace Go.Proofs.Ytkfjlgjncaddpaa
open Go.RowKit

def Bad4 (w : World) (q g n cap : Nat) (X Y K : Int) (zs : List Sh) (A2 : Option Addr) (M2 c2 : Nat) (l2 : List Cu) (ec : Int) : Prop := ∀ V, PnM w V q g n cap X Y K zs → CuAt V A2 l2 →
  (Calls Try.prog 28 #[.int .i64 X, .int .i64 Y, .int .i64 K, .slice (some ⟨g, 0, none⟩) n cap, .slice A2 M2 c2] V fun e w' => e = .returned (.tuple #[.slice none 0 0, .int .i64 ec]) ∧ Below V.heap.size V w') ∧
  (Calls Try.prog 27 #[.int .i64 X, .int .i64 Y, .int .i64 K, .slice (some ⟨g, 0, none⟩) n cap, .slice A2 M2 c2] V fun e w' => e = .returned (.tuple #[.int .i64 0, .int .i64 ec]) ∧ Below V.heap.size V w') ∧
  (Calls Try.prog 29 #[.int .i64 X, .int .i64 Y, .int .i64 K, .slice (some ⟨g, 0, none⟩) n cap, .slice A2 M2 c2] V fun e w' => e = .returned (.tuple #[.slice none 0 0, .int .i64 ec]) ∧ Below V.heap.size V w') ∧
  (Calls Try.prog 30 #[.int .i64 X, .int .i64 Y, .int .i64 K, .slice (some ⟨g, 0, none⟩) n cap, .slice A2 M2 c2] V fun e w' => e = .returned (.tuple #[.int .i64 0, .int .i64 ec]) ∧ Below V.heap.size V w')
def Ok4 (w : World) (q g n cap i j k : Nat) (zs : List Sh) (A2 : Option Addr) (M2 c2 : Nat) (l2 : List Cu) (ps : List Pc) : Prop := ∀ V, PnM w V q g n cap i j k zs → CuAt V A2 l2 →
  (Calls Try.prog 28 #[.int .i64 (i : Int), .int .i64 (j : Int), .int .i64 (k : Int), .slice (some ⟨g, 0, none⟩) n cap, .slice A2 M2 c2] V fun e w' => ∃ A3 c3, e = .returned (.tuple #[.slice A3 ps.length c3, .int .i64 0]) ∧ PcAt w' A3 ps ∧ Below V.heap.size V w') ∧
  (Calls Try.prog 27 #[.int .i64 (i : Int), .int .i64 (j : Int), .int .i64 (k : Int), .slice (some ⟨g, 0, none⟩) n cap, .slice A2 M2 c2] V fun e w' => e = .returned (.tuple #[.int .i64 (sumP (vOf zs) ps), .int .i64 0]) ∧ Below V.heap.size V w') ∧
  (Calls Try.prog 29 #[.int .i64 (i : Int), .int .i64 (j : Int), .int .i64 (k : Int), .slice (some ⟨g, 0, none⟩) n cap, .slice A2 M2 c2] V fun e w' => ∃ g', e = .returned (.tuple #[.slice (some ⟨g', 0, none⟩) n n, .int .i64 0]) ∧ V.heap.size ≤ g' ∧ Blk 3 w' g' (fl (cntN ps) n) ∧ Below V.heap.size V w') ∧
  (Calls Try.prog 30 #[.int .i64 (i : Int), .int .i64 (j : Int), .int .i64 (k : Int), .slice (some ⟨g, 0, none⟩) n cap, .slice A2 M2 c2] V fun e w' => e = .returned (.tuple #[.int .i64 ((i : Int) * j - sumP aOf ps), .int .i64 0]) ∧ Below V.heap.size V w')
theorem four (w : World) (q g n cap : Nat) (X Y K : Int) (zs : List Sh) (A2 : Option Addr) (M2 c2 : Nat) (l2 : List Cu) (hM : M2 = l2.length) (hc : M2 ≤ c2) (hnil : A2 = none → c2 = 0) (hcm : c2 ≤ maxLen) (hMs : M2 ≤ 100000) :
    (∃ ec : Int, (ec = 1 ∧ okP X Y K zs = false ∨ ec = 2 ∧ okP X Y K zs = true ∧ ∀ i j k : Nat, X = i → Y = j → K = k → lay k zs i j l2 = none) ∧ Bad4 w q g n cap X Y K zs A2 M2 c2 l2 ec) ∨
    (∃ (i j k : Nat) (ps : List Pc), X = i ∧ Y = j ∧ K = k ∧ okP X Y K zs = true ∧ lay k zs i j l2 = some ps ∧ Ok4 w q g n cap i j k zs A2 M2 c2 l2 ps) := by
  have hly := fun V (h : PnM w V q g n cap X Y K zs) (hp : CuAt V A2 l2) => layout_any X Y K (some ⟨g, 0, none⟩) A2 cap n c2 M2 zs l2 V h.sh.vals h.len.1 (by have := h.len; omega) hp hM hc hnil hcm hMs
  have hwo := fun V (h : PnM w V q g n cap X Y K zs) (hp : CuAt V A2 l2) => worth_any X Y K (some ⟨g, 0, none⟩) A2 cap n c2 M2 zs l2 V h.sh.vals h.len.1 (by have := h.len; omega) hp hM hc hnil hcm hMs
  have hcn := fun V (h : PnM w V q g n cap X Y K zs) (hp : CuAt V A2 l2) => counts_any X Y K (some ⟨g, 0, none⟩) A2 cap n c2 M2 zs l2 V h.sh.vals h.len.1 (by have := h.len; omega) hp hM hc hnil hcm hMs
  have hwa := fun V (h : PnM w V q g n cap X Y K zs) (hp : CuAt V A2 l2) => waste_any X Y K (some ⟨g, 0, none⟩) A2 cap n c2 M2 zs l2 V h.sh.vals h.len.1 (by have := h.len; omega) hp hM hc hnil hcm hMs
  unfold LayPost at hly
  unfold RedPost at hwo hwa
  unfold CntPost at hcn
  cases hok : okP X Y K zs with
  | false =>
    left
    refine ⟨1, .inl ⟨rfl, rfl⟩, fun V h hp => ⟨?_, ?_, ?_, ?_⟩⟩
    · refine (hly V h hp).mono fun e w' ⟨hb, h1⟩ => ?_
      rcases h1 with ⟨_, h2⟩ | ⟨_, _, _, _, _, _, h2, _⟩
      · exact ⟨h2, hb⟩
      · rw [hok] at h2; cases h2
    · refine (hwo V h hp).mono fun e w' ⟨hb, h1⟩ => ?_
      rcases h1 with ⟨_, h2⟩ | ⟨_, _, _, _, _, _, h2, _⟩
      · exact ⟨h2, hb⟩
      · rw [hok] at h2; cases h2
    · refine (hcn V h hp).mono fun e w' ⟨hb, h1⟩ => ?_
      rcases h1 with ⟨_, h2⟩ | ⟨_, _, _, _, _, _, h2, _⟩
      · exact ⟨h2, hb⟩
      · rw [hok] at h2; cases h2
    · refine (hwa V h hp).mono fun e w' ⟨hb, h1⟩ => ?_
      rcases h1 with ⟨_, h2⟩ | ⟨_, _, _, _, _, _, h2, _⟩
      · exact ⟨h2, hb⟩
      · rw [hok] at h2; cases h2
  | true =>
    obtain ⟨i, j, k, rfl, rfl, rfl, _⟩ := okP_ok hok
    cases hl : lay k zs i j l2 with
    | none =>
      left
      refine ⟨2, .inr ⟨rfl, rfl, fun i' j' k' e1 e2 e3 => ?_⟩, fun V h hp => ⟨?_, ?_, ?_, ?_⟩⟩
      · obtain rfl : i = i' := by omega
        obtain rfl : j = j' := by omega
        obtain rfl : k = k' := by omega
        exact hl
      · refine (hly V h hp).mono fun e w' ⟨hb, h1⟩ => ?_
        rcases h1 with ⟨h2, _⟩ | ⟨i', j', k', q1, q2, q3, _, ⟨_, h2⟩ | ⟨ps, vp, h2, _⟩⟩
        · rw [hok] at h2; cases h2
        · exact ⟨h2, hb⟩
        · obtain rfl : i = i' := by omega
          obtain rfl : j = j' := by omega
          obtain rfl : k = k' := by omega
          rw [hl] at h2; cases h2
      · refine (hwo V h hp).mono fun e w' ⟨hb, h1⟩ => ?_
        rcases h1 with ⟨h2, _⟩ | ⟨i', j', k', q1, q2, q3, _, ⟨_, h2⟩ | ⟨ps, h2, _⟩⟩
        · rw [hok] at h2; cases h2
        · exact ⟨h2, hb⟩
        · obtain rfl : i = i' := by omega
          obtain rfl : j = j' := by omega
          obtain rfl : k = k' := by omega
          rw [hl] at h2; cases h2
      · refine (hcn V h hp).mono fun e w' ⟨hb, h1⟩ => ?_
        rcases h1 with ⟨h2, _⟩ | ⟨i', j', k', q1, q2, q3, _, ⟨_, h2⟩ | ⟨ps, g2, h2, _⟩⟩
        · rw [hok] at h2; cases h2
        · exact ⟨h2, hb⟩
        · obtain rfl : i = i' := by omega
          obtain rfl : j = j' := by omega
          obtain rfl : k = k' := by omega
          rw [hl] at h2; cases h2
      · refine (hwa V h hp).mono fun e w' ⟨hb, h1⟩ => ?_
        rcases h1 with ⟨h2, _⟩ | ⟨i', j', k', q1, q2, q3, _, ⟨_, h2⟩ | ⟨ps, h2, _⟩⟩
        · rw [hok] at h2; cases h2
        · exact ⟨h2, hb⟩
        · obtain rfl : i = i' := by omega
          obtain rfl : j = j' := by omega
          obtain rfl : k = k' := by omega
          rw [hl] at h2; cases h2
    | some ps =>
      right
      refine ⟨i, j, k, ps, rfl, rfl, rfl, rfl, hl, fun V h hp => ⟨?_, ?_, ?_, ?_⟩⟩
      · refine (hly V h hp).mono fun e w' ⟨hb, h1⟩ => ?_
        rcases h1 with ⟨h2, _⟩ | ⟨i', j', k', q1, q2, q3, _, ⟨h2, _⟩ | ⟨ps', vp, h2, h3, h4⟩⟩
        · rw [hok] at h2; cases h2
        · obtain rfl : i = i' := by omega
          obtain rfl : j = j' := by omega
          obtain rfl : k = k' := by omega
          rw [hl] at h2; cases h2
        · obtain rfl : i = i' := by omega
          obtain rfl : j = j' := by omega
          obtain rfl : k = k' := by omega
          rw [hl] at h2
          injection h2 with h2
          subst h2
          obtain ⟨A3, c3, rfl, hv⟩ := own_slice h4
          exact ⟨A3, c3, h3, hv, hb⟩
      · refine (hwo V h hp).mono fun e w' ⟨hb, h1⟩ => ?_
        rcases h1 with ⟨h2, _⟩ | ⟨i', j', k', q1, q2, q3, _, ⟨h2, _⟩ | ⟨ps', h2, h3⟩⟩
        · rw [hok] at h2; cases h2
        · obtain rfl : i = i' := by omega
          obtain rfl : j = j' := by omega
          obtain rfl : k = k' := by omega
          rw [hl] at h2; cases h2
        · obtain rfl : i = i' := by omega
          obtain rfl : j = j' := by omega
          obtain rfl : k = k' := by omega
          rw [hl] at h2
          injection h2 with h2
          subst h2
          exact ⟨h3, hb⟩
      · refine (hcn V h hp).mono fun e w' ⟨hb, h1⟩ => ?_
        rcases h1 with ⟨h2, _⟩ | ⟨i', j', k', q1, q2, q3, _, ⟨h2, _⟩ | ⟨ps', g', h2, h3, h4, h5⟩⟩
        · rw [hok] at h2; cases h2
        · obtain rfl : i = i' := by omega
          obtain rfl : j = j' := by omega
          obtain rfl : k = k' := by omega
          rw [hl] at h2; cases h2
        · obtain rfl : i = i' := by omega
          obtain rfl : j = j' := by omega
          obtain rfl : k = k' := by omega
          rw [hl] at h2
          injection h2 with h2
          subst h2
          exact ⟨g', h3, h4, h5, hb⟩
      · refine (hwa V h hp).mono fun e w' ⟨hb, h1⟩ => ?_
        rcases h1 with ⟨h2, _⟩ | ⟨i', j', k', q1, q2, q3, _, ⟨h2, _⟩ | ⟨ps', h2, h3⟩⟩
        · rw [hok] at h2; cases h2
        · obtain rfl : i = i' := by omega
          obtain rfl : j = j' := by omega
          obtain rfl : k = k' := by omega
          rw [hl] at h2; cases h2
        · obtain rfl : i = i' := by omega
          obtain rfl : j = j' := by omega
          obtain rfl : k = k' := by omega
          rw [hl] at h2
          injection h2 with h2
          subst h2
          exact ⟨h3, hb⟩
end Go.Proofs.Ytkfjlgjncaddpaa
