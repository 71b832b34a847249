/- Best of valid panels; shapes that may be turned. -/
import Derived.Test.YtkfjlgjncaddpaaPn
import Derived.Test.YtkfjlgjncaddpaaWRck
import Derived.Deep.Cut
import Derived.Deep.CutRange
import Derived.Deep.RegionHeld3
namespace Go.Proofs.Ytkfjlgjncaddpaa
open Go.RowKit

theorem ok_ints {W H K : Int} {ss : List Sh} (h : okP W H K ss = true) : ∃ i j k : Nat, W = (i : Int) ∧ H = (j : Int) ∧ K = (k : Int) ∧ 1 ≤ i ∧ i ≤ 64 ∧ 1 ≤ j ∧ j ≤ 64 ∧ k ≤ 8 ∧ ss.length ≤ 16 ∧ OkS ss := okP_ok h
/-- Best of a valid panel, its value alone. -/
theorem best_val (i j k : Nat) (A : Option Addr) (c L : Nat) (ss : List Sh) (w : World) (hA : ShAt w A ss) (hL : L = ss.length) (hLs : L ≤ 1000000) (hok : okP i j k ss = true) :
    Calls Try.prog 23 #[.int .i64 (i : Int), .int .i64 (j : Int), .int .i64 (k : Int), .slice A L c] w fun e w' => ∃ v, e = .returned (.tuple #[v, .int .i64 (best k ss i j).v, .int .i64 0]) ∧ Below w.heap.size w w' := by
  refine (pbest_any i j k A c L ss w hA hL hLs).mono fun e w' ⟨hb, h1⟩ => ?_
  rcases h1 with ⟨h2, _⟩ | ⟨i', j', k', q1, q2, q3, _, g', cap', h2, _⟩
  · rw [hok] at h2; cases h2
  · obtain rfl : i = i' := by omega
    obtain rfl : j = j' := by omega
    obtain rfl : k = k' := by omega
    exact ⟨_, h2, hb⟩
theorem best_bad (W H K : Int) (A : Option Addr) (c L : Nat) (ss : List Sh) (w : World) (hA : ShAt w A ss) (hL : L = ss.length) (hLs : L ≤ 1000000) (hok : okP W H K ss = false) :
    Calls Try.prog 23 #[.int .i64 W, .int .i64 H, .int .i64 K, .slice A L c] w fun e w' => e = .returned (.tuple #[.slice none 0 0, .int .i64 0, .int .i64 1]) ∧ Below w.heap.size w w' := by
  refine (pbest_any W H K A c L ss w hA hL hLs).mono fun e w' ⟨hb, h1⟩ => ?_
  rcases h1 with ⟨_, h2⟩ | ⟨_, _, _, _, _, _, h2, _⟩
  · exact ⟨h2, hb⟩
  · rw [hok] at h2; cases h2
/-- The first m shapes may be turned. -/
def trn (ss : List Sh) (m : Nat) : List Sh := (ss.take m).map (fun s => { s with t := true }) ++ ss.drop m
theorem trn_zero (ss : List Sh) : trn ss 0 = ss := by simp [trn]
theorem trn_all (ss : List Sh) : trn ss ss.length = ss.map (fun s => { s with t := true }) := by simp [trn]
theorem trn_len (ss : List Sh) (m : Nat) : (trn ss m).length = ss.length := by simp [trn]; omega
theorem trn_at {ss : List Sh} {m : Nat} (h : m < ss.length) : (trn ss m).getD m sh0 = ss.getD m sh0 := by
  unfold trn
  rw [List.getD_eq_getElem?_getD, List.getElem?_append_right (by simp; omega)]
  simp
  rw [show m - min m ss.length = 0 from by omega]
  simp
theorem trn_set {ss : List Sh} {m : Nat} (h : m < ss.length) : (sc (trn ss m)).set (m * 4 + 3) (.bool true) = sc (trn ss (m + 1)) := by
  have hd : ss.drop m = ss[m] :: ss.drop (m + 1) := List.drop_eq_getElem_cons h
  have e1 : trn ss m = (ss.take m).map (fun s => { s with t := true }) ++ (ss[m] :: ss.drop (m + 1)) := by unfold trn; rw [hd]
  have e2 : trn ss (m + 1) = (ss.take m).map (fun s => { s with t := true }) ++ ({ ss[m] with t := true } :: ss.drop (m + 1)) := by
    unfold trn
    rw [List.take_succ_eq_append_getElem h, List.map_append, List.append_assoc]; rfl
  rw [e1, e2, sc_append, sc_append]
  have hl : (sc ((ss.take m).map (fun s => { s with t := true }))).length = m * 4 := by rw [sc_len]; simp; omega
  rw [List.set_append_right _ _ (by omega), hl]
  congr 1
  rw [show m * 4 + 3 - m * 4 = 3 from by omega]
  rfl
theorem trn_ok {ss : List Sh} (h : OkS ss) : OkS (ss.map (fun s => { s with t := true })) := fun s hs => by
  obtain ⟨x, hx, rfl⟩ := List.mem_map.1 hs
  exact h x hx
end Go.Proofs.Ytkfjlgjncaddpaa
