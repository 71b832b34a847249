/- cut: the first ints of a slice, in memory of the call's own. -/
import Derived.Test.YtncmfjncdhhjoaaTabM
import Derived.Test.YtncmfjncdhhjoaaRep
import Derived.Laws.AppendOwn
import Derived.Laws.AppendOwnNone
namespace Go.Proofs.Ytncmfjncdhhjoaa
open Go.RowKit

/-- A row of the call's own that reads as these ints. -/
def OwnIs (w : World) (l : List Int) (e : Ending) (w' : World) : Prop := ∃ v, e = .returned v ∧ w'.ownsRow w.heap.size 3 1 v l.length (is l) ∧ (∃ g cap, v = .slice (some ⟨g, 0, none⟩) l.length cap ∧ Ints w' (some ⟨g, 0, none⟩) l) ∧ Below w.heap.size w w'
theorem own_written {w : World} {B : Nat} {v : Value} {n : Nat} {l : List Int} (h : w.ownsRow B 3 1 v n (is l)) (hv : v ≠ .slice none 0 0) : ∃ g cap, v = .slice (some ⟨g, 0, none⟩) l.length cap ∧ Ints w (some ⟨g, 0, none⟩) l ∧ n = l.length ∧ B ≤ g ∧ g < w.heap.size := by
  obtain ⟨g, cap, e, hg, hn, hH⟩ := Hd.of_owns h hv
  rw [is_len] at e hn
  exact ⟨g, cap, e, hH.vals, hn, hg, hH.lt⟩

set_option maxHeartbeats 1000000 in
set_option maxRecDepth 100000 in
theorem cut_any (A : Option Addr) (c L n : Nat) (l : List Int) (w : World) (hA : Ints w A l) (hL : L = l.length) (hc : L ≤ c) (hnil : A = none → c = 0) (hn : n ≤ 1000) :
    Calls Try.prog 22 #[.slice A L c, .int .i64 (n : Int)] w (OwnIs w (l.take n)) := by
  have hA1 : Ints (w.alloc (.cells #[] 3)) A (l.take n) := by
    have := (Vals.take hA n).keep (below_new w (.cells #[] 3))
    rwa [is_take] at this
  have ho := own_empty w 3
  have hbA := below_new w (.cells #[] 3)
  obtain ⟨m, hm⟩ : ∃ m, (l.take n).length = m := ⟨_, rfl⟩
  obtain ⟨ys, hys⟩ : ∃ ys, l.take n = ys := ⟨_, rfl⟩
  have hmn : m ≤ 1000 := by rw [← hm, List.length_take]; omega
  have hmL : m = if n < L then n else L := by rw [← hm, List.length_take, hL]; split <;> omega
  have hpos : 0 < L → ∃ ad, A = some ad := fun h => by
    obtain ⟨g, off, e, _⟩ := hA (by rw [is_len]; omega)
    exact ⟨_, e⟩
  rw [hys] at hm hA1 ⊢
  obtain ⟨i0, hi, hz0, hz1, hz2⟩ := info_parts infoI
  have HM := Lib.hid hm
  have HA := Lib.hid hA1
  have HO := Lib.hid ho
  clear hys hm hA1 ho hA hL
  have hfin : ∀ (v' : Value) (w1 : World), w1.ownsRow w.heap.size 3 1 v' m (is ys) → v' ≠ .slice none 0 0 → w1.ownsRow w.heap.size 3 1 v' ys.length (is ys) ∧ ∃ g cap, v' = .slice (some ⟨g, 0, none⟩) ys.length cap ∧ Ints w1 (some ⟨g, 0, none⟩) ys := by
    intro v' w1 h hv
    rw [← HM.out] at h
    obtain ⟨g, cap, e, h1, _⟩ := own_written h hv
    exact ⟨h, g, cap, e, h1⟩
  have HF := Lib.hid hfin
  clear hfin
  by_cases hlt : n < L
  · rw [if_pos hlt] at hmL
    subst hmL
    obtain ⟨ad, rfl⟩ := hpos (by omega)
    go_enter Try.func22, Try.ntmps22
    go_wp2_with (at_builtin
                 refine wpList_append_own _ rfl _ _ 23 rfl w.heap.size 3 i0 (.int .i64 0) 1 8 Try.underlying23 hi hz0 hz1 hz2 rfl (by decide) _ _ _ rfl HO.out ad m _ (is ys) rfl ?c1 (vals_cells HA.out) (is_one _) ?c4 ?c5 (by simp) ?_)
    case c1 => rw [is_len, HM.out]; omega
    case c4 => unfold maxLen; omega
    case c5 => omega
    intro v' w1 hown hgr hne
    have hb1 := hbA.grown hgr hbA.size (by simp [Value.ownBlock])
    have hres := HF.out v' w1 hown (by simpa using hne)
    go_wp2
    go_ret
    exact ⟨_, rfl, hres.1, hres.2, hb1⟩
  · rw [if_neg hlt] at hmL
    subst hmL
    rcases A with _ | ad
    · have h0 : m = 0 := by
        rcases Nat.eq_zero_or_pos m with h | h
        · exact h
        · obtain ⟨ad, e⟩ := hpos h; cases e
      have hy : ys = [] := List.eq_nil_of_length_eq_zero (by rw [HM.out]; exact h0)
      have hc0 := hnil rfl
      subst h0
      subst hc0
      have HY := Lib.hid hy
      clear hy hnil hpos
      go_enter Try.func22, Try.ntmps22
      go_wp2_with (at_builtin; refine wpList_append_own_none rfl _ _ 23 rfl w.heap.size 3 i0 1 Try.underlying23 hi _ _ _ rfl HO.out rfl ?_)
      go_ret
      refine ⟨_, rfl, ?_, ?_, hbA⟩
      · rw [HY.out]
        exact HO.out
      · rw [HY.out]
        exact ⟨_, _, rfl, Vals.nil⟩
    · clear hnil hpos
      go_enter Try.func22, Try.ntmps22
      go_wp2_with (at_builtin
                   refine wpList_append_own _ rfl _ _ 23 rfl w.heap.size 3 i0 (.int .i64 0) 1 8 Try.underlying23 hi hz0 hz1 hz2 rfl (by decide) _ _ _ rfl HO.out ad m _ (is ys) rfl ?c1 (vals_cells HA.out) (is_one _) ?c4 ?c5 (by simp) ?_)
      case c1 => rw [is_len, HM.out]; omega
      case c4 => unfold maxLen; omega
      case c5 => omega
      intro v' w1 hown hgr hne
      have hb1 := hbA.grown hgr hbA.size (by simp [Value.ownBlock])
      have hres := HF.out v' w1 hown (by simpa using hne)
      go_wp2
      go_ret
      exact ⟨_, rfl, hres.1, hres.2, hb1⟩
end Go.Proofs.Ytncmfjncdhhjoaa
