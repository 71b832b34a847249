import Derived.Test.YtaegkhdkhgemmaaLives
namespace Go.Proofs.Ytaegkhdkhgemmaa
open Go.RowKit Num

/-- Limbs of the call's own. -/
def OwnLs (B : Nat) (w : World) (v : Value) (ys : List Nat) : Prop := w.ownsRow B 56 1 v ys.length (ints .u32 ys)
theorem OwnLs.limbs {B : Nat} {w : World} {v : Value} {ys : List Nat} (h : OwnLs B w v ys) (hl : ys.length ≤ 1000000000000) : Limbs w v ys := by
  obtain ⟨A, c, e, hc, hn⟩ := own_reads h
  exact ⟨A, c, e, hc, hl, hn⟩
def LsPost (w : World) (ys : List Nat) (e : Ending) (w' : World) : Prop := ∃ v, e = .returned v ∧ OwnLs w.heap.size w' v ys ∧ Below w.heap.size w w'

theorem own_empty (w : World) (T : TypeId) : (w.alloc (.cells #[] T)).ownsRow w.heap.size T 1 (.slice (some ⟨w.heap.size, 0, none⟩) 0 0) 0 [] :=
  ⟨rfl, .inr ⟨w.heap.size, 0, #[], rfl, Nat.le_refl _, heap_alloc_new _ _, Nat.le_refl _, by unfold maxLen; omega, rfl, rfl⟩⟩

theorem nums_cells {k : IntKind} {w : World} {ad : Addr} {xs : List Nat} (h : Nums k w (some ad) xs) : ∀ (j : Nat) (u : Value), (ints k xs)[j]? = some u → w.cell? (ad.add j) = some u := by
  intro j u hu
  simp only [ints, List.getElem?_map, Option.map_eq_some_iff] at hu
  obtain ⟨x, hx, rfl⟩ := hu
  obtain ⟨g, off, e, _, hc⟩ := h (by have := (List.getElem?_eq_some_iff.1 hx).1; omega)
  injection e with e
  subst e
  have := hc j x hx
  unfold Addr.add
  split
  · rename_i h0; subst h0; exact this
  · exact this
theorem ints_one (k : IntKind) (xs : List Nat) : ∀ u ∈ ints k xs, u.oneCell' = true := by
  intro u hu
  simp only [ints, List.mem_map] at hu
  obtain ⟨x, _, rfl⟩ := hu
  rfl

set_option maxHeartbeats 1000000 in
set_option maxRecDepth 100000 in
theorem cut_any (A : Option Addr) (c L n : Nat) (xs : List Nat) (w : World) (hA : Nums .u32 w A xs) (hL : L = xs.length) (hc : L ≤ c) (hnil : A = none → c = 0) (hn : n ≤ 1000) :
    Calls Try.prog 26 #[.slice A L c, .int .i64 (n : Int)] w (LsPost w (xs.take n)) := by
  have hA1 := (hA.take n).keep (below_new w (.cells #[] 56))
  have ho := own_empty w 56
  have hbA := below_new w (.cells #[] 56)
  obtain ⟨m, hm⟩ : ∃ m, (xs.take n).length = m := ⟨_, rfl⟩
  obtain ⟨ys, hys⟩ : ∃ ys, xs.take n = ys := ⟨_, rfl⟩
  have hmn : m ≤ 1000 := by rw [← hm, List.length_take]; omega
  have hmL : m = if n < L then n else L := by rw [← hm, List.length_take, hL]; split <;> omega
  have hpos : 0 < L → ∃ ad, A = some ad := fun h => by
    obtain ⟨g, off, e, _⟩ := hA (by omega)
    exact ⟨_, e⟩
  rw [hys] at hm hA1 ⊢
  obtain ⟨i0, hi, hz0, hz1, hz2⟩ := info_parts info56
  have HM := Lib.hid hm
  have HA := Lib.hid hA1
  have HO := Lib.hid ho
  clear hys hm hA1 ho hA hL
  by_cases hlt : n < L
  · rw [if_pos hlt] at hmL
    subst hmL
    obtain ⟨ad, rfl⟩ := hpos (by omega)
    go_enter Try.func26, Try.ntmps26
    go_wp2_with (at_builtin
                 refine wpList_append_own _ rfl _ _ 23 rfl w.heap.size 56 i0 (.int .u32 0) 1 4 Try.underlying23 hi hz0 hz1 hz2 rfl (by decide) _ _ _ rfl HO.out ad m _ (ints .u32 ys) rfl ?c1 (nums_cells HA.out) (ints_one _ _) ?c4 ?c5 (by simp) ?_)
    case c1 => rw [ints_len, HM.out]; omega
    case c4 => unfold maxLen; omega
    case c5 => omega
    intro v' w1 hown hgr _
    have hb1 := hbA.grown hgr hbA.size (by simp [Value.ownBlock])
    go_wp2
    go_ret
    rw [← HM.out] at hown
    exact ⟨_, rfl, hown, hb1⟩
  · rw [if_neg hlt] at hmL
    subst hmL
    rcases A with _ | ad
    · have h0 : m = 0 := by
        rcases Nat.eq_zero_or_pos m with h | h
        · exact h
        · obtain ⟨ad, e⟩ := hpos h; cases e
      have hy : ys = [] := List.eq_nil_of_length_eq_zero (by rw [HM.out]; exact h0)
      have hc0 := hnil rfl
      subst h0
      subst hc0
      have HY := Lib.hid hy
      clear hy hnil hpos
      go_enter Try.func26, Try.ntmps26
      go_wp2_with (at_builtin; refine wpList_append_own_none rfl _ _ 23 rfl w.heap.size 56 i0 1 Try.underlying23 hi _ _ _ rfl HO.out rfl ?_)
      go_ret
      refine ⟨_, rfl, ?_, hbA⟩
      rw [HY.out]
      exact HO.out
    · clear hnil hpos
      go_enter Try.func26, Try.ntmps26
      go_wp2_with (at_builtin
                   refine wpList_append_own _ rfl _ _ 23 rfl w.heap.size 56 i0 (.int .u32 0) 1 4 Try.underlying23 hi hz0 hz1 hz2 rfl (by decide) _ _ _ rfl HO.out ad m _ (ints .u32 ys) rfl ?c1 (nums_cells HA.out) (ints_one _ _) ?c4 ?c5 (by simp) ?_)
      case c1 => rw [ints_len, HM.out]; omega
      case c4 => unfold maxLen; omega
      case c5 => omega
      intro v' w1 hown hgr _
      have hb1 := hbA.grown hgr hbA.size (by simp [Value.ownBlock])
      go_wp2
      go_ret
      rw [← HM.out] at hown
      exact ⟨_, rfl, hown, hb1⟩
end Go.Proofs.Ytaegkhdkhgemmaa
