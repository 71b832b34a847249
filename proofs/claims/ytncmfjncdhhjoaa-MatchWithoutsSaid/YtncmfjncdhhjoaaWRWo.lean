/- The reference's Without: the table without a row. -/
import Derived.Test.YtncmfjncdhhjoaaMWo
import Derived.Test.YtncmfjncdhhjoaaWTbl
namespace Go.Proofs.Ytncmfjncdhhjoaa
open Go.RowKit

set_option maxHeartbeats 8000000 in
set_option maxRecDepth 100000 in
theorem refWithout_any (A : Option Addr) (c L n m r : Nat) (ls : List (List Int)) (w : World) (T : Tab w.heap.size w A ls) (hL : L = n + 1) (G : Good (n + 1) m ls) (hr : r ≤ n) (hn64 : n ≤ 64) :
    Calls Try.prog 41 #[.slice A L c, .int .i64 (r : Int)] w fun e w' => ∃ g cap, e = .returned (.slice (some ⟨g, 0, none⟩) n cap) ∧ Tab w'.heap.size w' (some ⟨g, 0, none⟩) (ls.eraseIdx r) ∧ Below w.heap.size w w' := by
  obtain ⟨rows, hrl, hVB, hrow⟩ := T
  have hlen := G.rows
  obtain ⟨g0, off0, rfl, hg0, hcells⟩ := hVB (by omega)
  have htab : ∀ (W : World) (g cap : Nat), Below w.heap.size w W → Hd 23 W g cap (rows.eraseIdx r) → Tab W.heap.size W (some ⟨g, 0, none⟩) (ls.eraseIdx r) := fun W g cap hW hH => by
    refine ⟨rows.eraseIdx r, by rw [List.length_eraseIdx, List.length_eraseIdx, hrl], VB.of_vals hH.vals, fun i l hi => ?_⟩
    rw [List.getElem?_eraseIdx] at hi ⊢
    by_cases hir : i < r
    · rw [if_pos hir] at hi ⊢
      obtain ⟨Ai, ci, e, hv⟩ := hrow _ l hi
      exact ⟨Ai, ci, e, (hv.keep hW).mono hW.size⟩
    · rw [if_neg hir] at hi ⊢
      obtain ⟨Ai, ci, e, hv⟩ := hrow _ l hi
      exact ⟨Ai, ci, e, (hv.keep hW).mono hW.size⟩
  have hat : ∀ (W : World) (hW : Below w.heap.size w W) (i : Nat), i < L → ∃ Ai Li ci, rows[i]? = some (.slice Ai Li ci) ∧ W.cell? ⟨g0, off0 + i, none⟩ = some (.slice Ai Li ci) := fun W hW i hi => by
    obtain ⟨Ai, ci, e, _⟩ := hrow i (ls[i]'(by omega)) (List.getElem?_eq_getElem _)
    exact ⟨Ai, _, ci, e, (hW.cell (p := ⟨g0, off0 + i, none⟩) hg0).trans (hcells i _ e)⟩
  have hnx : ∀ (i K : Nat) (x : Value), rows[i]? = some x → ((K = i ∧ i < r) ∨ (K + 1 = i ∧ r < i)) → (rows.eraseIdx r).take (K + 1) = (rows.eraseIdx r).take K ++ [x] := fun i K x hx h => by
    rw [List.take_add_one]
    congr 1
    have : (rows.eraseIdx r)[K]? = some x := by
      rw [List.getElem?_eraseIdx]
      rcases h with ⟨rfl, h⟩ | ⟨rfl, h⟩
      · rw [if_pos h]; exact hx
      · rw [if_neg (by omega)]; exact hx
    rw [this]; rfl
  have hall : (rows.eraseIdx r).take n = rows.eraseIdx r := List.take_of_length_le (by rw [List.length_eraseIdx]; split <;> omega)
  obtain ⟨i0, hi0, hz0, hz1, hz2⟩ := info_parts info23
  have ho : (w.alloc (.cells #[] 23)).ownsRow w.heap.size 23 1 (.slice (some ⟨w.heap.size, 0, none⟩) 0 0) 0 ((rows.eraseIdx r).take 0) := by
    rw [List.take_zero]; exact own_empty w 23
  have HO := Lib.hid ho
  have HB := Lib.hid (below_new w (.cells #[] 23))
  have HTAB := Lib.hid htab
  have HAT := Lib.hid hat
  have HNX := Lib.hid hnx
  have HALL := Lib.hid hall
  have HLL := Lib.hid hL
  have hL65 : L ≤ 65 := by omega
  clear ho htab hat hnx hall hrl hVB hrow hcells hlen G hL
  go_enter Try.func41, Try.ntmps41
  go_wp2_with (fail)
  go_loopw [5, 6] (fun v t wr => ∃ (i K g cap : Nat), i ≤ L ∧ K ≤ i ∧ t = .int .i64 (i : Int) ∧ v = .slice (some ⟨g, 0, none⟩) K cap ∧ Hid ((K = i ∧ i ≤ r) ∨ (K + 1 = i ∧ r < i)) ∧ Hid (wr.ownsRow w.heap.size 23 1 (.slice (some ⟨g, 0, none⟩) K cap) K ((rows.eraseIdx r).take K)) ∧ Below w.heap.size w wr) (fun _ t _ => L - (intOf t).toNat)
  case atStart => exact ⟨0, 0, w.heap.size, 0, Nat.zero_le _, Nat.le_refl _, rfl, rfl, Lib.hid (.inl ⟨rfl, Nat.zero_le _⟩), HO, HB.out⟩
  case round =>
    clear HO HB
    obtain ⟨i, K, g, cap, hi, hKi, rfl, rfl, HK, HO, hl⟩ := hrel
    by_cases hlt : i < L
    · have hiI : (i : Int) < (L : Int) := by omega
      obtain ⟨Ai, Li, ci, hri, hci⟩ := HAT.out wr hl i hlt
      by_cases hir : i = r
      · have hb : ((i : Int) != (r : Int)) = false := by simp; omega
        have HK2 : Hid ((K = i + 1 ∧ i + 1 ≤ r) ∨ (K + 1 = i + 1 ∧ r < i + 1)) := Lib.hid (.inr (by have := HK.out; omega))
        clear hir
        go_wp2_with (fail)
        go_roundw
        case rel => exact ⟨i + 1, K, g, cap, by omega, by omega, by go_num, rfl, HK2, HO, hl⟩
        case measure => simp [intOf]; omega
      · have hb : ((i : Int) != (r : Int)) = true := by simp; omega
        have HN := Lib.hid (HNX.out i K _ hri (by have := HK.out; omega))
        have HK2 : Hid ((K + 1 = i + 1 ∧ i + 1 ≤ r) ∨ (K + 1 + 1 = i + 1 ∧ r < i + 1)) := Lib.hid (by have := HK.out; omega)
        have HO2 := Lib.hid (HO.out.alloc (.cells #[.slice Ai Li ci] 23))
        clear hir hri
        go_wp2_with (at_builtin
                     refine wpList_append_own _ rfl _ _ 22 rfl w.heap.size 23 i0 (.slice none 0 0) 1 24 Try.underlying22 hi0 hz0 hz1 hz2 rfl (by decide) (Value.slice (some ⟨g, 0, none⟩) K cap) K _ rfl HO2.out ⟨wr.heap.size, 0, none⟩ 1 _ [.slice Ai Li ci] rfl rfl (cell_one_new _ _ _) (by simp [Value.oneCell']) ?c4 ?c5 ?c6 ?_)
        case c4 => unfold maxLen; omega
        case c5 => omega
        case c6 => have := hl.size; simp; omega
        intro v' w1 hown hgr hne
        have hown2 : w1.ownsRow w.heap.size 23 1 v' (K + 1) ((rows.eraseIdx r).take (K + 1)) := by rw [HN.out]; exact hown
        have hnv : v' ≠ .slice none 0 0 := by simpa using hne
        have hb1 : Below w.heap.size w w1 := (hl.trans ((below_new wr _).mono hl.size)).grown hgr (by have := hl.size; simp; omega) (by
          intro k hk
          simp only [Value.ownBlock, Option.some.injEq] at hk
          subst hk
          exact (HO2.out.lt g rfl).1)
        rcases hown2.2 with ⟨hx, -⟩ | ⟨g3, cap3, -, rfl, -⟩
        · exact absurd hx hnv
        · have HO3 := Lib.hid hown2
          clear hown hown2 hgr hne hnv HN
          go_wp2_with (fail)
          go_roundw
          case rel => exact ⟨i + 1, K + 1, g3, cap3, by omega, by omega, by go_num, rfl, HK2, HO3, hb1⟩
          case measure => simp [intOf]; omega
    · obtain rfl : i = L := by omega
      have hKn : K = n := by have := HK.out; have := HLL.out; omega
      subst hKn
      have hres : Tab wr.heap.size wr (some ⟨g, 0, none⟩) (ls.eraseIdx r) := by
        have ho := HO.out
        rw [HALL.out] at ho
        obtain ⟨g4, cap4, e4, _, _, hH⟩ := Hd.of_owns ho (by intro e; injection e with e; cases e)
        injection e4 with e4 _ _
        injection e4 with e4
        injection e4 with e4
        subst e4
        exact HTAB.out wr g cap4 hl hH
      have HR := Lib.hid hres
      clear hres
      go_wp2
      go_ret
      exact ⟨g, cap, rfl, HR.out, hl⟩
end Go.Proofs.Ytncmfjncdhhjoaa
