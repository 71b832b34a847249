/- The reference's All: the numbers of the rows. -/
import Derived.Test.YtncmfjncdhhjoaaWRMo
namespace Go.Proofs.Ytncmfjncdhhjoaa
open Go.RowKit

theorem fl_snoc (f : Nat → Int) (n : Nat) : fl f n ++ is [f n] = fl f (n + 1) := by
  simp [fl, is, List.range_succ]
set_option maxHeartbeats 4000000 in
set_option maxRecDepth 100000 in
theorem all_own (A : Option Addr) (cT L : Nat) (hL : L ≤ 64) (w : World) :
    Calls Try.prog 37 #[.slice A L cT] w fun e w' => ∃ g cap, e = .returned (.slice (some ⟨g, 0, none⟩) L cap) ∧ Vals w' (some ⟨g, 0, none⟩) (fl (fun j => (j : Int)) L) ∧ Below w.heap.size w w' := by
  obtain ⟨i0, hi0, hz0, hz1, hz2⟩ := info_parts infoI
  go_enter Try.func37, Try.ntmps37
  go_wp2_with (fail)
  have hlA := below_new w (.cells #[] 3)
  have o1 := own_emptyM w w.heap.size (Nat.le_refl _)
  have HO1 := Lib.hid o1
  clear o1
  generalize w.alloc (.cells #[] 3) = W1 at *
  go_loopw [3, 4] (fun v t wr => ∃ (k g cap : Nat), k ≤ L ∧ w.heap.size ≤ g ∧ t = .int .i64 (k : Int) ∧ v = .slice (some ⟨g, 0, none⟩) k cap ∧ Hid (wr.ownsRow w.heap.size 3 1 (.slice (some ⟨g, 0, none⟩) k cap) k (fl (fun j => (j : Int)) k)) ∧ Below w.heap.size w wr) (fun _ t _ => L - (intOf t).toNat)
  case atStart => exact ⟨0, w.heap.size, 0, Nat.zero_le _, Nat.le_refl _, rfl, rfl, HO1, hlA⟩
  case round =>
    clear HO1 hlA
    obtain ⟨k, g, cap, hkm, hg4, rfl, rfl, HOW, hl⟩ := hrel
    by_cases hlk : k < L
    · have hlk2 : (k : Int) < (L : Int) := by omega
      have ho2 := ownsRow_keep HOW.out (below_new wr (.cells #[.int .i64 (k : Int)] 3))
      have hl5 : Below w.heap.size w (wr.alloc (.cells #[.int .i64 (k : Int)] 3)) := bel_alloc hl hl.size
      have hv2 : Vals (wr.alloc (.cells #[.int .i64 (k : Int)] 3)) (some ⟨wr.heap.size, 0, none⟩) (is [(k : Int)]) := (Blk.new wr 3 [.int .i64 (k : Int)]).vals0
      have HO2 := Lib.hid ho2
      have HV2 := Lib.hid hv2
      have hsz := hl.size
      clear ho2 hv2
      go_wp2_with (at_builtin
                   refine wpList_append_own _ rfl _ _ 23 rfl w.heap.size 3 i0 (.int .i64 0) 1 8 Try.underlying23 hi0 hz0 hz1 hz2 rfl (by decide) _ _ _ rfl HO2.out ⟨wr.heap.size, 0, none⟩ 1 1 (is [(k : Int)]) rfl rfl (vals_cells HV2.out) (is_one _) ?c4 ?c5 ?c6 ?_)
      case c4 => unfold maxLen; omega
      case c5 => omega
      case c6 => simp; omega
      intro v' w6 hown hgr hne
      have hv : v' ≠ .slice none 0 0 := by simpa using hne
      have hl6 : Below w.heap.size w w6 := hl5.grown hgr hl5.size (by simp [Value.ownBlock]; omega)
      rw [fl_snoc] at hown
      obtain ⟨g', cap', he, hg', hnn, _⟩ := Hd.of_owns hown hv
      rw [fl_len] at he
      subst he
      have HOW2 := Lib.hid hown
      clear hown hgr hne hv hnn HOW HO2 HV2
      go_wp2
      go_roundw
      case rel => exact ⟨k + 1, g', cap', by omega, hg', by go_num, rfl, HOW2, hl6⟩
      case measure => simp [intOf]; omega
    · obtain rfl : L = k := by omega
      obtain ⟨g', cap', he, hg', hnn, hH'⟩ := Hd.of_owns HOW.out (by simp)
      rw [fl_len] at he
      injection he with he1 he2 he3
      injection he1 with he1
      injection he1 with he1
      subst he1 he3
      have HH := Lib.hid hH'
      clear hH' hnn HOW
      go_wp2
      go_ret
      exact ⟨g, ⟨cap, rfl⟩, HH.out.vals, hl⟩
end Go.Proofs.Ytncmfjncdhhjoaa
