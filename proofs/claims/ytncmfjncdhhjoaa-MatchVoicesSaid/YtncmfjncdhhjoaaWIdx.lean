/- slices.Index; newReach, newPricing; nearest. -/
import Derived.Test.YtncmfjncdhhjoaaTabM
import Derived.Test.YtncmfjncdhhjoaaRep
namespace Go.Proofs.Ytncmfjncdhhjoaa
open Go.RowKit

set_option maxHeartbeats 1000000 in
set_option maxRecDepth 100000 in
theorem index_any (g n c k : Nat) (x : Int) (f : Nat → Int) (w : World) (hb : Blk 3 w g (fl f n)) (hk : k < n) (hn : n ≤ 1000000) (hx : f k = x) (hj : ∀ j, j < k → f j ≠ x) :
    Calls Try.prog 82 #[.slice (some ⟨g, 0, none⟩) n c, .int .i64 x] w fun e w' => e = .returned (.int .i64 (k : Int)) ∧ w = w' := by
  have HB := Lib.hid hb
  have HX := Lib.hid hx
  have HJ := Lib.hid hj
  clear hb hx hj
  go_enter Try.func82, Try.ntmps82
  go_wp2_with (fail)
  go_loop [5, 8] (fun _ t => ∃ i : Nat, i ≤ k ∧ t = .int .i64 (i : Int)) (fun _ t => k - (intOf t).toNat)
  case atStart => exact ⟨0, Nat.zero_le _, rfl⟩
  case round =>
    obtain ⟨i, hi, rfl⟩ := hrel
    have hin : i < n := by omega
    have hc := HB.out.int hin
    by_cases hlt : i < k
    · have hne : (x == f i) = false := by
        have := HJ.out i hlt
        simp; exact fun e => this e.symm
      have hne2 : ¬ x = f i := fun e => HJ.out i hlt e.symm
      generalize f i = y at *
      go_wp2
      go_round
      case rel => exact ⟨i + 1, by omega, by go_num⟩
      case measure => simp [intOf]; omega
    · obtain rfl : i = k := by omega
      rw [HX.out] at hc
      go_wp2
      go_ret
      exact ⟨rfl, rfl⟩

end Go.Proofs.Ytncmfjncdhhjoaa
