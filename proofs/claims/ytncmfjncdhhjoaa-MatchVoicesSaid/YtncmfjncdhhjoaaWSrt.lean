/- slices.Sort of at most twelve ints. -/
import Derived.Test.YtncmfjncdhhjoaaWSort
namespace Go.Proofs.Ytncmfjncdhhjoaa
open Go.RowKit

theorem len_any (n : Nat) (hn : n ≤ 64) (w : World) : Calls Try.prog 79 #[.int .u64 (n : Int)] w fun e w' => (∃ x : Int, e = .returned (.int .i64 x)) ∧ w = w' := by
  have h := len64_int (n : Int) w (by omega) (by omega)
  have H := Lib.hid h
  clear h
  go_enter Try.func79, Try.ntmps79
  go_wp2_with (go_at_call 93; refine (H.out).mono ?_; rintro e w1 ⟨rfl, rfl⟩)
  go_ret
  exact ⟨⟨_, rfl⟩, rfl⟩

def SortPost (B g cap n : Nat) (f : Nat → Int) (w : World) (e : Ending) (w' : World) : Prop :=
  (∃ x, e = .returned x) ∧ ∃ f', Hd 3 w' g cap (fl f' n) ∧ Swp n f f' ∧ Srt f' n ∧ Below B w w'
set_option maxHeartbeats 4000000 in
set_option maxRecDepth 100000 in
theorem pdq_small (B g cap n c : Nat) (lim : Int) (f : Nat → Int) (w : World) (hH : Hd 3 w g cap (fl f n)) (hn : 1 ≤ n ∧ n ≤ 12) (hB : B ≤ g) :
    Calls Try.prog 78 #[.slice (some ⟨g, 0, none⟩) n c, .int .i64 0, .int .i64 (n : Int), .int .i64 lim] w (SortPost B g cap n f w) := by
  have hi := insSort_any B g cap n c f w hH (by omega) hB
  have HI := Lib.hid hi
  have hd : decide ((n : Int) ≤ 12) = true := by simp; omega
  have hd2 : decide (n ≤ 12) = true := by simp; omega
  have hw : IntKind.i64.wrap ((n : Int) - 0) = (n : Int) := by rw [Int.sub_zero]; exact wrapI (by omega) (by omega)
  clear hi hH
  go_enter Try.func78, Try.ntmps78
  go_wp2_with (fail)
  go_loopw [1, 2] (fun a b wr => a = .int .i64 0 ∧ b = .int .i64 (n : Int) ∧ wr = w) (fun _ _ _ => 0)
  case atStart => exact ⟨rfl, rfl, rfl⟩
  case round =>
    obtain ⟨rfl, rfl, rfl⟩ := hrel
    go_wp2_with (go_at_call 83; refine (HI.out).mono ?_; rintro e w1 ⟨⟨_, rfl⟩, f', hH', hS', hT', hl'⟩)
    refine bodyPost_end (results_none rfl _ _ _) rfl ?_
    exact ⟨⟨_, rfl⟩, f', hH', hS', hT', hl'⟩
theorem sort_small (B g cap n c : Nat) (f : Nat → Int) (w : World) (hH : Hd 3 w g cap (fl f n)) (hn : 1 ≤ n ∧ n ≤ 12) (hB : B ≤ g) :
    Calls Try.prog 63 #[.slice (some ⟨g, 0, none⟩) n c] w (SortPost B g cap n f w) := by
  have hl := fun W => len_any n (by omega) W
  have hp := fun lim => pdq_small B g cap n c lim f w hH hn hB
  have HL := Lib.hid hl
  have HP := Lib.hid hp
  have hw : IntKind.u64.wrap (n : Int) = (n : Int) := by rw [IntKind.wrap_u64]; omega
  clear hl hp hH
  go_enter Try.func63, Try.ntmps63
  go_wp2_with (first
    | (go_at_call 79; refine (HL.out _).mono ?_; rintro e w1 ⟨⟨x, rfl⟩, rfl⟩)
    | (go_at_call 78; refine (HP.out _).mono ?_; rintro e w2 ⟨⟨_, rfl⟩, f', hH', hS', hT', hl'⟩))
  refine bodyPost_end (results_none rfl _ _ _) rfl ?_
  exact ⟨⟨_, rfl⟩, f', hH', hS', hT', hl'⟩

end Go.Proofs.Ytncmfjncdhhjoaa
