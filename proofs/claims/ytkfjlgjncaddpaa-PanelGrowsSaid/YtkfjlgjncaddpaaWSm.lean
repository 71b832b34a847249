/- The small functions: what lies within bounds, rectangles, shapes. -/
import Derived.Test.YtkfjlgjncaddpaaPMem
import Derived.Laws.ResultCell
namespace Go.Proofs.Ytkfjlgjncaddpaa
open Go.RowKit

def inB (v lo hi : Int) : Bool := decide (lo ≤ v) && decide (v ≤ hi)
theorem inB_t {v lo hi : Int} (h : inB v lo hi = true) : lo ≤ v ∧ v ≤ hi := by simpa [inB] using h
theorem within_any (v lo hi : Int) (w : World) : Calls Try.prog 42 #[.int .i64 v, .int .i64 lo, .int .i64 hi] w fun e w' => e = .returned (.bool (inB v lo hi)) ∧ w = w' := by
  unfold inB
  by_cases h : lo ≤ v
  · have hd : decide (lo ≤ v) = true := by simpa using h
    go_enter Try.func42, Try.ntmps42
    go_wp2
    go_ret
    exact ⟨by simp [h], rfl⟩
  · have hd : decide (lo ≤ v) = false := by simpa using h
    go_enter Try.func42, Try.ntmps42
    go_wp2
    go_ret
    exact ⟨by simp, rfl⟩
theorem in_any (v lo hi : Int) (w : World) : Calls Try.prog 39 #[.int .i64 v, .int .i64 lo, .int .i64 hi] w fun e w' => e = .returned (.bool (inB v lo hi)) ∧ w = w' := by
  unfold inB
  by_cases h : lo ≤ v
  · have hd : decide (lo ≤ v) = true := by simpa using h
    go_enter Try.func39, Try.ntmps39
    go_wp2
    go_ret
    exact ⟨by simp [h], rfl⟩
  · have hd : decide (lo ≤ v) = false := by simpa using h
    go_enter Try.func39, Try.ntmps39
    go_wp2
    go_ret
    exact ⟨by simp, rfl⟩
theorem side_any (v : Int) (w : World) : Calls Try.prog 41 #[.int .i64 v] w fun e w' => e = .returned (.bool (inB v 1 64)) ∧ w = w' := by
  go_enter Try.func41, Try.ntmps41
  go_wp2_with (go_at_call 42; refine (within_any _ _ _ _).mono ?_; rintro e w1 ⟨rfl, rfl⟩)
  go_ret
  exact ⟨rfl, rfl⟩
def emp (a b : Int) : Bool := decide (a < 1) || decide (b < 1)
theorem empty_any (x y a b : Int) (w : World) : Calls Try.prog 55 #[rcV x y a b] w fun e w' => e = .returned (.bool (emp a b)) ∧ Below w.heap.size w w' := by
  have hb := below_new w (.cells #[.int .i64 x, .int .i64 y, .int .i64 a, .int .i64 b] 89)
  unfold emp rcV
  by_cases h : a < 1
  · have hd : decide (a < 1) = true := by simpa using h
    go_enter Try.func55, Try.ntmps55
    go_wp2
    go_ret
    exact ⟨by simp [h], hb⟩
  · have hd : decide (a < 1) = false := by simpa using h
    go_enter Try.func55, Try.ntmps55
    go_wp2
    go_ret
    exact ⟨by simp, hb⟩
theorem isShape_any (x y a b : Int) (s : Sh) (w : World) : Calls Try.prog 59 #[rcV x y a b, shV s] w fun e w' => e = .returned (.bool (isS s a b)) ∧ Below w.heap.size w w' := by
  have hb := (below_new w (.cells #[.int .i64 x, .int .i64 y, .int .i64 a, .int .i64 b] 89)).alloc (by simp) (.cells #[.int .i64 s.w, .int .i64 s.h, .int .i64 s.v, .bool s.t] 65)
  unfold isS rcV shV
  obtain ⟨sw, sh, sv, st⟩ := s
  simp only at hb ⊢
  by_cases h : a = sw
  · have hd : decide (a = sw) = true := by simpa using h
    have hd2 : (a == sw) = true := by simpa using h
    subst h
    go_enter Try.func59, Try.ntmps59
    go_wp2
    go_ret
    exact ⟨by simp; rfl, hb⟩
  · have hd : decide (a = sw) = false := by simpa using h
    have hd2 : (a == sw) = false := by simpa using h
    go_enter Try.func59, Try.ntmps59
    go_wp2
    go_ret
    exact ⟨by simp [h], hb⟩
theorem isTurned_any (x y a b : Int) (s : Sh) (w : World) : Calls Try.prog 62 #[rcV x y a b, shV s] w fun e w' => e = .returned (.bool (isT s a b)) ∧ Below w.heap.size w w' := by
  have hb := (below_new w (.cells #[.int .i64 x, .int .i64 y, .int .i64 a, .int .i64 b] 89)).alloc (by simp) (.cells #[.int .i64 s.w, .int .i64 s.h, .int .i64 s.v, .bool s.t] 65)
  unfold isT rcV shV
  obtain ⟨sw, sh, sv, st⟩ := s
  simp only at hb ⊢
  cases st with
  | false =>
    go_enter Try.func62, Try.ntmps62
    go_wp2
    go_ret
    exact ⟨by simp, hb⟩
  | true =>
    by_cases h : a = sh
    · have hd2 : (a == sh) = true := by simpa using h
      subst h
      go_enter Try.func62, Try.ntmps62
      go_wp2
      go_ret
      exact ⟨by simp; rfl, hb⟩
    · have hd : decide (a = sh) = false := by simpa using h
      have hd2 : (a == sh) = false := by simpa using h
      go_enter Try.func62, Try.ntmps62
      go_wp2
      go_ret
      exact ⟨by simp [h], hb⟩
end Go.Proofs.Ytkfjlgjncaddpaa
