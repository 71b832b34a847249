/- nearest: the nearest column that is not done. -/
import Derived.Test.YtncmfjncdhhjoaaTabM
namespace Go.Proofs.Ytncmfjncdhhjoaa
open Go.RowKit

/-- The nearest of the first i columns that is not done. -/
def NearSt (a : Nat → Int) (d : Nat → Bool) (i : Nat) (b l : Int) : Prop :=
  (b = -1 ∧ l = 1152921504606846976 ∧ ∀ k, k < i → d k = false → 1152921504606846976 ≤ a k) ∨
  (∃ k, k < i ∧ b = (k : Int) ∧ l = a k ∧ d k = false ∧ a k < 1152921504606846976 ∧ ∀ j, j < i → d j = false → a k ≤ a j)
theorem near_start (a : Nat → Int) (d : Nat → Bool) : NearSt a d 0 (-1) 1152921504606846976 := .inl ⟨rfl, rfl, fun k hk => by omega⟩
theorem near_skip {a : Nat → Int} {d : Nat → Bool} {i : Nat} {b l : Int} (h : NearSt a d i b l) (hs : d i = true ∨ l ≤ a i) : NearSt a d (i + 1) b l := by
  rcases h with ⟨h1, h2, h3⟩ | ⟨k, h1, h2, h3, h4, h5, h6⟩
  · refine .inl ⟨h1, h2, fun k hk hd => ?_⟩
    by_cases e : k = i
    · subst e
      rcases hs with hs | hs
      · rw [hs] at hd; simp at hd
      · omega
    · exact h3 k (by omega) hd
  · refine .inr ⟨k, by omega, h2, h3, h4, h5, fun j hj hd => ?_⟩
    by_cases e : j = i
    · subst e
      rcases hs with hs | hs
      · rw [hs] at hd; simp at hd
      · omega
    · exact h6 j (by omega) hd
theorem near_take {a : Nat → Int} {d : Nat → Bool} {i : Nat} {b l : Int} (h : NearSt a d i b l) (hd : d i = false) (hl : a i < l) : NearSt a d (i + 1) (i : Int) (a i) := by
  refine .inr ⟨i, by omega, rfl, rfl, hd, ?_, fun j hj hdj => ?_⟩
  · rcases h with ⟨h1, h2, h3⟩ | ⟨k, h1, h2, h3, h4, h5, h6⟩ <;> omega
  · by_cases e : j = i
    · subst e; omega
    · rcases h with ⟨h1, h2, h3⟩ | ⟨k, h1, h2, h3, h4, h5, h6⟩
      · have := h3 j (by omega) hdj; omega
      · have := h6 j (by omega) hdj; omega

set_option maxHeartbeats 1000000 in
set_option maxRecDepth 100000 in
theorem nearest_any (B q ga gf gd m : Nat) (a f : Nat → Int) (d : Nat → Bool) (w : World) (R : ReM B w q ga gf gd m a f d) (hm : m ≤ 64) :
    Calls Try.prog 71 #[.pointer (some ⟨q, 0, none⟩)] w fun e w' => (∃ b l, e = .returned (.int .i64 b) ∧ NearSt a d m b l) ∧ w = w' := by
  have x0 : w.cell? ⟨q, 0, none⟩ = some (.slice (some ⟨ga, 0, none⟩) m m) := R.box.cell 0
  have x2 : w.cell? ⟨q, 2, none⟩ = some (.slice (some ⟨gd, 0, none⟩) m m) := R.box.cell 2
  have HA := Lib.hid R.away
  have HD := Lib.hid R.done
  clear R
  go_enter Try.func71, Try.ntmps71
  go_wp2_with (fail)
  go_loop [3, 4, 5, 6, 12] (fun b l _ _ t => ∃ (i : Nat) (bv lv : Int), i ≤ m ∧ t = .int .i64 (i : Int) ∧ b = .int .i64 bv ∧ l = .int .i64 lv ∧ Hid (NearSt a d i bv lv)) (fun _ _ _ _ t => m - (intOf t).toNat)
  case atStart => exact ⟨0, _, _, Nat.zero_le _, rfl, rfl, rfl, Lib.hid (near_start a d)⟩
  case round =>
    obtain ⟨i, bv, lv, hi, rfl, rfl, rfl, HN⟩ := hrel
    by_cases hlt : i < m
    · have ca := HA.out.int hlt
      have cd := HD.out.bool hlt
      have hsk := fun h => near_skip HN.out (i := i) h
      have htk := near_take HN.out
      generalize a i = x at *
      cases hd : d i with
      | true =>
        rw [hd] at cd
        have HS := Lib.hid (hsk (.inl hd))
        clear hsk htk hd
        go_wp2
        go_round
        case rel => exact ⟨i + 1, bv, lv, by omega, by go_num, rfl, rfl, HS⟩
        case measure => simp [intOf]; omega
      | false =>
        rw [hd] at cd
        by_cases hx : x < lv
        · have HS := Lib.hid (htk hd hx)
          have hdd : decide (x < lv) = true := by simpa using hx
          clear hsk htk hd
          go_wp2
          go_round
          case rel => exact ⟨i + 1, _, _, by omega, by go_num, rfl, rfl, HS⟩
          case measure => simp [intOf]; omega
        · have HS := Lib.hid (hsk (.inr (by omega)))
          have hdd : decide (x < lv) = false := by simpa using hx
          clear hsk htk hd
          go_wp2
          go_round
          case rel => exact ⟨i + 1, bv, lv, by omega, by go_num, rfl, rfl, HS⟩
          case measure => simp [intOf]; omega
    · obtain rfl : i = m := by omega
      go_wp2
      go_ret
      exact ⟨⟨bv, rfl, lv, HN.out⟩, rfl⟩

end Go.Proofs.Ytncmfjncdhhjoaa
