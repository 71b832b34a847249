import Derived.Test.YtaegkhdkhgemmaaBlk
namespace Go.Proofs.Ytaegkhdkhgemmaa
open Go.RowKit Num

/-- Karatsuba's and the blocks' method, whichever multiply picks. -/
theorem big_ways {N : Nat} (HM : MulSpec (N - 1)) (A A' : Option Addr) (c c' La Lb m n : Nat) (w : World) (hA : Nums .u64 w A (dig B64 m)) (hB : Nums .u64 w A' (dig B64 n)) (hLa : La = (dig B64 m).length) (hLb : Lb = (dig B64 n).length)
    (h80 : 80 ≤ Lb) (hle : Lb ≤ La) (hc : La ≤ c) (hc' : Lb ≤ c') (hbig : La ≤ 1000000000) (hN : La ≤ N) :
    (La < 2 * Lb → Calls Try.prog 130 #[.slice A La c, .slice A' Lb c'] w (SumPost w (m * n))) ∧ (2 * Lb ≤ La → Calls Try.prog 129 #[.slice A La c, .slice A' Lb c'] w (SumPost w (m * n))) := by
  obtain ⟨ga, oa, rfl, _, _⟩ := hA (by omega)
  obtain ⟨gb, ob, rfl, _, _⟩ := hB (by omega)
  refine ⟨fun h2 => ?_, fun h2 => blocks_any HM ga oa c gb ob c' La Lb m n w hA hB hLa hLb h80 h2 hc hc' hbig (by omega)⟩
  by_cases hcb : c' = (La + 1) / 2
  · exact kara_eq HM ga oa c gb ob c' La Lb m n w hA hB hLa hLb h80 hle h2 hc hc' hbig (by omega) hcb
  · exact kara_any HM ga oa c gb ob c' La Lb m n w hA hB hLa hLb h80 hle h2 hc hc' hbig (by omega) hcb

set_option maxHeartbeats 400000 in
theorem mul_step {N : Nat} (HM : MulSpec (N - 1)) (a b : Value) (m n : Nat) (w : World) (ha : W64 w a m) (hb : W64 w b n) (hm : (dig B64 m).length ≤ N) (hn : (dig B64 n).length ≤ N) (hbig : N ≤ 1000000000)
    (h80 : 80 ≤ (dig B64 m).length) (h80' : 80 ≤ (dig B64 n).length) : Calls Try.prog 111 #[a, b] w (SumPost w (m * n)) := by
  obtain ⟨A, c, rfl, hc, hA⟩ := ha
  obtain ⟨A', c', rfl, hc', hA'⟩ := hb
  generalize hL : (dig B64 m).length = L at *
  generalize hL' : (dig B64 n).length = L' at *
  by_cases hlt : L < L'
  · have h := big_ways HM A' A c' c L' L n m w hA' hA hL'.symm hL.symm h80 (by omega) hc' hc (by omega) hn
    rw [Nat.mul_comm n m] at h
    have H := Lib.hid h
    clear h hL hL' HM hA hA'
    by_cases h2 : L' < 2 * L
    · go_enter Try.func111, Try.ntmps111
      go_wp2_with (go_at_call 130; refine (H.out.1 h2).mono ?_; rintro e w1 ⟨v, rfl, hv, hb1⟩)
      go_ret
      exact ⟨_, rfl, hv, hb1⟩
    · go_enter Try.func111, Try.ntmps111
      go_wp2_with (go_at_call 129; refine (H.out.2 (by omega)).mono ?_; rintro e w1 ⟨v, rfl, hv, hb1⟩)
      go_ret
      exact ⟨_, rfl, hv, hb1⟩
  · have h := big_ways HM A A' c c' L L' m n w hA hA' hL.symm hL'.symm h80' (by omega) hc hc' (by omega) hm
    have H := Lib.hid h
    clear h hL hL' HM hA hA'
    by_cases h2 : L < 2 * L'
    · go_enter Try.func111, Try.ntmps111
      go_wp2_with (go_at_call 130; refine (H.out.1 h2).mono ?_; rintro e w1 ⟨v, rfl, hv, hb1⟩)
      go_ret
      exact ⟨_, rfl, hv, hb1⟩
    · go_enter Try.func111, Try.ntmps111
      go_wp2_with (go_at_call 129; refine (H.out.2 (by omega)).mono ?_; rintro e w1 ⟨v, rfl, hv, hb1⟩)
      go_ret
      exact ⟨_, rfl, hv, hb1⟩

/-- multiply, whatever the factors' lengths. -/
theorem mulSpec_all : ∀ N, N ≤ 1000000000 → MulSpec N := by
  intro N
  induction N with
  | zero => exact fun _ a b m n w ha hb hm hn => mul_short a b m n w ha hb (by omega) (by omega) (.inl (by omega))
  | succ N ih =>
    intro h a b m n w ha hb hm hn
    by_cases h1 : (dig B64 m).length ≤ 79
    · exact mul_short a b m n w ha hb (by omega) (by omega) (.inl h1)
    · by_cases h2 : (dig B64 n).length ≤ 79
      · exact mul_short a b m n w ha hb (by omega) (by omega) (.inr h2)
      · exact mul_step (N := N + 1) (ih (by omega)) a b m n w ha hb hm hn h (by omega) (by omega)
theorem mulAt_all {m n : Nat} (hm : (dig B64 m).length ≤ 1000000000) (hn : (dig B64 n).length ≤ 1000000000) : MulAt m n := fun a b w ha hb => mulSpec_all _ (Nat.le_refl _) a b m n w ha hb hm hn
end Go.Proofs.Ytaegkhdkhgemmaa
