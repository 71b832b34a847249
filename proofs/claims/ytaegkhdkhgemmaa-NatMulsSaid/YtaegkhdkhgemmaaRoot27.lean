import Derived.Test.YtaegkhdkhgemmaaMul
import Derived.Test.YtaegkhdkhgemmaaShl
namespace Go.Proofs.Ytaegkhdkhgemmaa
open Go.RowKit Num

/-- The root's first return: where the degree is at least the number's length in bits. -/
theorem root_one (a : Value) (m n : Nat) (w : World) (ha : W64 w a m) (hl : (dig B64 m).length ≤ 1000000000) (hn : nbits m ≤ n) :
    Calls Try.prog 97 #[a, .int .i64 (n : Int)] w (NumPost w 1) := by
  have hb := bits_call a m w ha hl
  have HB := Lib.hid hb
  clear hb ha
  generalize nbits m = r at *
  go_enter Try.func97, Try.ntmps97
  go_wp2_with (go_at_call 91; refine HB.out.mono ?_; rintro e w1 ⟨rfl, rfl⟩)
  go_ret
  exact ⟨_, rfl, (own_one w).is, below_new w _⟩

set_option maxHeartbeats 1000000 in
set_option maxRecDepth 100000 in
/-- The cube root of 27. -/
theorem root_27 (a : Value) (w : World) (ha : W64 w a 27) : Calls Try.prog 97 #[a, .int .i64 3] w (NumPost w 3) := by
  have hb := bits_call a 27 w ha (Nat.le_trans (dig_len_le (k := 1) b64_two (by unfold B64; omega)) (by omega))
  rw [show nbits 27 = 5 by decide +kernel] at hb
  have hlen : ∀ w, Calls Try.prog 116 #[.int .u64 3] w fun e w' => e = .returned (.int .i64 2) ∧ w = w' := fun w => by
    have h := len_nat 3 w (by unfold B64; omega)
    rw [show nbits 3 = 2 by decide +kernel] at h
    exact h
  have small : ∀ k, k ≤ 100 → (dig B64 k).length ≤ 1 := fun k hk => dig_len_le b64_two (by unfold B64; omega)
  have hsr : ∀ w, W64 w a 27 → Calls Try.prog 92 #[a, .int .i64 3] w (NumPost w 3) := fun w h => shiftRight_any a 27 3 w h (Nat.le_trans (small _ (by omega)) (by omega)) (by omega)
  have hrt : ∀ b w, W64 w b 3 → Calls Try.prog 97 #[b, .int .i64 3] w (NumPost w 1) := fun b w h => root_one b 3 3 w h (Nat.le_trans (small _ (by omega)) (by omega)) (by decide +kernel)
  have hsl : ∀ b w, W64 w b 1 → Calls Try.prog 93 #[b, .int .i64 1] w (SumPost w 2) := fun b w h => shiftLeft_any b 1 1 w h (Nat.le_trans (small _ (by omega)) (by omega)) (by omega)
  have hsum : ∀ b c w, W64 w b 2 → W64 w c 1 → Calls Try.prog 82 #[b, c] w (SumPost w 3) := fun b c w h k => sum_any b c 2 1 w h k (Nat.le_trans (small _ (by omega)) (by omega)) (Nat.le_trans (small _ (by omega)) (by omega))
  have hpow : ∀ b w, W64 w b 3 → Calls Try.prog 95 #[b, .int .i64 3] w (SumPost w 27) := fun b w h => power_any mulSpec_small b 3 3 w h (by omega) (Nat.le_trans (small _ (by omega)) (by omega)) (fun j hj => Nat.le_trans (small _ (by
    have : j = 0 ∨ j = 1 ∨ j = 2 ∨ j = 3 := by omega
    rcases this with rfl | rfl | rfl | rfl <;> decide)) (by omega))
  have hcmp : ∀ b c w, W64 w b 27 → W64 w c 27 → Calls Try.prog 83 #[b, c] w fun e w' => e = .returned (.int .i64 0) ∧ Below w.heap.size w w' := fun b c w h k => by
    obtain ⟨A, c1, rfl, _, hA⟩ := h
    obtain ⟨A', c2, rfl, _, hA'⟩ := k
    have := compare83 A A' c1 c2 _ _ 27 27 w hA hA' rfl rfl (Nat.le_trans (small _ (by omega)) (by omega)) (Nat.le_trans (small _ (by omega)) (by omega))
    rw [cmpN_eq] at this
    exact this
  have HB := Lib.hid hb
  have HLEN := Lib.hid hlen
  have HA := Lib.hid ha
  have HSR := Lib.hid hsr
  have HRT := Lib.hid hrt
  have HSL := Lib.hid hsl
  have HSUM := Lib.hid hsum
  have HPOW := Lib.hid hpow
  have HCMP := Lib.hid hcmp
  clear hb ha hlen small hsr hrt hsl hsum hpow hcmp
  go_enter Try.func97, Try.ntmps97
  go_wp2_with (first
    | (go_at_call 91; refine HB.out.mono ?_; rintro e w1 ⟨rfl, rfl⟩)
    | (go_at_call 116; refine (HLEN.out _).mono ?_; rintro e w1 ⟨rfl, rfl⟩)
    | (go_at_call 92; refine (HSR.out _ HA.out).mono ?_; rintro e w1 ⟨v1, rfl, hv1, hb1⟩)
    | (go_at_call 97; refine (HRT.out _ _ hv1).mono ?_; rintro e w2 ⟨v2, rfl, hv2, hb2⟩)
    | (go_at_call 93; refine (HSL.out _ _ hv2).mono ?_; rintro e w3 ⟨v3, rfl, hv3, hb3⟩
       have o1 := own_one w3
       have bw3 := below_new w3 (.cells #[.int .u64 1] 24)
       have k3 := hv3.is.keep bw3)
    | (go_at_call 82; refine (HSUM.out _ _ _ k3 o1.is).mono ?_; rintro e w4 ⟨v4, rfl, hv4, hb4⟩)
    | (go_at_call 95; refine (HPOW.out _ _ hv4.is).mono ?_; rintro e w5 ⟨v5, rfl, hv5, hb5⟩
       have c1 := hb1
       have c2 := below_at c1 (Nat.le_refl _) hb2
       have c3 := below_at c2 (Nat.le_refl _) hb3
       have c4 := below_at (below_at c3 (Nat.le_refl _) bw3) (Nat.le_refl _) hb4
       have c5 := below_at c4 (Nat.le_refl _) hb5
       have k5 := HA.out.keep c5)
    | (go_at_call 83; refine (HCMP.out _ _ _ hv5.is k5).mono ?_; rintro e w6 ⟨rfl, hb6⟩))
  go_ret
  exact ⟨_, rfl, (hv4.is.keep hb5).keep hb6, below_at c5 (Nat.le_refl _) hb6⟩
end Go.Proofs.Ytaegkhdkhgemmaa
