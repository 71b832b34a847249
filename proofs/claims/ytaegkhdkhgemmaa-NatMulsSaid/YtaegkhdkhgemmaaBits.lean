import Derived.Test.YtaegkhdkhgemmaaWin
import Derived.Test.YtaegkhdkhgemmaaLen
namespace Go.Proofs.Ytaegkhdkhgemmaa
open Go.RowKit Num

theorem len64_nat (x : Nat) (w : World) (hx : x < B64) : Calls Try.prog 115 #[.int .u64 (x : Int)] w fun e w' => e = .returned (.int .i64 (nbits x : Nat)) ∧ w = w' := by
  have h := len64_int (x : Int) w (by omega) (by unfold B64 at hx; omega)
  rw [Int.toNat_natCast, bitLen_nbits x (by unfold B64 at hx; omega)] at h
  exact h
theorem nbits_64 {x : Nat} (hx : x < B64) : nbits x ≤ 64 := nbits_le (k := 64) hx

set_option maxHeartbeats 400000 in
theorem bits_any (A : Option Addr) (c L n : Nat) (w : World) (h : Nums .u64 w A (dig B64 n)) (hL : L = (dig B64 n).length) (hl : L ≤ 1000000000000) :
    Calls Try.prog 91 #[.slice A L c] w fun e w' => e = .returned (.int .i64 (nbits n : Nat)) ∧ w = w' := by
  by_cases h0 : L = 0
  · subst h0
    have hn : n = 0 := (dig_nil_iff b64_two).1 (List.eq_nil_of_length_eq_zero hL.symm)
    subst hn
    clear hL h
    go_enter Try.func91, Try.ntmps91
    go_wp2
    go_ret
    exact ⟨ret_i (by rw [nbits_zero]; rfl), rfl⟩
  · obtain ⟨K, rfl⟩ : ∃ K, L = K + 1 := ⟨L - 1, by omega⟩
    obtain ⟨g, off, v, rfl, hg, hv, hcv⟩ := h.at_ (i := K) (by omega)
    have hb := nbits_words hL.symm hv
    have hvl : v < B64 := by rw [dig_getElem? b64_two hv]; exact Nat.mod_lt _ b64_pos
    have hv64 := nbits_64 hvl
    have HL := Lib.hid hL
    generalize nbits n = r at *
    have HB := Lib.hid hb
    clear h hv hb hL
    have hne : (((K : Int) + 1) == 0) = false := by simp; omega
    have hcall := fun w => len64_nat v w hvl
    have HC := Lib.hid hcall
    clear hcall
    generalize nbits v = q at *
    go_enter Try.func91, Try.ntmps91
    go_wp2_with (go_at_call 115; refine (HC.out _).mono ?_; rintro e w' ⟨rfl, rfl⟩)
    go_ret
    exact ⟨ret_i (by rw [HB.out]; push_cast; omega), rfl⟩
end Go.Proofs.Ytaegkhdkhgemmaa
