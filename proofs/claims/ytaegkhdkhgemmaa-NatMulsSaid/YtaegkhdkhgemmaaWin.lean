import Derived.Test.YtaegkhdkhgemmaaMem
import Derived.Test.YtaegkhdkhgemmaaWinLaws
namespace Go.Proofs.Ytaegkhdkhgemmaa
open Go.RowKit Num

theorem pow_b64 (i : Nat) : (2 : Nat) ^ (64 * i) = B64 ^ i := by rw [Nat.pow_mul]; rfl

set_option maxHeartbeats 400000 in
theorem window_any (A : Option Addr) (c L n f : Nat) (w : World) (h : Nums .u64 w A (dig B64 n)) (hL : L = (dig B64 n).length) (hl : L ≤ 1000000000000) (hf : f ≤ 100000000000000) :
    Calls Try.prog 77 #[.slice A L c, .int .i64 (f : Int)] w fun e w' => e = .returned (.int .u64 ((n / 2 ^ f % B64 : Nat) : Int)) ∧ w = w' := by
  obtain ⟨i, s, hs, hfe⟩ : ∃ i s, s < 64 ∧ f = 64 * i + s := ⟨f / 64, f % 64, Nat.mod_lt _ (by omega), by omega⟩
  have hw : n / 2 ^ f % B64 = (n / B64 ^ i % B64) / 2 ^ s + 2 ^ (64 - s) * (n / B64 ^ (i + 1) % B64 % 2 ^ s) := by
    rw [hfe]; exact win_of n i s hs
  have e1 : (f : Int) / 64 = (i : Int) := by omega
  have e2 : (f : Int) % 64 = (s : Int) := by omega
  have hi0 : i ≤ 100000000000000 := by omega
  generalize n / 2 ^ f % B64 = r at *
  have HW := Lib.hid hw
  clear hw hfe
  generalize hF : (f : Int) = F at *
  have hF0 : 0 ≤ F := by omega
  have hF1 : F ≤ 100000000000000 := by omega
  clear hF
  by_cases h0 : i < L
  · obtain ⟨g, off, x, rfl, hg, hx, hcx⟩ := h.at_ (i := i) (by omega)
    have hxv := dig_getElem? b64_two hx
    have hxl : x < B64 := by rw [hxv]; exact Nat.mod_lt _ b64_pos
    by_cases h1 : i + 1 < L
    · obtain ⟨g', off', y, he, _, hy, hcy⟩ := h.at_ (i := i + 1) (by omega)
      simp only [Option.some.injEq, Addr.mk.injEq] at he
      obtain ⟨rfl, rfl, _⟩ := he
      have hyv := dig_getElem? b64_two hy
      have HB := Lib.hid (win_bits x y s hxl hs)
      have HX := Lib.hid hxv
      have HY := Lib.hid hyv
      have h1' : (i : Int) + 1 < (L : Int) := by omega
      have HL := Lib.hid hL
      clear hxv hyv hx hy h hxl hL
      go_enter Try.func77, Try.ntmps77
      go_wp2
      go_ret
      refine ⟨ret_i ?_, rfl⟩
      rw [HB.out, HW.out, HX.out, HY.out]
    · have HX := Lib.hid hxv
      have hd0 : n / B64 ^ (i + 1) = 0 := div_pow_len b64_two (by omega)
      have HD := Lib.hid hd0
      have h1' : ¬ (i : Int) + 1 < (L : Int) := by omega
      have HL := Lib.hid hL
      clear hxv hx h hxl hd0 hL
      go_enter Try.func77, Try.ntmps77
      go_wp2
      go_ret
      refine ⟨ret_i ?_, rfl⟩
      rw [HW.out, HX.out, HD.out]; simp
  · have hd0 : n / B64 ^ i = 0 := div_pow_len b64_two (by omega)
    have hd1 : n / B64 ^ (i + 1) = 0 := div_pow_len b64_two (by omega)
    have HD := Lib.hid hd0
    have HE := Lib.hid hd1
    have h1' : ¬ (i : Int) + 1 < (L : Int) := by omega
    have HL := Lib.hid hL
    clear hd0 hd1 h hL
    go_enter Try.func77, Try.ntmps77
    go_wp2
    go_ret
    refine ⟨ret_i ?_, rfl⟩
    rw [HW.out, HD.out, HE.out]
    simp
end Go.Proofs.Ytaegkhdkhgemmaa
