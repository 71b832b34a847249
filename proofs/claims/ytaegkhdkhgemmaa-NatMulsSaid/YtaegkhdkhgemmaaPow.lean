import Derived.Test.YtaegkhdkhgemmaaMulS
import Derived.Test.YtaegkhdkhgemmaaBits
namespace Go.Proofs.Ytaegkhdkhgemmaa
open Go.RowKit Num

theorem len_nat (x : Nat) (w : World) (hx : x < B64) : Calls Try.prog 116 #[.int .u64 (x : Int)] w fun e w' => e = .returned (.int .i64 (nbits x : Nat)) ∧ w = w' := by
  have h := fun w => len64_nat x w hx
  have H := Lib.hid h
  clear h
  generalize nbits x = r at *
  go_enter Try.func116, Try.ntmps116
  go_wp2_with (go_at_call 115; refine (H.out _).mono ?_; rintro e w1 ⟨rfl, rfl⟩)
  go_ret
  exact ⟨rfl, rfl⟩

theorem dig_one : dig B64 1 = [1] := by
  rw [dig_pos b64_two (by omega)]
  have : 1 / B64 = 0 := Nat.div_eq_of_lt (by unfold B64; omega)
  rw [this, dig_zero, Nat.mod_eq_of_lt (by unfold B64; omega)]

theorem dig_len_mono {m n : Nat} (h : m ≤ n) : (dig B64 m).length ≤ (dig B64 n).length := dig_len_le b64_two (Nat.lt_of_le_of_lt h (dig_len_lt b64_two))

theorem and_one (q : Nat) (h : q < 9223372036854775808) : bits .and .i64 (q : Int) 1 = ((q % 2 : Nat) : Int) := by
  have e : (BitVec.ofInt 64 (q : Int)).toNat = q := by rw [BitVec.ofInt_natCast, BitVec.toNat_ofNat]; exact Nat.mod_eq_of_lt (by omega)
  show IntKind.i64.wrap ((BitVec.ofInt 64 (q : Int) &&& BitVec.ofInt 64 1).toNat : Int) = _
  rw [BitVec.toNat_and, e, show (BitVec.ofInt 64 1).toNat = 1 from rfl, Nat.and_one_is_mod, IntKind.wrap_i64]
  omega
theorem own_one (w : World) : OwnW w.heap.size (w.alloc (.cells #[.int .u64 1] 24)) (.slice (some ⟨w.heap.size, 0, none⟩) 1 1) 1 :=
  ⟨w.heap.size, 1, [1], by rw [dig_one]; rfl, by rw [dig_one]; exact Nat.le_refl _, rfl, Nat.le_refl _, Row.of_heap (heap_alloc_new _ _), fun x hx => by simp at hx; subst hx; unfold B64; omega, by rw [dig_one]; rfl⟩
theorem OwnNum.mono {k : IntKind} {T : TypeId} {b B B' : Nat} {w : World} {v : Value} {n : Nat} (h : OwnNum k T b B w v n) (hB : B' ≤ B) : OwnNum k T b B' w v n := by
  obtain ⟨g, c, zs, e1, e2, e3, e4, r⟩ := h
  exact ⟨g, c, zs, e1, e2, e3, by omega, r⟩

set_option maxHeartbeats 1000000 in
set_option maxRecDepth 100000 in
theorem power_any {N : Nat} (HM : MulSpec N) (a : Value) (m n : Nat) (w : World) (ha : W64 w a m) (hn : n < 9223372036854775808) (hm : (dig B64 m).length ≤ N) (hp : ∀ j, j ≤ n → (dig B64 (m ^ j)).length ≤ N) :
    Calls Try.prog 95 #[a, .int .i64 (n : Int)] w (SumPost w (m ^ n)) := by
  have hlen := fun w => len_nat n w (by unfold B64; omega)
  have hb : nbits n ≤ 64 := nbits_le (k := 64) (by omega)
  have hnl := nbits_lt n
  have HMH := Lib.hid HM
  have HLEN := Lib.hid hlen
  have HP := Lib.hid hp
  have HNL := Lib.hid hnl
  clear hlen hp HM hnl
  generalize nbits n = r at *
  have hn' := Lib.hid hn
  have hwr : IntKind.u64.wrap (n : Int) = (n : Int) := by rw [IntKind.wrap_u64]; have := hn'.out; omega
  clear hn
  go_enter Try.func95, Try.ntmps95
  go_wp2_with (go_at_call 116; refine (HLEN.out _).mono ?_; rintro e w1 ⟨rfl, rfl⟩)
  go_loopw [5, 6] (fun z t wr => ∃ k : Nat, k ≤ r ∧ t = .int .i64 ((k : Int) - 1) ∧ OwnW w.heap.size wr z (m ^ (n / 2 ^ k)) ∧ Below w.heap.size w wr) (fun _ t _ => (intOf t + 1).toNat)
  case atStart => exact ⟨r, Nat.le_refl _, rfl, by rw [Nat.div_eq_of_lt HNL.out, Nat.pow_zero]; exact own_one w, (Below.refl _ _).alloc (Nat.le_refl _) _⟩
  case round =>
    clear hwr
    obtain ⟨k, hk, rfl, hz, hbl⟩ := hrel
    by_cases h0 : k = 0
    · subst h0
      have HZ := Lib.hid hz
      clear hz
      go_wp2
      go_ret
      have := HZ.out
      rw [Nat.pow_zero, Nat.div_one] at this
      exact ⟨_, rfl, this, hbl⟩
    · obtain ⟨j, rfl⟩ : ∃ j, k = j + 1 := ⟨k - 1, by omega⟩
      have hj : j < 64 := by omega
      have hq : n / 2 ^ j = 2 * (n / 2 ^ (j + 1)) + n / 2 ^ j % 2 := by
        rw [Nat.pow_succ, ← Nat.div_div_eq_div_mul]; omega
      have hqn : n / 2 ^ j ≤ n := Nat.div_le_self _ _
      have hbit : bits .and .i64 ((n : Int) / 2 ^ j) 1 = ((n / 2 ^ j % 2 : Nat) : Int) := by
        have := and_one (n / 2 ^ j) (Nat.lt_of_le_of_lt hqn hn'.out)
        rw [← this]; push_cast; rfl
      have e1 : m ^ (n / 2 ^ (j + 1)) * m ^ (n / 2 ^ (j + 1)) = m ^ (2 * (n / 2 ^ (j + 1))) := by rw [← Nat.pow_add]; congr 1; omega
      have l1 := HP.out (n / 2 ^ (j + 1)) (Nat.div_le_self _ _)
      have l2 := HP.out (2 * (n / 2 ^ (j + 1))) (by omega)
      have hk' : j + 1 ≤ r := hk
      clear h0 hk hqn
      by_cases hodd : n / 2 ^ j % 2 = 1
      · rw [hodd] at hbit hq
        have hbit' : bits .and .i64 ((n : Int) / 2 ^ j) 1 = 1 := hbit
        have e2 : m ^ (2 * (n / 2 ^ (j + 1))) * m = m ^ (n / 2 ^ j) := Eq.trans (Nat.pow_succ m _).symm (congrArg (fun x => m ^ x) hq.symm)
        have HQ := Lib.hid hq
        have HODD := Lib.hid hodd
        clear hq hodd hbit
        generalize m ^ (n / 2 ^ (j + 1)) = z1 at *
        generalize m ^ (2 * (n / 2 ^ (j + 1))) = z2 at *
        generalize hz3 : m ^ (n / 2 ^ j) = z3 at *
        have HZ3 := Lib.hid hz3
        clear hz3
        have E1 := Lib.hid e1
        have E2 := Lib.hid e2
        have HZ := Lib.hid hz
        have HA := Lib.hid ha
        clear e1 e2 hz ha
        go_wp2_with (fail)
        refine (HMH.out _ _ z1 z1 _ HZ.out.is HZ.out.is l1 l1).mono ?_
        rintro e w1 ⟨v1, rfl, hv1, hb1⟩
        rw [E1.out] at hv1
        have hbl1 : Below w.heap.size w w1 := hbl.trans (hb1.mono hbl.size)
        have HV1 := Lib.hid hv1
        clear hv1
        go_wp2_with (fail)
        refine (HMH.out _ _ z2 m _ HV1.out.is (HA.out.keep hbl1) l2 hm).mono ?_
        rintro e w2 ⟨v2, rfl, hv2, hb2⟩
        rw [E2.out] at hv2
        have hbl2 : Below w.heap.size w w2 := hbl1.trans (hb2.mono hbl1.size)
        have HV2 := Lib.hid hv2
        clear hv2
        go_wp2
        go_roundw
        case rel => exact ⟨j, by omega, by congr 1, by rw [HZ3.out]; exact HV2.out.mono hbl1.size, hbl2⟩
        case measure => simp [intOf]
      · have hev : n / 2 ^ j % 2 = 0 := by omega
        rw [hev] at hbit hq
        have hbit' : bits .and .i64 ((n : Int) / 2 ^ j) 1 = 0 := hbit
        have e2 : m ^ (2 * (n / 2 ^ (j + 1))) = m ^ (n / 2 ^ j) := by rw [show n / 2 ^ j = 2 * (n / 2 ^ (j + 1)) from by omega]
        have HQ := Lib.hid hq
        have HODD := Lib.hid hodd
        have HEV := Lib.hid hev
        clear hq hodd hbit hev
        generalize m ^ (n / 2 ^ (j + 1)) = z1 at *
        generalize m ^ (2 * (n / 2 ^ (j + 1))) = z2 at *
        generalize hz3 : m ^ (n / 2 ^ j) = z3 at *
        have HZ3 := Lib.hid hz3
        clear hz3
        have E1 := Lib.hid e1
        have E2 := Lib.hid e2
        have HZ := Lib.hid hz
        have HA := Lib.hid ha
        clear e1 e2 hz ha
        go_wp2_with (fail)
        refine (HMH.out _ _ z1 z1 _ HZ.out.is HZ.out.is l1 l1).mono ?_
        rintro e w1 ⟨v1, rfl, hv1, hb1⟩
        rw [E1.out, E2.out] at hv1
        have hbl1 : Below w.heap.size w w1 := hbl.trans (hb1.mono hbl.size)
        have HV1 := Lib.hid hv1
        clear hv1
        go_wp2
        go_roundw
        case rel => exact ⟨j, by omega, by congr 1, by rw [HZ3.out]; exact HV1.out.mono hbl.size, hbl1⟩
        case measure => simp [intOf]
end Go.Proofs.Ytaegkhdkhgemmaa
