/- Part of the proof of NatExponents: RefPm, PowMod, PowModsW, Shift, ShiftsW. -/
import Derived.Test.YtaegkhdkhgemmaaPartE
import Derived.Test.YtaegkhdkhgemmaaPartF
import Derived.Test.YtaegkhdkhgemmaaPartC
import Derived.Test.YtaegkhdkhgemmaaPartB
namespace Go.Proofs.Ytaegkhdkhgemmaa
open Go.RowKit Num

/-- The remainder of the power by the exponent's bits from k on. -/
def PmSt (x y n k z : Nat) : Prop := z = x ^ (y / 2 ^ k) % n
theorem PmSt.start {x y n : Nat} : PmSt x y n (nbits y) (1 % n) := by
  unfold PmSt; rw [Nat.div_eq_of_lt (nbits_lt y), Nat.pow_zero]
theorem PmSt.half {y i : Nat} : y / 2 ^ i = 2 * (y / 2 ^ (i + 1)) + y / 2 ^ i % 2 := by
  have e : y / 2 ^ i / 2 = y / 2 ^ (i + 1) := by rw [Nat.div_div_eq_div_mul, ← Nat.pow_succ]
  rw [← e]; exact (Nat.div_add_mod _ 2).symm
theorem PmSt.even {x y n i z : Nat} (h : PmSt x y n (i + 1) z) (hb : y / 2 ^ i % 2 = 0) : PmSt x y n i (z * z % n) := by
  unfold PmSt at *
  have e := PmSt.half (y := y) (i := i)
  rw [hb, Nat.add_zero] at e
  rw [h, ← Nat.mul_mod, ← Nat.pow_add, e]; congr 2; omega
theorem PmSt.odd {x y n i z : Nat} (h : PmSt x y n (i + 1) z) (hb : y / 2 ^ i % 2 = 1) : PmSt x y n i (z * z % n * (x % n) % n) := by
  unfold PmSt at *
  have e := PmSt.half (y := y) (i := i)
  rw [hb] at e
  have e1 : z * z % n = x ^ (2 * (y / 2 ^ (i + 1))) % n := by
    rw [h, ← Nat.mul_mod, ← Nat.pow_add]; congr 2; omega
  rw [e1, ← Nat.mul_mod, ← Nat.pow_succ, e]

set_option maxHeartbeats 4000000 in
set_option maxRecDepth 100000 in
theorem refPowMod_any (a b c : Value) (x y n : Nat) (w : World) (ha : N32 w a x) (hb : N32 w b y) (hc : N32 w c n) (hx : (dig B32 x).length ≤ 100) (hy : (dig B32 y).length ≤ 100) (hn : (dig B32 n).length ≤ 100) (hn0 : 0 < n) :
    Calls Try.prog 55 #[a, b, c] w (N32Post w (x ^ y % n)) := by
  have hof := fun w' => refOf_any 1 (by decide) w'
  have hl1 : (dig B32 1).length ≤ 2 := len_u64 (by decide)
  have hdv := fun u w' (z : Nat) (h : N32 w' u z) (k : N32 w' c n) (hl : (dig B32 z).length ≤ 500) => refDivMod_any u c z n w' h k hl (by omega) hn0
  have hbits := fun w' (h : N32 w' b y) => refBits_any b y w' h (by omega)
  have hmul := fun u v w' (p q : Nat) (h : N32 w' u p) (k : N32 w' v q) (h1 : (dig B32 p).length ≤ 1000) (h2 : (dig B32 q).length ≤ 1000) => refMul_call u v p q w' h k h1 h2
  have hbit := fun w' i (h : N32 w' b y) (hi : i < nbits y) => refBit_call b y i w' h (by omega) hi
  have hll : ∀ z, z < n → (dig B32 z).length ≤ 100 := fun z h => Nat.le_trans (len_mono32 (Nat.le_of_lt h)) hn
  have hst0 := @PmSt.start x y n
  have hz1 : 1 % n < n := Nat.mod_lt _ hn0
  have hxn : x % n < n := Nat.mod_lt _ hn0
  have HOF := Lib.hid hof
  have HDV := Lib.hid hdv
  have HBITS := Lib.hid hbits
  have HMUL := Lib.hid hmul
  have HBIT := Lib.hid hbit
  have HLL := Lib.hid hll
  have HST0 := Lib.hid hst0
  clear hof hdv hbits hmul hbit hll hst0
  have HX := Lib.hid hx
  have HA := Lib.hid ha
  have HB := Lib.hid hb
  have HC := Lib.hid hc
  have hnb := nbits_len (m := y)
  obtain ⟨nb, hnbe⟩ : ∃ nb, nbits y = nb := ⟨_, rfl⟩
  rw [hnbe] at HBITS HBIT HST0 hnb
  obtain ⟨o, hoe⟩ : ∃ o, 1 % n = o := ⟨_, rfl⟩
  obtain ⟨xn, hxe⟩ : ∃ xn, x % n = xn := ⟨_, rfl⟩
  rw [hoe] at HST0 hz1
  rw [hxe] at hxn
  have HOE := Lib.hid hoe
  have HXE := Lib.hid hxe
  clear hnbe hoe hxe hx ha hb hc
  go_enter Try.func55, Try.ntmps55
  go_wp2_with (fail)
  refine (HOF.out _).mono ?_
  rintro e w1 ⟨v1, rfl, hv1, hb1⟩
  have b1 := below_at (Below.refl _ _) (Nat.le_refl _) hb1
  have ka_1 := HA.out.keep hb1
  have kb_1 := HB.out.keep hb1
  have kc_1 := HC.out.keep hb1
  have k1_1 := (hv1.limbs (by omega)).is
  go_wp2_with (fail)
  refine (HDV.out _ _ _ k1_1 kc_1 (by omega)).mono ?_
  rintro e w2 ⟨q1, r1, rfl, _, hr1, hb2⟩
  have b2 := below_at b1 (Nat.le_refl _) hb2
  have ka_2 := ka_1.keep hb2
  have kb_2 := kb_1.keep hb2
  have kc_2 := kc_1.keep hb2
  have kz_2 := hr1
  go_wp2_with (fail)
  refine (HDV.out _ _ _ ka_2 kc_2 (by have := HX.out; omega)).mono ?_
  rintro e w3 ⟨q2, r2, rfl, _, hr2, hb3⟩
  have b3 := below_at b2 (Nat.le_refl _) hb3
  have kb_3 := kb_2.keep hb3
  have kc_3 := kc_2.keep hb3
  have kz_3 := kz_2.keep hb3
  have kx_3 := hr2
  go_wp2_with (fail)
  refine (HBITS.out _ kb_3).mono ?_
  rintro e w4 ⟨rfl, rfl⟩
  have kz := kz_3
  have kx := kx_3
  have kb := kb_3
  have kc := kc_3
  rw [HOE.out] at kz
  rw [HXE.out] at kx
  have bz := b3
  clear hl1
  go_wp2
  go_loopw [8, 9] (fun zv t wr => ∃ (k z : Nat), k ≤ nb ∧ t = .int .i64 ((k : Int) - 1) ∧ PmSt x y n k z ∧ z < n ∧ N32 wr zv z ∧ N32 wr r2 xn ∧ N32 wr b y ∧ N32 wr c n ∧ Below w.heap.size w wr) (fun _ t _ => (intOf t + 1).toNat)
  case atStart => exact ⟨nb, o, Nat.le_refl _, rfl, HST0.out, hz1, kz, kx, kb, kc, bz⟩
  case round =>
    clear kz kx kb kc bz HST0 hz1
    obtain ⟨k, z, hk, rfl, hst, hzn, hz, hxv, hbv, hcv, hbl⟩ := hrel
    by_cases h0 : k = 0
    · subst h0
      unfold PmSt at hst
      rw [Nat.pow_zero, Nat.div_one] at hst
      rw [hst] at hz
      generalize x ^ y % n = R at *
      clear hst
      go_wp2
      go_ret
      exact ⟨_, rfl, hz, hbl⟩
    · obtain ⟨i, rfl⟩ : ∃ i, k = i + 1 := ⟨k - 1, by omega⟩
      have hzl := HLL.out z hzn
      have hzz : (dig B32 (z * z)).length ≤ 200 := Nat.le_trans (prod_len hzl hzl) (by omega)
      have hs1 : z * z % n < n := Nat.mod_lt _ hn0
      obtain ⟨z1, hz1⟩ : ∃ z1, z * z % n = z1 := ⟨_, rfl⟩
      rw [hz1] at hs1
      have hz1l := HLL.out z1 hs1
      have hxl := HLL.out xn hxn
      have hzx : (dig B32 (z1 * xn)).length ≤ 200 := Nat.le_trans (prod_len hz1l hxl) (by omega)
      have h90 := fun w' (h : N32 w' b y) => HBIT.out w' i h (by omega)
      have HZ1 := Lib.hid hz1
      have HST := Lib.hid hst
      have hbs : y / 2 ^ i % 2 = 0 ∨ y / 2 ^ i % 2 = 1 := by omega
      clear hz1 hst
      rcases hbs with hbs | hbs
      · have hnew := HST.out.even hbs
        rw [HZ1.out] at hnew
        rw [hbs] at h90
        have HNEW := Lib.hid hnew
        have H90 := Lib.hid h90
        clear hnew hbs h90
        go_wp2_with (fail)
        refine (HMUL.out _ _ _ _ _ hz hz (by omega) (by omega)).mono ?_
        rintro e w1 ⟨v1, rfl, hv1, hb1⟩
        have b1 := below_at hbl (Nat.le_refl _) hb1
        have kx_1 := hxv.keep hb1
        have kb_1 := hbv.keep hb1
        have kc_1 := hcv.keep hb1
        have k1_1 := (hv1.limbs (by omega)).is
        go_wp2_with (fail)
        refine (HDV.out _ _ _ k1_1 kc_1 (by omega)).mono ?_
        rintro e w2 ⟨q1, r1, rfl, _, hr1, hb2⟩
        have b2 := below_at b1 (Nat.le_refl _) hb2
        have kx_2 := kx_1.keep hb2
        have kb_2 := kb_1.keep hb2
        have kc_2 := kc_1.keep hb2
        have k2_2 := (by rw [HZ1.out] at hr1; exact hr1 : N32 w2 r1 z1)
        go_wp2_with (fail)
        refine (H90.out _ kb_2).mono ?_
        rintro e w3 ⟨rfl, rfl⟩
        go_wp2
        go_roundw
        case rel => exact ⟨i, z1, by omega, by first | rfl | go_num, HNEW.out, hs1, k2_2, kx_2, kb_2, kc_2, b2⟩
        case measure => simp [intOf]
      · have hnew := HST.out.odd hbs
        rw [HZ1.out, HXE.out] at hnew
        rw [hbs] at h90
        have hs2 : z1 * xn % n < n := Nat.mod_lt _ hn0
        obtain ⟨z2, hz2⟩ : ∃ z2, z1 * xn % n = z2 := ⟨_, rfl⟩
        rw [hz2] at hs2 hnew
        have HZ2 := Lib.hid hz2
        have HNEW := Lib.hid hnew
        have H90 := Lib.hid h90
        clear hnew hbs h90 hz2
        go_wp2_with (fail)
        refine (HMUL.out _ _ _ _ _ hz hz (by omega) (by omega)).mono ?_
        rintro e w1 ⟨v1, rfl, hv1, hb1⟩
        have b1 := below_at hbl (Nat.le_refl _) hb1
        have kx_1 := hxv.keep hb1
        have kb_1 := hbv.keep hb1
        have kc_1 := hcv.keep hb1
        have k1_1 := (hv1.limbs (by omega)).is
        go_wp2_with (fail)
        refine (HDV.out _ _ _ k1_1 kc_1 (by omega)).mono ?_
        rintro e w2 ⟨q1, r1, rfl, _, hr1, hb2⟩
        have b2 := below_at b1 (Nat.le_refl _) hb2
        have kx_2 := kx_1.keep hb2
        have kb_2 := kb_1.keep hb2
        have kc_2 := kc_1.keep hb2
        have k2_2 := (by rw [HZ1.out] at hr1; exact hr1 : N32 w2 r1 z1)
        go_wp2_with (fail)
        refine (H90.out _ kb_2).mono ?_
        rintro e w3 ⟨rfl, rfl⟩
        go_wp2_with (fail)
        refine (HMUL.out _ _ _ _ _ k2_2 kx_2 (by omega) (by omega)).mono ?_
        rintro e w4 ⟨v3, rfl, hv3, hb4⟩
        have b4 := below_at b2 (Nat.le_refl _) hb4
        have kx_4 := kx_2.keep hb4
        have kb_4 := kb_2.keep hb4
        have kc_4 := kc_2.keep hb4
        have k3_4 := (hv3.limbs (by omega)).is
        go_wp2_with (fail)
        refine (HDV.out _ _ _ k3_4 kc_4 (by omega)).mono ?_
        rintro e w5 ⟨q2, r2, rfl, _, hr2, hb5⟩
        have b5 := below_at b4 (Nat.le_refl _) hb5
        have kx_5 := kx_4.keep hb5
        have kb_5 := kb_4.keep hb5
        have kc_5 := kc_4.keep hb5
        have k4_5 := (by rw [HZ2.out] at hr2; exact hr2 : N32 w5 r2 z2)
        go_wp2
        go_roundw
        case rel => exact ⟨i, z2, by omega, by first | rfl | go_num, HNEW.out, hs2, k4_5, kx_5, kb_5, kc_5, b5⟩
        case measure => simp [intOf]
end Go.Proofs.Ytaegkhdkhgemmaa

namespace Go.Proofs.Ytaegkhdkhgemmaa
open Go.RowKit Num

theorem len_mul64 {m n K J : Nat} (hm : (dig B64 m).length ≤ K) (hn : (dig B64 n).length ≤ J) : (dig B64 (m * n)).length ≤ K + J := by
  have h1 := Nat.lt_of_lt_of_le (dig_len_lt b64_two (n := m)) (Nat.pow_le_pow_right b64_pos hm)
  have h2 := Nat.lt_of_lt_of_le (dig_len_lt b64_two (n := n)) (Nat.pow_le_pow_right b64_pos hn)
  refine dig_len_le b64_two ?_
  rw [Nat.pow_add]
  exact Nat.mul_lt_mul_of_lt_of_lt h1 h2
set_option maxHeartbeats 4000000 in
set_option maxRecDepth 100000 in
theorem powerMod_any (a b c : Value) (x y n : Nat) (w : World) (ha : W64 w a x) (hb : W64 w b y) (hc : W64 w c n) (hx : (dig B64 x).length ≤ 90) (hy : (dig B64 y).length ≤ 90) (hn : (dig B64 n).length ≤ 90) (hn0 : 0 < n) :
    Calls Try.prog 96 #[a, b, c] w (NumPost w (x ^ y % n)) := by
  have hdv := fun u w' (z : Nat) (h : W64 w' u z) (k : W64 w' c n) (hl : (dig B64 z).length ≤ 500) => divide_any u c z n w' h k hn0 (by omega) (by omega) (.inl (by omega))
  have hbits := fun w' (h : W64 w' b y) => bits_call b y w' h (by omega)
  have hmul := fun u v w' (p q : Nat) (h : W64 w' u p) (k : W64 w' v q) (h1 : (dig B64 p).length ≤ 1000) (h2 : (dig B64 q).length ≤ 1000) => mulAt_all (m := p) (n := q) (by omega) (by omega) u v w' h k
  have hwin : ∀ w' i, W64 w' b y → i < nbits y → Calls Try.prog 77 #[b, .int .i64 (i : Int)] w' fun e w'' => e = .returned (.int .u64 ((y / 2 ^ i % B64 : Nat) : Int)) ∧ w' = w'' := fun w' i h hi => by
    have hnb := len_bits_le hy
    obtain ⟨A, c, rfl, _, hA⟩ := h
    exact window_any A c _ y i w' hA rfl (by omega) (by omega)
  have hll : ∀ z, z < n → (dig B64 z).length ≤ 90 := fun z h => Nat.le_trans (lenm (Nat.le_of_lt h)) hn
  have hst0 := @PmSt.start x y n
  have hz1 : 1 % n < n := Nat.mod_lt _ hn0
  have hxn : x % n < n := Nat.mod_lt _ hn0
  have hown := (own_one w).is
  have hbA := below_new w (.cells #[.int .u64 1] 24)
  have HDV := Lib.hid hdv
  have HBITS := Lib.hid hbits
  have HMUL := Lib.hid hmul
  have HWIN := Lib.hid hwin
  have HLL := Lib.hid hll
  have HST0 := Lib.hid hst0
  have HOWN := Lib.hid hown
  clear hdv hbits hmul hwin hll hst0 hown
  have HX := Lib.hid hx
  have HA := Lib.hid ha
  have HB := Lib.hid hb
  have HC := Lib.hid hc
  have hnb := len_bits_le hy
  obtain ⟨nb, hnbe⟩ : ∃ nb, nbits y = nb := ⟨_, rfl⟩
  rw [hnbe] at HBITS HWIN HST0 hnb
  obtain ⟨o, hoe⟩ : ∃ o, 1 % n = o := ⟨_, rfl⟩
  obtain ⟨xn, hxe⟩ : ∃ xn, x % n = xn := ⟨_, rfl⟩
  rw [hoe] at HST0 hz1
  rw [hxe] at hxn
  have HOE := Lib.hid hoe
  have HXE := Lib.hid hxe
  have hl1 : (dig B64 1).length ≤ 500 := by rw [dig_one]; simp
  have ka0 := ha.keep hbA
  have kb0 := hb.keep hbA
  have kc0 := hc.keep hbA
  clear hnbe hoe hxe hx ha hb hc
  go_enter Try.func96, Try.ntmps96
  go_wp2_with (fail)
  refine (HDV.out _ _ _ HOWN.out kc0 hl1).mono ?_
  rintro e w1 ⟨q1, r1, rfl, _, hr1, hb1⟩
  have b1 := below_at hbA (Nat.le_refl _) hb1
  have ka_1 := ka0.keep hb1
  have kb_1 := kb0.keep hb1
  have kc_1 := kc0.keep hb1
  have kz_1 := hr1
  go_wp2_with (fail)
  refine (HDV.out _ _ _ ka_1 kc_1 (by have := HX.out; omega)).mono ?_
  rintro e w2 ⟨q2, r2, rfl, _, hr2, hb2⟩
  have b2 := below_at b1 (Nat.le_refl _) hb2
  have kb_2 := kb_1.keep hb2
  have kc_2 := kc_1.keep hb2
  have kz_2 := kz_1.keep hb2
  have kx_2 := hr2
  go_wp2_with (fail)
  refine (HBITS.out _ kb_2).mono ?_
  rintro e w3 ⟨rfl, rfl⟩
  have kz := kz_2
  have kx := kx_2
  have kb := kb_2
  have kc := kc_2
  rw [HOE.out] at kz
  rw [HXE.out] at kx
  have bz := b2
  clear hl1 hbA
  go_wp2
  go_loopw [8, 9] (fun zv t wr => ∃ (k z : Nat), k ≤ nb ∧ t = .int .i64 ((k : Int) - 1) ∧ PmSt x y n k z ∧ z < n ∧ W64 wr zv z ∧ W64 wr r2 xn ∧ W64 wr b y ∧ W64 wr c n ∧ Below w.heap.size w wr) (fun _ t _ => (intOf t + 1).toNat)
  case atStart => exact ⟨nb, o, Nat.le_refl _, rfl, HST0.out, hz1, kz, kx, kb, kc, bz⟩
  case round =>
    clear kz kx kb kc bz HST0 hz1
    obtain ⟨k, z, hk, rfl, hst, hzn, hz, hxv, hbv, hcv, hbl⟩ := hrel
    by_cases h0 : k = 0
    · subst h0
      unfold PmSt at hst
      rw [Nat.pow_zero, Nat.div_one] at hst
      rw [hst] at hz
      generalize x ^ y % n = R at *
      clear hst
      go_wp2
      go_ret
      exact ⟨_, rfl, hz, hbl⟩
    · obtain ⟨i, rfl⟩ : ∃ i, k = i + 1 := ⟨k - 1, by omega⟩
      have hzl := HLL.out z hzn
      have hzz : (dig B64 (z * z)).length ≤ 180 := Nat.le_trans (len_mul64 hzl hzl) (by omega)
      have hs1 : z * z % n < n := Nat.mod_lt _ hn0
      obtain ⟨z1, hz1⟩ : ∃ z1, z * z % n = z1 := ⟨_, rfl⟩
      rw [hz1] at hs1
      have hz1l := HLL.out z1 hs1
      have hxl := HLL.out xn hxn
      have hzx : (dig B64 (z1 * xn)).length ≤ 180 := Nat.le_trans (len_mul64 hz1l hxl) (by omega)
      have hwi := fun w' (h : W64 w' b y) => HWIN.out w' i h (by omega)
      have hml := Nat.mod_lt (y / 2 ^ i) b64_pos
      have h90 : bits .and .u64 ((y / 2 ^ i % B64 : Nat) : Int) 1 = ((y / 2 ^ i % 2 : Nat) : Int) := by
        have h1 := bits_and_u64_nat (y / 2 ^ i % B64) 1 hml (by omega)
        rw [show (y / 2 ^ i % B64) &&& 1 = y / 2 ^ i % B64 % 2 from Nat.and_two_pow_sub_one_eq_mod _ 1] at h1
        have e2 : y / 2 ^ i % B64 % 2 = y / 2 ^ i % 2 := by
          have : B64 = 2 * 9223372036854775808 := by decide
          rw [this, Nat.mod_mul_right_mod]
        rw [e2] at h1
        exact h1
      generalize y / 2 ^ i % B64 = vw at *
      have HWI := Lib.hid hwi
      clear hwi hml
      have HZ1 := Lib.hid hz1
      have HST := Lib.hid hst
      have hbs : y / 2 ^ i % 2 = 0 ∨ y / 2 ^ i % 2 = 1 := by omega
      clear hz1 hst
      rcases hbs with hbs | hbs
      · have hnew := HST.out.even hbs
        rw [HZ1.out] at hnew
        rw [hbs] at h90
        have HNEW := Lib.hid hnew
        have h91 := h90
        clear hnew hbs h90
        go_wp2_with (fail)
        refine (HMUL.out _ _ _ _ _ hz hz (by omega) (by omega)).mono ?_
        rintro e w1 ⟨v1, rfl, hv1, hb1⟩
        have b1 := below_at hbl (Nat.le_refl _) hb1
        have kx_1 := hxv.keep hb1
        have kb_1 := hbv.keep hb1
        have kc_1 := hcv.keep hb1
        have k1_1 := hv1.is
        go_wp2_with (fail)
        refine (HDV.out _ _ _ k1_1 kc_1 (by omega)).mono ?_
        rintro e w2 ⟨q1, r1, rfl, _, hr1, hb2⟩
        have b2 := below_at b1 (Nat.le_refl _) hb2
        have kx_2 := kx_1.keep hb2
        have kb_2 := kb_1.keep hb2
        have kc_2 := kc_1.keep hb2
        have k2_2 := (by rw [HZ1.out] at hr1; exact hr1 : W64 w2 r1 z1)
        go_wp2_with (fail)
        refine (HWI.out _ kb_2).mono ?_
        rintro e w3 ⟨rfl, rfl⟩
        go_wp2
        go_roundw
        case rel => exact ⟨i, z1, by omega, by first | rfl | go_num, HNEW.out, hs1, k2_2, kx_2, kb_2, kc_2, b2⟩
        case measure => simp [intOf]
      · have hnew := HST.out.odd hbs
        rw [HZ1.out, HXE.out] at hnew
        rw [hbs] at h90
        have hs2 : z1 * xn % n < n := Nat.mod_lt _ hn0
        obtain ⟨z2, hz2⟩ : ∃ z2, z1 * xn % n = z2 := ⟨_, rfl⟩
        rw [hz2] at hs2 hnew
        have HZ2 := Lib.hid hz2
        have HNEW := Lib.hid hnew
        have h91 := h90
        clear hnew hbs h90 hz2
        go_wp2_with (fail)
        refine (HMUL.out _ _ _ _ _ hz hz (by omega) (by omega)).mono ?_
        rintro e w1 ⟨v1, rfl, hv1, hb1⟩
        have b1 := below_at hbl (Nat.le_refl _) hb1
        have kx_1 := hxv.keep hb1
        have kb_1 := hbv.keep hb1
        have kc_1 := hcv.keep hb1
        have k1_1 := hv1.is
        go_wp2_with (fail)
        refine (HDV.out _ _ _ k1_1 kc_1 (by omega)).mono ?_
        rintro e w2 ⟨q1, r1, rfl, _, hr1, hb2⟩
        have b2 := below_at b1 (Nat.le_refl _) hb2
        have kx_2 := kx_1.keep hb2
        have kb_2 := kb_1.keep hb2
        have kc_2 := kc_1.keep hb2
        have k2_2 := (by rw [HZ1.out] at hr1; exact hr1 : W64 w2 r1 z1)
        go_wp2_with (fail)
        refine (HWI.out _ kb_2).mono ?_
        rintro e w3 ⟨rfl, rfl⟩
        go_wp2_with (fail)
        refine (HMUL.out _ _ _ _ _ k2_2 kx_2 (by omega) (by omega)).mono ?_
        rintro e w4 ⟨v3, rfl, hv3, hb4⟩
        have b4 := below_at b2 (Nat.le_refl _) hb4
        have kx_4 := kx_2.keep hb4
        have kb_4 := kb_2.keep hb4
        have kc_4 := kc_2.keep hb4
        have k3_4 := hv3.is
        go_wp2_with (fail)
        refine (HDV.out _ _ _ k3_4 kc_4 (by omega)).mono ?_
        rintro e w5 ⟨q2, r2, rfl, _, hr2, hb5⟩
        have b5 := below_at b4 (Nat.le_refl _) hb5
        have kx_5 := kx_4.keep hb5
        have kb_5 := kb_4.keep hb5
        have kc_5 := kc_4.keep hb5
        have k4_5 := (by rw [HZ2.out] at hr2; exact hr2 : W64 w5 r2 z2)
        go_wp2
        go_roundw
        case rel => exact ⟨i, z2, by omega, by first | rfl | go_num, HNEW.out, hs2, k4_5, kx_5, kb_5, kc_5, b5⟩
        case measure => simp [intOf]
end Go.Proofs.Ytaegkhdkhgemmaa

namespace Go.Proofs.Ytaegkhdkhgemmaa
open Go.RowKit Num

theorem nats3 {w : World} {v v' v2 : Value} {xs xs' x2 : List Nat} (h : Limbs w v xs) (h' : Limbs w v' xs') (h2 : Limbs w v2 x2) : NatsAt (w.alloc (.cells #[v, v', v2] 23)) w.heap.size [(v, xs), (v', xs'), (v2, x2)] := by
  refine ⟨by simp, fun i p hp => ?_⟩
  obtain ⟨A, c, e, hc, hl, hn⟩ := h.keep (below_new w (.cells #[v, v', v2] 23))
  obtain ⟨A', c', e', hc', hl', hn'⟩ := h'.keep (below_new w (.cells #[v, v', v2] 23))
  obtain ⟨A2, c2, e2, hc2, hl2, hn2⟩ := h2.keep (below_new w (.cells #[v, v', v2] 23))
  have hi := (List.getElem?_eq_some_iff.1 hp).1
  have : i = 0 ∨ i = 1 ∨ i = 2 := by simp at hi; omega
  rcases this with rfl | rfl | rfl
  · injection hp with hp
    subst hp
    exact ⟨by simp, A, c, e, hl, hn⟩
  · injection hp with hp
    subst hp
    exact ⟨by simp, A', c', e', hl', hn'⟩
  · injection hp with hp
    subst hp
    exact ⟨by simp, A2, c2, e2, hl2, hn2⟩
def chk3 (xs ys zs : List Nat) : Int := if chk2 xs ys = 0 then chk zs else chk2 xs ys
theorem chkAll3 (v v' v2 : Value) (xs ys zs : List Nat) : chkAll [(v, xs), (v', ys), (v2, zs)] = chk3 xs ys zs := by
  simp only [chkAll, chk3, chk2]
  by_cases h1 : chk xs = 0
  · by_cases h2 : chk ys = 0
    · by_cases h3 : chk zs = 0 <;> simp [h1, h2, h3]
    · simp [h1, h2]
  · simp [h1]

set_option maxHeartbeats 1000000 in
set_option maxRecDepth 100000 in
theorem powMod_bad (a b c : Value) (xs ys zs : List Nat) (w : World) (ha : Limbs w a xs) (hb : Limbs w b ys) (hc0 : Limbs w c zs) (h0 : chk3 xs ys zs ≠ 0) : Calls Try.prog 54 #[a, b, c] w (NatErr w (chk3 xs ys zs)) := by
  have hc := checkAll_any w.heap.size 3 3 _ _ (nats3 ha hb hc0) rfl (by omega)
  rw [chkAll3] at hc
  generalize chk3 xs ys zs = r at *
  have hbA := below_new w (.cells #[a, b, c] 23)
  have hq : (r != 0) = true := by simp [h0]
  have HC := Lib.hid hc
  have H0 := Lib.hid h0
  obtain ⟨A, c1, rfl, _⟩ := ha
  obtain ⟨A', c', rfl, _⟩ := hb
  obtain ⟨A2, c2, rfl, _⟩ := hc0
  clear hc h0
  generalize xs.length = L at *
  generalize ys.length = L' at *
  generalize zs.length = L2 at *
  go_enter Try.func54, Try.ntmps54
  go_wp2_with (go_at_call 75; refine HC.out.mono ?_; rintro e w1 ⟨rfl, rfl⟩)
  go_ret2
  exact ⟨rfl, hbA⟩

set_option maxHeartbeats 1000000 in
set_option maxRecDepth 100000 in
theorem powMod_zero (a b c : Value) (x y n : Nat) (w : World) (ha : N32 w a x) (hb : N32 w b y) (hc : N32 w c n) (hx : (dig B32 x).length ≤ 262144) (hy : (dig B32 y).length ≤ 262144) (hn : (dig B32 n).length ≤ 262144) (h0 : n = 0) : Calls Try.prog 54 #[a, b, c] w (NatErr w 4) := by
  have hck := checkAll_any w.heap.size 3 3 _ _ (nats3 (Limbs.num ha (by omega)) (Limbs.num hb (by omega)) (Limbs.num hc (by omega))) rfl (by omega)
  rw [chkAll3, chk3, chk2, if_pos (chk_dig hx), chk_dig hy, if_pos rfl, chk_dig hn] at hck
  have hbA := below_new w (.cells #[a, b, c] 23)
  have HCK := Lib.hid hck
  have hz : (dig B32 n).length = 0 := by rw [h0, dig_zero]; rfl
  obtain ⟨A, c1, rfl, _⟩ := ha
  obtain ⟨A', c', rfl, _⟩ := hb
  obtain ⟨A2, c2, rfl, _⟩ := hc
  clear hck h0
  rw [hz] at HCK hbA ⊢
  clear hz hn
  generalize (dig B32 x).length = L at *
  generalize (dig B32 y).length = L' at *
  go_enter Try.func54, Try.ntmps54
  go_wp2_with (go_at_call 75; refine HCK.out.mono ?_; rintro e w1 ⟨rfl, rfl⟩)
  go_ret2
  exact ⟨rfl, hbA⟩

set_option maxHeartbeats 1000000 in
set_option maxRecDepth 100000 in
theorem powMod_ok (a b c : Value) (x y n : Nat) (w : World) (ha : N32 w a x) (hb : N32 w b y) (hc : N32 w c n) (hx : (dig B32 x).length ≤ 180) (hy : (dig B32 y).length ≤ 180) (hn : (dig B32 n).length ≤ 180) (h0 : 0 < n) : Calls Try.prog 54 #[a, b, c] w (NatOk w (x ^ y % n)) := by
  have hck := checkAll_any w.heap.size 3 3 _ _ (nats3 (Limbs.num ha (by omega)) (Limbs.num hb (by omega)) (Limbs.num hc (by omega))) rfl (by omega)
  rw [chkAll3, chk3, chk2, if_pos (chk_dig (n := x) (by omega)), chk_dig (n := y) (by omega), if_pos rfl, chk_dig (n := n) (by omega)] at hck
  have hbA := below_new w (.cells #[a, b, c] 23)
  have HCK := Lib.hid hck
  have ka := ha.keep hbA
  have kb := hb.keep hbA
  have kc := hc.keep hbA
  have lx := words_le (n := x) (K := 90) hx
  have ly := words_le (n := y) (K := 90) hy
  have ln := words_le (n := n) (K := 90) hn
  have hf1 := fun w' (h : N32 w' a x) => fromNat_any a x w' h (by omega)
  have hf2 := fun w' (h : N32 w' b y) => fromNat_any b y w' h (by omega)
  have hf3 := fun w' (h : N32 w' c n) => fromNat_any c n w' h (by omega)
  have hpm := fun u v t w' (h : W64 w' u x) (k : W64 w' v y) (l : W64 w' t n) => powerMod_any u v t x y n w' h k l lx ly ln h0
  have hlr : (dig B64 (x ^ y % n)).length ≤ 90 := Nat.le_trans (lenm (Nat.le_of_lt (Nat.mod_lt _ h0))) ln
  have hnt := fun v w' (h : W64 w' v (x ^ y % n)) => nat_any v _ w' h (by omega)
  have hpos : 0 < (dig B32 n).length := by
    rcases Nat.eq_zero_or_pos (dig B32 n).length with h | h
    · have := (dig_nil_iff b32_two).1 (List.eq_nil_of_length_eq_zero h); omega
    · exact h
  generalize x ^ y % n = R at *
  have HF1 := Lib.hid hf1
  have HF2 := Lib.hid hf2
  have HF3 := Lib.hid hf3
  have HPM := Lib.hid hpm
  have HNT := Lib.hid hnt
  have KA0 := Lib.hid ka
  have KB0 := Lib.hid kb
  have KC0 := Lib.hid kc
  clear hf1 hf2 hf3 hpm hnt ka kb kc
  obtain ⟨A, c1, rfl, _⟩ := ha
  obtain ⟨A', c', rfl, _⟩ := hb
  obtain ⟨A2, c2, rfl, _⟩ := hc
  clear hck lx ly ln hlr
  generalize (dig B32 x).length = L at *
  generalize (dig B32 y).length = L' at *
  generalize (dig B32 n).length = L2 at *
  go_enter Try.func54, Try.ntmps54
  go_wp2_with (fail)
  refine (HCK.out).mono ?_
  rintro e w1 ⟨rfl, rfl⟩
  go_wp2_with (fail)
  refine (HF1.out _ KA0.out).mono ?_
  rintro e w2 ⟨v1, rfl, hv1, hb2⟩
  have b2 := below_at hbA (Nat.le_refl _) hb2
  have kb_2 := KB0.out.keep hb2
  have kc_2 := KC0.out.keep hb2
  have k1_2 := hv1.is
  go_wp2_with (fail)
  refine (HF2.out _ kb_2).mono ?_
  rintro e w3 ⟨v2, rfl, hv2, hb3⟩
  have b3 := below_at b2 (Nat.le_refl _) hb3
  have kc_3 := kc_2.keep hb3
  have k1_3 := k1_2.keep hb3
  have k2_3 := hv2.is
  go_wp2_with (fail)
  refine (HF3.out _ kc_3).mono ?_
  rintro e w4 ⟨v3, rfl, hv3, hb4⟩
  have b4 := below_at b3 (Nat.le_refl _) hb4
  have k1_4 := k1_3.keep hb4
  have k2_4 := k2_3.keep hb4
  have k3_4 := hv3.is
  go_wp2_with (fail)
  refine (HPM.out _ _ _ _ k1_4 k2_4 k3_4).mono ?_
  rintro e w5 ⟨v4, rfl, hv4, hb5⟩
  have b5 := below_at b4 (Nat.le_refl _) hb5
  have k4_5 := hv4
  go_wp2_with (fail)
  refine (HNT.out _ _ k4_5).mono ?_
  rintro e w6 ⟨v5, rfl, hv5, hb6⟩
  have b6 := below_at b5 (Nat.le_refl _) hb6
  go_wp2
  go_ret2
  exact ⟨_, rfl, hv5.mono b5.size, b6⟩

set_option maxHeartbeats 2000000 in
set_option maxRecDepth 100000 in
theorem powMods_bad2 (A A1 A2 : Option Addr) (c c1 c2 L L1 L2 : Nat) (xs ys zs : List Nat) (w : World) (hA : Nums .u32 w A xs) (hA1 : Nums .u32 w A1 ys) (hA2 : Nums .u32 w A2 zs) (hL : L = xs.length) (hL1 : L1 = ys.length) (hL2 : L2 = zs.length) (hc : L ≤ c) (hc1 : L1 ≤ c1) (hc2 : L2 ≤ c2) (hnil : A = none → c = 0) (hnil1 : A1 = none → c1 = 0) (hnil2 : A2 = none → c2 = 0) (hbad : chk2 (xs.take 4) (ys.take 2) ≠ 0) : Calls Try.prog 9 #[.slice A L c, .slice A1 L1 c1, .slice A2 L2 c2] w (LivesPost w) := by
  have hcut := fun w' (h : Below w.heap.size w w') => cut_any A c L 4 xs w' (hA.keep h) hL hc hnil (by omega)
  have hcut1 := fun w' (h : Below w.heap.size w w') => cut_any A1 c1 L1 2 ys w' (hA1.keep h) hL1 hc1 hnil1 (by omega)
  have hcut2 := fun w' (h : Below w.heap.size w w') => cut_any A2 c2 L2 4 zs w' (hA2.keep h) hL2 hc2 hnil2 (by omega)
  have l1 : (xs.take 4).length ≤ 4 := by rw [List.length_take]; omega
  have l2 : (ys.take 2).length ≤ 2 := by rw [List.length_take]; omega
  have l3 : (zs.take 4).length ≤ 4 := by rw [List.length_take]; omega
  generalize xs.take 4 = us at *
  generalize ys.take 2 = vs at *
  generalize zs.take 4 = ts at *
  have hlu : ∀ B w' a, OwnLs B w' a us → Limbs w' a us := fun B w' a h => h.limbs (by omega)
  have hlv : ∀ B w' a, OwnLs B w' a vs → Limbs w' a vs := fun B w' a h => h.limbs (by omega)
  have hlt : ∀ B w' a, OwnLs B w' a ts → Limbs w' a ts := fun B w' a h => h.limbs (by omega)
  have h40 := fun a b w h k => both_any a b us vs w h k
  have h27 := fun a w h => refCheck_l a ts w h
  have e3 : chk3 us vs ts = chk2 us vs := by unfold chk3; rw [if_neg hbad]
  have h54 := fun a b c w h k l => powMod_bad a b c us vs ts w h k l (by rw [e3]; exact hbad)
  rw [e3] at h54
  generalize chk2 us vs = r at *
  have hq : (r == 0) = false := by simp [hbad]
  have hq1 : (r != 0) = true := by simp [hbad]
  have h41 := fun b w => is_err b r w hbad
  have HCUT := Lib.hid hcut
  have HCUT1 := Lib.hid hcut1
  have HCUT2 := Lib.hid hcut2
  have HLU := Lib.hid hlu
  have HLV := Lib.hid hlv
  have HLT := Lib.hid hlt
  have H40 := Lib.hid h40
  have H27 := Lib.hid h27
  have H54 := Lib.hid h54
  have H41 := Lib.hid h41
  have HBAD := Lib.hid hbad
  clear hcut hcut1 hcut2 hlu hlv hlt h40 h27 h54 h41 hbad
  clear e3
  clear hA hA1 hA2 hL hL1 hL2 hnil hnil1 hnil2 l1 l2 l3
  go_enter Try.func9, Try.ntmps9
  go_wp2_with (fail)
  refine (HCUT.out _ (Below.refl _ _)).mono ?_
  rintro e w1 ⟨va, rfl, hva, hb1⟩
  have b1 := below_at (Below.refl _ _) (Nat.le_refl _) hb1
  have ka_1 := HLU.out _ _ _ hva
  go_wp2_with (fail)
  refine (HCUT1.out _ b1).mono ?_
  rintro e w2 ⟨vb, rfl, hvb, hb2⟩
  have b2 := below_at b1 (Nat.le_refl _) hb2
  have ka_2 := ka_1.keep hb2
  have kb_2 := HLV.out _ _ _ hvb
  go_wp2_with (fail)
  refine (HCUT2.out _ b2).mono ?_
  rintro e w3 ⟨vc, rfl, hvc, hb3⟩
  have b3 := below_at b2 (Nat.le_refl _) hb3
  have ka_3 := ka_2.keep hb3
  have kb_3 := kb_2.keep hb3
  have kc_3 := HLT.out _ _ _ hvc
  go_wp2_with (fail)
  refine (H54.out _ _ _ _ ka_3 kb_3 kc_3).mono ?_
  rintro e w4 ⟨rfl, hb4⟩
  have b4 := below_at b3 (Nat.le_refl _) hb4
  have ka_4 := ka_3.keep hb4
  have kb_4 := kb_3.keep hb4
  have kc_4 := kc_3.keep hb4
  go_wp2_with (fail)
  refine (H40.out _ _ _ ka_4 kb_4).mono ?_
  rintro e w5 ⟨rfl, rfl⟩
  go_wp2_with (fail)
  refine (H41.out _ _).mono ?_
  rintro e w6 ⟨rfl, hb6⟩
  have b6 := below_at b4 (Nat.le_refl _) hb6
  go_wp2_with (fail)
  refine (lives_any _).mono ?_
  rintro e w7 ⟨rfl, hb7⟩
  have b7 := below_at b6 (Nat.le_refl _) hb7
  go_wp2
  go_ret
  exact ⟨rfl, b7⟩

set_option maxHeartbeats 2000000 in
set_option maxRecDepth 100000 in
theorem powMods_bad3 (A A1 A2 : Option Addr) (c c1 c2 L L1 L2 : Nat) (xs ys zs : List Nat) (w : World) (hA : Nums .u32 w A xs) (hA1 : Nums .u32 w A1 ys) (hA2 : Nums .u32 w A2 zs) (hL : L = xs.length) (hL1 : L1 = ys.length) (hL2 : L2 = zs.length) (hc : L ≤ c) (hc1 : L1 ≤ c1) (hc2 : L2 ≤ c2) (hnil : A = none → c = 0) (hnil1 : A1 = none → c1 = 0) (hnil2 : A2 = none → c2 = 0) (h20 : chk2 (xs.take 4) (ys.take 2) = 0) (hbad : chk (zs.take 4) ≠ 0) : Calls Try.prog 9 #[.slice A L c, .slice A1 L1 c1, .slice A2 L2 c2] w (LivesPost w) := by
  have hcut := fun w' (h : Below w.heap.size w w') => cut_any A c L 4 xs w' (hA.keep h) hL hc hnil (by omega)
  have hcut1 := fun w' (h : Below w.heap.size w w') => cut_any A1 c1 L1 2 ys w' (hA1.keep h) hL1 hc1 hnil1 (by omega)
  have hcut2 := fun w' (h : Below w.heap.size w w') => cut_any A2 c2 L2 4 zs w' (hA2.keep h) hL2 hc2 hnil2 (by omega)
  have l1 : (xs.take 4).length ≤ 4 := by rw [List.length_take]; omega
  have l2 : (ys.take 2).length ≤ 2 := by rw [List.length_take]; omega
  have l3 : (zs.take 4).length ≤ 4 := by rw [List.length_take]; omega
  generalize xs.take 4 = us at *
  generalize ys.take 2 = vs at *
  generalize zs.take 4 = ts at *
  have hlu : ∀ B w' a, OwnLs B w' a us → Limbs w' a us := fun B w' a h => h.limbs (by omega)
  have hlv : ∀ B w' a, OwnLs B w' a vs → Limbs w' a vs := fun B w' a h => h.limbs (by omega)
  have hlt : ∀ B w' a, OwnLs B w' a ts → Limbs w' a ts := fun B w' a h => h.limbs (by omega)
  have h40 := fun a b w h k => both_any a b us vs w h k
  have h27 := fun a w h => refCheck_l a ts w h
  have e3 : chk3 us vs ts = chk ts := by unfold chk3; rw [if_pos h20]
  have h54 := fun a b c w h k l => powMod_bad a b c us vs ts w h k l (by rw [e3]; exact hbad)
  rw [e3] at h54
  rw [h20] at h40
  generalize chk ts = r at *
  have hq : (r == 0) = false := by simp [hbad]
  have hq1 : (r != 0) = true := by simp [hbad]
  have h41 := fun b w => is_err b r w hbad
  have HCUT := Lib.hid hcut
  have HCUT1 := Lib.hid hcut1
  have HCUT2 := Lib.hid hcut2
  have HLU := Lib.hid hlu
  have HLV := Lib.hid hlv
  have HLT := Lib.hid hlt
  have H40 := Lib.hid h40
  have H27 := Lib.hid h27
  have H54 := Lib.hid h54
  have H41 := Lib.hid h41
  have HBAD := Lib.hid hbad
  clear hcut hcut1 hcut2 hlu hlv hlt h40 h27 h54 h41 hbad
  clear e3 h20
  clear hA hA1 hA2 hL hL1 hL2 hnil hnil1 hnil2 l1 l2 l3
  go_enter Try.func9, Try.ntmps9
  go_wp2_with (fail)
  refine (HCUT.out _ (Below.refl _ _)).mono ?_
  rintro e w1 ⟨va, rfl, hva, hb1⟩
  have b1 := below_at (Below.refl _ _) (Nat.le_refl _) hb1
  have ka_1 := HLU.out _ _ _ hva
  go_wp2_with (fail)
  refine (HCUT1.out _ b1).mono ?_
  rintro e w2 ⟨vb, rfl, hvb, hb2⟩
  have b2 := below_at b1 (Nat.le_refl _) hb2
  have ka_2 := ka_1.keep hb2
  have kb_2 := HLV.out _ _ _ hvb
  go_wp2_with (fail)
  refine (HCUT2.out _ b2).mono ?_
  rintro e w3 ⟨vc, rfl, hvc, hb3⟩
  have b3 := below_at b2 (Nat.le_refl _) hb3
  have ka_3 := ka_2.keep hb3
  have kb_3 := kb_2.keep hb3
  have kc_3 := HLT.out _ _ _ hvc
  go_wp2_with (fail)
  refine (H54.out _ _ _ _ ka_3 kb_3 kc_3).mono ?_
  rintro e w4 ⟨rfl, hb4⟩
  have b4 := below_at b3 (Nat.le_refl _) hb4
  have ka_4 := ka_3.keep hb4
  have kb_4 := kb_3.keep hb4
  have kc_4 := kc_3.keep hb4
  go_wp2_with (fail)
  refine (H40.out _ _ _ ka_4 kb_4).mono ?_
  rintro e w5 ⟨rfl, rfl⟩
  go_wp2_with (fail)
  refine (H27.out _ _ kc_4).mono ?_
  rintro e w6 ⟨rfl, rfl⟩
  go_wp2_with (fail)
  refine (H41.out _ _).mono ?_
  rintro e w7 ⟨rfl, hb7⟩
  have b7 := below_at b4 (Nat.le_refl _) hb7
  go_wp2_with (fail)
  refine (lives_any _).mono ?_
  rintro e w8 ⟨rfl, hb8⟩
  have b8 := below_at b7 (Nat.le_refl _) hb8
  go_wp2
  go_ret
  exact ⟨rfl, b8⟩

set_option maxHeartbeats 2000000 in
set_option maxRecDepth 100000 in
theorem powMods_zero (A A1 A2 : Option Addr) (c c1 c2 L L1 L2 : Nat) (xs ys zs : List Nat) (w : World) (hA : Nums .u32 w A xs) (hA1 : Nums .u32 w A1 ys) (hA2 : Nums .u32 w A2 zs) (hL : L = xs.length) (hL1 : L1 = ys.length) (hL2 : L2 = zs.length) (hc : L ≤ c) (hc1 : L1 ≤ c1) (hc2 : L2 ≤ c2) (hnil : A = none → c = 0) (hnil1 : A1 = none → c1 = 0) (hnil2 : A2 = none → c2 = 0) (x y n : Nat) (hm : xs.take 4 = dig B32 x) (hm1 : ys.take 2 = dig B32 y) (hm2 : zs.take 4 = dig B32 n) (h0 : n = 0) : Calls Try.prog 9 #[.slice A L c, .slice A1 L1 c1, .slice A2 L2 c2] w (LivesPost w) := by
  have hcut := fun w' (h : Below w.heap.size w w') => cut_any A c L 4 xs w' (hA.keep h) hL hc hnil (by omega)
  have hcut1 := fun w' (h : Below w.heap.size w w') => cut_any A1 c1 L1 2 ys w' (hA1.keep h) hL1 hc1 hnil1 (by omega)
  have hcut2 := fun w' (h : Below w.heap.size w w') => cut_any A2 c2 L2 4 zs w' (hA2.keep h) hL2 hc2 hnil2 (by omega)
  have l1 : (xs.take 4).length ≤ 4 := by rw [List.length_take]; omega
  have l2 : (ys.take 2).length ≤ 2 := by rw [List.length_take]; omega
  have l3 : (zs.take 4).length ≤ 4 := by rw [List.length_take]; omega
  rw [hm] at hcut l1
  rw [hm1] at hcut1 l2
  rw [hm2] at hcut2 l3
  have hlu : ∀ B w' a, OwnLs B w' a (dig B32 x) → Limbs w' a (dig B32 x) := fun B w' a h => h.limbs (by omega)
  have hlv : ∀ B w' a, OwnLs B w' a (dig B32 y) → Limbs w' a (dig B32 y) := fun B w' a h => h.limbs (by omega)
  have hlt : ∀ B w' a, OwnLs B w' a (dig B32 n) → Limbs w' a (dig B32 n) := fun B w' a h => h.limbs (by omega)
  have h40 := fun a b w h k => both_any a b (dig B32 x) (dig B32 y) w h k
  rw [chk2, if_pos (chk_dig (by omega)), chk_dig (by omega)] at h40
  have h27 := fun a w h => refCheck_l a (dig B32 n) w h
  rw [chk_dig (by omega)] at h27
  have h54 := fun a b c w' (h : Limbs w' a (dig B32 x)) (k : Limbs w' b (dig B32 y)) (l : Limbs w' c (dig B32 n)) => powMod_zero a b c x y n w' h.is k.is l.is (by omega) (by omega) (by omega) h0
  have h41 := fun b w => is_err b 4 w (by omega)
  have hD : (dig B32 n).length = 0 := by rw [h0, dig_zero]; rfl
  have HCUT := Lib.hid hcut
  have HCUT1 := Lib.hid hcut1
  have HCUT2 := Lib.hid hcut2
  have HLU := Lib.hid hlu
  have HLV := Lib.hid hlv
  have HLT := Lib.hid hlt
  have H40 := Lib.hid h40
  have H27 := Lib.hid h27
  have H54 := Lib.hid h54
  have H41 := Lib.hid h41
  have HD := Lib.hid hD
  clear hcut hcut1 hcut2 hlu hlv hlt h40 h27 h54 h41 hD
  clear h0 hm hm1 hm2
  clear hA hA1 hA2 hL hL1 hL2 hnil hnil1 hnil2 l1 l2 l3
  go_enter Try.func9, Try.ntmps9
  go_wp2_with (fail)
  refine (HCUT.out _ (Below.refl _ _)).mono ?_
  rintro e w1 ⟨va, rfl, hva, hb1⟩
  have b1 := below_at (Below.refl _ _) (Nat.le_refl _) hb1
  have ka_1 := HLU.out _ _ _ hva
  go_wp2_with (fail)
  refine (HCUT1.out _ b1).mono ?_
  rintro e w2 ⟨vb, rfl, hvb, hb2⟩
  have b2 := below_at b1 (Nat.le_refl _) hb2
  have ka_2 := ka_1.keep hb2
  have kb_2 := HLV.out _ _ _ hvb
  go_wp2_with (fail)
  refine (HCUT2.out _ b2).mono ?_
  rintro e w3 ⟨vc, rfl, hvc, hb3⟩
  have b3 := below_at b2 (Nat.le_refl _) hb3
  have ka_3 := ka_2.keep hb3
  have kb_3 := kb_2.keep hb3
  have kc_3 := HLT.out _ _ _ hvc
  have kk := kc_3
  obtain ⟨A3, c3, hve, hcc, _⟩ := kk
  rw [HD.out] at hve hcc
  subst hve
  go_wp2_with (fail)
  refine (H54.out _ _ _ _ ka_3 kb_3 kc_3).mono ?_
  rintro e w4 ⟨rfl, hb4⟩
  have b4 := below_at b3 (Nat.le_refl _) hb4
  have ka_4 := ka_3.keep hb4
  have kb_4 := kb_3.keep hb4
  have kc_4 := kc_3.keep hb4
  go_wp2_with (fail)
  refine (H40.out _ _ _ ka_4 kb_4).mono ?_
  rintro e w5 ⟨rfl, rfl⟩
  go_wp2_with (fail)
  refine (H27.out _ _ kc_4).mono ?_
  rintro e w6 ⟨rfl, rfl⟩
  go_wp2_with (fail)
  refine (H41.out _ _).mono ?_
  rintro e w7 ⟨rfl, hb7⟩
  have b7 := below_at b4 (Nat.le_refl _) hb7
  go_wp2_with (fail)
  refine (lives_any _).mono ?_
  rintro e w8 ⟨rfl, hb8⟩
  have b8 := below_at b7 (Nat.le_refl _) hb8
  go_wp2
  go_ret
  exact ⟨rfl, b8⟩

set_option maxHeartbeats 2000000 in
set_option maxRecDepth 100000 in
theorem powMods_ok (A A1 A2 : Option Addr) (c c1 c2 L L1 L2 : Nat) (xs ys zs : List Nat) (w : World) (hA : Nums .u32 w A xs) (hA1 : Nums .u32 w A1 ys) (hA2 : Nums .u32 w A2 zs) (hL : L = xs.length) (hL1 : L1 = ys.length) (hL2 : L2 = zs.length) (hc : L ≤ c) (hc1 : L1 ≤ c1) (hc2 : L2 ≤ c2) (hnil : A = none → c = 0) (hnil1 : A1 = none → c1 = 0) (hnil2 : A2 = none → c2 = 0) (x y n : Nat) (hm : xs.take 4 = dig B32 x) (hm1 : ys.take 2 = dig B32 y) (hm2 : zs.take 4 = dig B32 n) (h0 : 0 < n) : Calls Try.prog 9 #[.slice A L c, .slice A1 L1 c1, .slice A2 L2 c2] w (LivesPost w) := by
  have hcut := fun w' (h : Below w.heap.size w w') => cut_any A c L 4 xs w' (hA.keep h) hL hc hnil (by omega)
  have hcut1 := fun w' (h : Below w.heap.size w w') => cut_any A1 c1 L1 2 ys w' (hA1.keep h) hL1 hc1 hnil1 (by omega)
  have hcut2 := fun w' (h : Below w.heap.size w w') => cut_any A2 c2 L2 4 zs w' (hA2.keep h) hL2 hc2 hnil2 (by omega)
  have l1 : (xs.take 4).length ≤ 4 := by rw [List.length_take]; omega
  have l2 : (ys.take 2).length ≤ 2 := by rw [List.length_take]; omega
  have l3 : (zs.take 4).length ≤ 4 := by rw [List.length_take]; omega
  rw [hm] at hcut l1
  rw [hm1] at hcut1 l2
  rw [hm2] at hcut2 l3
  have hlu : ∀ B w' a, OwnLs B w' a (dig B32 x) → Limbs w' a (dig B32 x) := fun B w' a h => h.limbs (by omega)
  have hlv : ∀ B w' a, OwnLs B w' a (dig B32 y) → Limbs w' a (dig B32 y) := fun B w' a h => h.limbs (by omega)
  have hlt : ∀ B w' a, OwnLs B w' a (dig B32 n) → Limbs w' a (dig B32 n) := fun B w' a h => h.limbs (by omega)
  have h40 := fun a b w h k => both_any a b (dig B32 x) (dig B32 y) w h k
  rw [chk2, if_pos (chk_dig (by omega)), chk_dig (by omega)] at h40
  have h27 := fun a w h => refCheck_l a (dig B32 n) w h
  rw [chk_dig (by omega)] at h27
  have h54 := fun a b c w' (h : Limbs w' a (dig B32 x)) (k : Limbs w' b (dig B32 y)) (l : Limbs w' c (dig B32 n)) => powMod_ok a b c x y n w' h.is k.is l.is (by omega) (by omega) (by omega) h0
  have h55 := fun a b c w' (h : Limbs w' a (dig B32 x)) (k : Limbs w' b (dig B32 y)) (l : Limbs w' c (dig B32 n)) => refPowMod_any a b c x y n w' h.is k.is l.is (by omega) (by omega) (by omega) h0
  have hlr : (dig B32 (x ^ y % n)).length ≤ 4 := Nat.le_trans (len_mono32 (Nat.le_of_lt (Nat.mod_lt _ h0))) l3
  generalize x ^ y % n = R at *
  have h41 := fun a b w' (h : N32 w' a R) (k : N32 w' b R) => is_ok a b R w' h (Limbs.num k (by omega)) (by omega)
  obtain ⟨D, hD⟩ : ∃ D, (dig B32 n).length = D := ⟨_, rfl⟩
  have hd0 : 0 < D := by
    rcases Nat.eq_zero_or_pos D with h | h
    · rw [h] at hD
      have := (dig_nil_iff b32_two).1 (List.eq_nil_of_length_eq_zero hD); omega
    · exact h
  have HCUT := Lib.hid hcut
  have HCUT1 := Lib.hid hcut1
  have HCUT2 := Lib.hid hcut2
  have HLU := Lib.hid hlu
  have HLV := Lib.hid hlv
  have HLT := Lib.hid hlt
  have H40 := Lib.hid h40
  have H27 := Lib.hid h27
  have H54 := Lib.hid h54
  have H55 := Lib.hid h55
  have H41 := Lib.hid h41
  have HD := Lib.hid hD
  clear hcut hcut1 hcut2 hlu hlv hlt h40 h27 h54 h55 h41 hD
  clear hlr
  clear h0 hm hm1 hm2
  clear hA hA1 hA2 hL hL1 hL2 hnil hnil1 hnil2 l1 l2 l3
  go_enter Try.func9, Try.ntmps9
  go_wp2_with (fail)
  refine (HCUT.out _ (Below.refl _ _)).mono ?_
  rintro e w1 ⟨va, rfl, hva, hb1⟩
  have b1 := below_at (Below.refl _ _) (Nat.le_refl _) hb1
  have ka_1 := HLU.out _ _ _ hva
  go_wp2_with (fail)
  refine (HCUT1.out _ b1).mono ?_
  rintro e w2 ⟨vb, rfl, hvb, hb2⟩
  have b2 := below_at b1 (Nat.le_refl _) hb2
  have ka_2 := ka_1.keep hb2
  have kb_2 := HLV.out _ _ _ hvb
  go_wp2_with (fail)
  refine (HCUT2.out _ b2).mono ?_
  rintro e w3 ⟨vc, rfl, hvc, hb3⟩
  have b3 := below_at b2 (Nat.le_refl _) hb3
  have ka_3 := ka_2.keep hb3
  have kb_3 := kb_2.keep hb3
  have kc_3 := HLT.out _ _ _ hvc
  have kk := kc_3
  obtain ⟨A3, c3, hve, hcc, _⟩ := kk
  rw [HD.out] at hve hcc
  subst hve
  go_wp2_with (fail)
  refine (H54.out _ _ _ _ ka_3 kb_3 kc_3).mono ?_
  rintro e w4 ⟨vp, rfl, hvp, hb4⟩
  have b4 := below_at b3 (Nat.le_refl _) hb4
  have ka_4 := ka_3.keep hb4
  have kb_4 := kb_3.keep hb4
  have kc_4 := kc_3.keep hb4
  have kp_4 := hvp.is
  go_wp2_with (fail)
  refine (H40.out _ _ _ ka_4 kb_4).mono ?_
  rintro e w5 ⟨rfl, rfl⟩
  go_wp2_with (fail)
  refine (H27.out _ _ kc_4).mono ?_
  rintro e w6 ⟨rfl, rfl⟩
  go_wp2_with (fail)
  refine (H55.out _ _ _ _ ka_4 kb_4 kc_4).mono ?_
  rintro e w7 ⟨vr, rfl, hvr, hb7⟩
  have b7 := below_at b4 (Nat.le_refl _) hb7
  have kp_7 := kp_4.keep hb7
  have kr_7 := hvr
  go_wp2_with (fail)
  refine (H41.out _ _ _ kp_7 kr_7).mono ?_
  rintro e w8 ⟨rfl, hb8⟩
  have b8 := below_at b7 (Nat.le_refl _) hb8
  go_wp2_with (fail)
  refine (lives_any _).mono ?_
  rintro e w9 ⟨rfl, hb9⟩
  have b9 := below_at b8 (Nat.le_refl _) hb9
  go_wp2
  go_ret
  exact ⟨rfl, b9⟩

/-- The law NatPowMods, for whatever limbs. -/
theorem powMods_walk (A A1 A2 : Option Addr) (c c1 c2 L L1 L2 : Nat) (xs ys zs : List Nat) (w : World) (hA : Nums .u32 w A xs) (hA1 : Nums .u32 w A1 ys) (hA2 : Nums .u32 w A2 zs) (hL : L = xs.length) (hL1 : L1 = ys.length) (hL2 : L2 = zs.length) (hc : L ≤ c) (hc1 : L1 ≤ c1) (hc2 : L2 ≤ c2) (hnil : A = none → c = 0) (hnil1 : A1 = none → c1 = 0) (hnil2 : A2 = none → c2 = 0) (hlow : Low B32 xs) (hlow1 : Low B32 ys) (hlow2 : Low B32 zs) : Calls Try.prog 9 #[.slice A L c, .slice A1 L1 c1, .slice A2 L2 c2] w (LivesPost w) := by
  by_cases h0 : chk2 (xs.take 4) (ys.take 2) = 0
  · have h1 : chk (xs.take 4) = 0 ∧ chk (ys.take 2) = 0 := by
      have h0' := h0
      unfold chk2 at h0'
      split at h0'
      · rename_i h; exact ⟨h, h0'⟩
      · rename_i h; exact absurd h0' h
    by_cases h2 : chk (zs.take 4) = 0
    · have hm := chk_zero (hlow.take 4) h1.1
      have hm1 := chk_zero (hlow1.take 2) h1.2
      have hm2 := chk_zero (hlow2.take 4) h2
      rcases Nat.eq_zero_or_pos (val B32 (zs.take 4)) with h | h
      · exact powMods_zero A A1 A2 c c1 c2 L L1 L2 xs ys zs w hA hA1 hA2 hL hL1 hL2 hc hc1 hc2 hnil hnil1 hnil2 _ _ _ hm hm1 hm2 h
      · exact powMods_ok A A1 A2 c c1 c2 L L1 L2 xs ys zs w hA hA1 hA2 hL hL1 hL2 hc hc1 hc2 hnil hnil1 hnil2 _ _ _ hm hm1 hm2 h
    · exact powMods_bad3 A A1 A2 c c1 c2 L L1 L2 xs ys zs w hA hA1 hA2 hL hL1 hL2 hc hc1 hc2 hnil hnil1 hnil2 h0 h2
  · exact powMods_bad2 A A1 A2 c c1 c2 L L1 L2 xs ys zs w hA hA1 hA2 hL hL1 hL2 hc hc1 hc2 hnil hnil1 hnil2 h0
end Go.Proofs.Ytaegkhdkhgemmaa

namespace Go.Proofs.Ytaegkhdkhgemmaa
open Go.RowKit Num

set_option maxHeartbeats 1000000 in
set_option maxRecDepth 100000 in
theorem shift_bad (a : Value) (n : Int) (xs : List Nat) (w : World) (ha : Limbs w a xs) (h0 : chk xs ≠ 0) : Calls Try.prog 49 #[a, .int .i64 n] w (NatErr w (chk xs)) := by
  have hc := checkAll_any w.heap.size 1 1 _ _ (nats1 ha) rfl (by omega)
  rw [chkAll1] at hc
  generalize chk xs = r at *
  have hbA := below_new w (.cells #[a] 23)
  have hq : (r != 0) = true := by simp [h0]
  have HC := Lib.hid hc
  have H0 := Lib.hid h0
  obtain ⟨A, c, rfl, _⟩ := ha
  clear hc h0
  generalize xs.length = L at *
  go_enter Try.func49, Try.ntmps49
  go_wp2_with (go_at_call 75; refine HC.out.mono ?_; rintro e w1 ⟨rfl, rfl⟩)
  go_ret2
  exact ⟨rfl, hbA⟩

theorem ownL_nil (B : Nat) (w : World) : OwnL B w (.slice none 0 0) 0 := by
  unfold OwnL
  rw [dig_zero]
  exact ⟨rfl, .inl ⟨rfl, rfl⟩⟩
set_option maxHeartbeats 1000000 in
set_option maxRecDepth 100000 in
theorem shift_zero (a : Value) (m : Nat) (n : Int) (w : World) (ha : N32 w a m) (hl : (dig B32 m).length ≤ 262144) (h0 : m = 0) : Calls Try.prog 49 #[a, .int .i64 n] w (NatOk w 0) := by
  have hc := checkAll_any w.heap.size 1 1 _ _ (nats1 (Limbs.num ha (by omega))) rfl (by omega)
  rw [chkAll1, chk_dig hl] at hc
  have hbA := below_new w (.cells #[a] 23)
  have hf := fromNat_any a m _ (ha.keep hbA) (by omega)
  have lm := words_le (n := m) (K := 131072) hl
  have hbt := fun v w' (h : W64 w' v m) => bits_call v m w' h (by omega)
  have hz : nbits m = 0 := by rw [h0]; rfl
  rw [hz] at hbt
  have HC := Lib.hid hc
  have HF := Lib.hid hf
  have HBT := Lib.hid hbt
  obtain ⟨A, c, rfl, _⟩ := ha
  clear hc hf hbt lm
  clear h0 hz hl
  generalize (dig B32 m).length = L at *
  go_enter Try.func49, Try.ntmps49
  go_wp2_with (fail)
  refine (HC.out).mono ?_
  rintro e w1 ⟨rfl, rfl⟩
  go_wp2_with (fail)
  refine (HF.out).mono ?_
  rintro e w2 ⟨v1, rfl, hv1, hb2⟩
  have b2 := below_at hbA (Nat.le_refl _) hb2
  have k1_2 := hv1.is
  go_wp2_with (fail)
  refine (HBT.out _ _ k1_2).mono ?_
  rintro e w3 ⟨rfl, rfl⟩
  go_wp2
  go_ret2
  exact ⟨_, rfl, ownL_nil _ _, b2⟩

set_option maxHeartbeats 1000000 in
set_option maxRecDepth 100000 in
theorem shift_low (a : Value) (m : Nat) (n : Int) (w : World) (ha : N32 w a m) (hl : (dig B32 m).length ≤ 262144) (h0 : m ≠ 0) (hn : n ≤ -(nbits m : Int)) : Calls Try.prog 49 #[a, .int .i64 n] w (NatOk w 0) := by
  have hc := checkAll_any w.heap.size 1 1 _ _ (nats1 (Limbs.num ha (by omega))) rfl (by omega)
  rw [chkAll1, chk_dig hl] at hc
  have hbA := below_new w (.cells #[a] 23)
  have hf := fromNat_any a m _ (ha.keep hbA) (by omega)
  have lm := words_le (n := m) (K := 131072) hl
  have hbt := fun v w' (h : W64 w' v m) => bits_call v m w' h (by omega)
  have h1 := nbits_ne h0
  have h2 := len_bits_le (n := m) (k := 131072) (words_le (K := 131072) hl)
  generalize nbits m = r at *
  have hq : ((r : Int) == 0) = false := by simp; omega
  have hd : decide (n ≤ -(r : Int)) = true := by simp [hn]
  have HC := Lib.hid hc
  have HF := Lib.hid hf
  have HBT := Lib.hid hbt
  obtain ⟨A, c, rfl, _⟩ := ha
  clear hc hf hbt lm
  clear h0 hl
  generalize (dig B32 m).length = L at *
  go_enter Try.func49, Try.ntmps49
  go_wp2_with (fail)
  refine (HC.out).mono ?_
  rintro e w1 ⟨rfl, rfl⟩
  go_wp2_with (fail)
  refine (HF.out).mono ?_
  rintro e w2 ⟨v1, rfl, hv1, hb2⟩
  have b2 := below_at hbA (Nat.le_refl _) hb2
  have k1_2 := hv1.is
  go_wp2_with (fail)
  refine (HBT.out _ _ k1_2).mono ?_
  rintro e w3 ⟨rfl, rfl⟩
  go_wp2
  go_ret2
  exact ⟨_, rfl, ownL_nil _ _, b2⟩

set_option maxHeartbeats 1000000 in
set_option maxRecDepth 100000 in
theorem shift_long (a : Value) (m : Nat) (n : Int) (w : World) (ha : N32 w a m) (hl : (dig B32 m).length ≤ 262144) (h0 : m ≠ 0) (hn : 8388608 - (nbits m : Int) < n) : Calls Try.prog 49 #[a, .int .i64 n] w (NatErr w 3) := by
  have hc := checkAll_any w.heap.size 1 1 _ _ (nats1 (Limbs.num ha (by omega))) rfl (by omega)
  rw [chkAll1, chk_dig hl] at hc
  have hbA := below_new w (.cells #[a] 23)
  have hf := fromNat_any a m _ (ha.keep hbA) (by omega)
  have lm := words_le (n := m) (K := 131072) hl
  have hbt := fun v w' (h : W64 w' v m) => bits_call v m w' h (by omega)
  have h1 := nbits_ne h0
  have h2 := len_bits_le (n := m) (k := 131072) (words_le (K := 131072) hl)
  generalize nbits m = r at *
  have hq : ((r : Int) == 0) = false := by simp; omega
  have hd : ¬ n ≤ -(r : Int) := by omega
  have HC := Lib.hid hc
  have HF := Lib.hid hf
  have HBT := Lib.hid hbt
  obtain ⟨A, c, rfl, _⟩ := ha
  clear hc hf hbt lm
  clear h0 hl
  generalize (dig B32 m).length = L at *
  go_enter Try.func49, Try.ntmps49
  go_wp2_with (fail)
  refine (HC.out).mono ?_
  rintro e w1 ⟨rfl, rfl⟩
  go_wp2_with (fail)
  refine (HF.out).mono ?_
  rintro e w2 ⟨v1, rfl, hv1, hb2⟩
  have b2 := below_at hbA (Nat.le_refl _) hb2
  have k1_2 := hv1.is
  go_wp2_with (fail)
  refine (HBT.out _ _ k1_2).mono ?_
  rintro e w3 ⟨rfl, rfl⟩
  go_wp2
  go_ret2
  exact ⟨rfl, b2⟩

set_option maxHeartbeats 1000000 in
set_option maxRecDepth 100000 in
theorem shift_down (a : Value) (m : Nat) (k : Nat) (w : World) (ha : N32 w a m) (hl : (dig B32 m).length ≤ 262144) (h0 : m ≠ 0) (hk : 1 ≤ k) (hn : k < nbits m) : Calls Try.prog 49 #[a, .int .i64 (-(k : Int))] w (NatOk w (m / 2 ^ k)) := by
  have hc := checkAll_any w.heap.size 1 1 _ _ (nats1 (Limbs.num ha (by omega))) rfl (by omega)
  rw [chkAll1, chk_dig hl] at hc
  have hbA := below_new w (.cells #[a] 23)
  have hf := fromNat_any a m _ (ha.keep hbA) (by omega)
  have lm := words_le (n := m) (K := 131072) hl
  have hbt := fun v w' (h : W64 w' v m) => bits_call v m w' h (by omega)
  have h1 := nbits_ne h0
  have h2 := len_bits_le (n := m) (k := 131072) (words_le (K := 131072) hl)
  have hsh := fun v w' (h : W64 w' v m) => shiftRight_any v m k w' h (by omega) (by omega)
  have hlq : (dig B64 (m / 2 ^ k)).length ≤ 131072 := Nat.le_trans (dig_len_mono (Nat.div_le_self _ _)) (by omega)
  have hnt := fun v w' (h : W64 w' v (m / 2 ^ k)) => nat_any v _ w' h (by omega)
  have HSH := Lib.hid hsh
  have HNT := Lib.hid hnt
  generalize nbits m = r at *
  have hq : ((r : Int) == 0) = false := by simp; omega
  have hd : ¬ (-(k : Int)) ≤ -(r : Int) := by omega
  have HC := Lib.hid hc
  have HF := Lib.hid hf
  have HBT := Lib.hid hbt
  obtain ⟨A, c, rfl, _⟩ := ha
  clear hc hf hbt lm
  clear h0 hl hlq hsh hnt
  generalize (dig B32 m).length = L at *
  go_enter Try.func49, Try.ntmps49
  go_wp2_with (fail)
  refine (HC.out).mono ?_
  rintro e w1 ⟨rfl, rfl⟩
  go_wp2_with (fail)
  refine (HF.out).mono ?_
  rintro e w2 ⟨v1, rfl, hv1, hb2⟩
  have b2 := below_at hbA (Nat.le_refl _) hb2
  have k1_2 := hv1.is
  go_wp2_with (fail)
  refine (HBT.out _ _ k1_2).mono ?_
  rintro e w3 ⟨rfl, rfl⟩
  go_wp2_with (fail)
  refine (HSH.out _ _ k1_2).mono ?_
  rintro e w4 ⟨v2, rfl, hv2, hb4⟩
  have b4 := below_at b2 (Nat.le_refl _) hb4
  have k1_4 := k1_2.keep hb4
  have k2_4 := hv2
  go_wp2_with (fail)
  refine (HNT.out _ _ k2_4).mono ?_
  rintro e w5 ⟨v3, rfl, hv3, hb5⟩
  have b5 := below_at b4 (Nat.le_refl _) hb5
  have k1_5 := k1_4.keep hb5
  have k2_5 := k2_4.keep hb5
  go_wp2
  go_ret2
  exact ⟨_, rfl, hv3.mono b4.size, b5⟩

set_option maxHeartbeats 1000000 in
set_option maxRecDepth 100000 in
theorem shift_up (a : Value) (m : Nat) (k : Nat) (w : World) (ha : N32 w a m) (hl : (dig B32 m).length ≤ 262144) (h0 : m ≠ 0) (hn : k + nbits m ≤ 8388608) : Calls Try.prog 49 #[a, .int .i64 (k : Int)] w (NatOk w (m * 2 ^ k)) := by
  have hc := checkAll_any w.heap.size 1 1 _ _ (nats1 (Limbs.num ha (by omega))) rfl (by omega)
  rw [chkAll1, chk_dig hl] at hc
  have hbA := below_new w (.cells #[a] 23)
  have hf := fromNat_any a m _ (ha.keep hbA) (by omega)
  have lm := words_le (n := m) (K := 131072) hl
  have hbt := fun v w' (h : W64 w' v m) => bits_call v m w' h (by omega)
  have h1 := nbits_ne h0
  have h2 := len_bits_le (n := m) (k := 131072) (words_le (K := 131072) hl)
  have hsh := fun v w' (h : W64 w' v m) => shiftLeft_any v m k w' h (by omega) (by omega)
  have hlq : (dig B64 (m * 2 ^ k)).length ≤ 131072 := by
    refine len_of_bits (Nat.le_trans (nbits_le (k := nbits m + k) ?_) (by omega))
    rw [Nat.pow_add]
    exact Nat.mul_lt_mul_of_pos_right (nbits_lt m) (Nat.pow_pos (by omega))
  have hnt := fun v w' (h : W64 w' v (m * 2 ^ k)) => nat_any v _ w' h (by omega)
  have HSH := Lib.hid hsh
  have HNT := Lib.hid hnt
  generalize nbits m = r at *
  have hq : ((r : Int) == 0) = false := by simp; omega
  have hd : ¬ (k : Int) ≤ -(r : Int) := by omega
  have HC := Lib.hid hc
  have HF := Lib.hid hf
  have HBT := Lib.hid hbt
  obtain ⟨A, c, rfl, _⟩ := ha
  clear hc hf hbt lm
  clear h0 hl hlq hsh hnt
  generalize (dig B32 m).length = L at *
  go_enter Try.func49, Try.ntmps49
  go_wp2_with (fail)
  refine (HC.out).mono ?_
  rintro e w1 ⟨rfl, rfl⟩
  go_wp2_with (fail)
  refine (HF.out).mono ?_
  rintro e w2 ⟨v1, rfl, hv1, hb2⟩
  have b2 := below_at hbA (Nat.le_refl _) hb2
  have k1_2 := hv1.is
  go_wp2_with (fail)
  refine (HBT.out _ _ k1_2).mono ?_
  rintro e w3 ⟨rfl, rfl⟩
  go_wp2_with (fail)
  refine (HSH.out _ _ k1_2).mono ?_
  rintro e w4 ⟨v2, rfl, hv2, hb4⟩
  have b4 := below_at b2 (Nat.le_refl _) hb4
  have k1_4 := k1_2.keep hb4
  have k2_4 := hv2.is
  go_wp2_with (fail)
  refine (HNT.out _ _ k2_4).mono ?_
  rintro e w5 ⟨v3, rfl, hv3, hb5⟩
  have b5 := below_at b4 (Nat.le_refl _) hb5
  have k1_5 := k1_4.keep hb5
  have k2_5 := k2_4.keep hb5
  go_wp2
  go_ret2
  exact ⟨_, rfl, hv3.mono b4.size, b5⟩

end Go.Proofs.Ytaegkhdkhgemmaa

namespace Go.Proofs.Ytaegkhdkhgemmaa
open Go.RowKit Num

theorem len32_mono {m n : Nat} (h : m ≤ n) : (dig B32 m).length ≤ (dig B32 n).length := dig_len_le b32_two (Nat.lt_of_le_of_lt h (dig_len_lt b32_two))
theorem pow_lt_b32 {k j : Nat} (h : k < 32 * j) : 2 ^ k < B32 ^ j := by
  have e : B32 ^ j = 2 ^ (32 * j) := by rw [Nat.pow_mul]; rfl
  rw [e]; exact Nat.pow_lt_pow_right (by omega) h
theorem limbs_empty (w : World) : Limbs (w.alloc (.cells #[] 56)) (.slice (some ⟨w.heap.size, 0, none⟩) 0 0) (dig B32 0) := by
  rw [dig_zero]
  exact ⟨_, _, rfl, Nat.le_refl _, by simp, Nums.nil⟩

set_option maxHeartbeats 2000000 in
set_option maxRecDepth 100000 in
theorem shifts_bad (A : Option Addr) (c L : Nat) (n : Int) (xs : List Nat) (w : World) (hA : Nums .u32 w A xs) (hL : L = xs.length) (hc : L ≤ c) (hnil : A = none → c = 0) (hbad : chk (xs.take 24) ≠ 0) : Calls Try.prog 7 #[.slice A L c, .int .i64 n] w (LivesPost w) := by
  have hcut := fun w' (h : Below w.heap.size w w') => cut_any A c L 24 xs w' (hA.keep h) hL hc hnil (by omega)
  have l1 : (xs.take 24).length ≤ 24 := by rw [List.length_take]; omega
  generalize xs.take 24 = us at *
  have hlu : ∀ B w' a, OwnLs B w' a us → Limbs w' a us := fun B w' a h => h.limbs (by omega)
  have h27 := fun a w h => refCheck_l a us w h
  have h49 := fun a w h => shift_bad a n us w h hbad
  generalize chk us = r at *
  have hq : (r == 0) = false := by simp [hbad]
  have hq1 : (r != 0) = true := by simp [hbad]
  have h41 := fun b w => is_err b r w hbad
  have HCUT := Lib.hid hcut
  have HLU := Lib.hid hlu
  have H27 := Lib.hid h27
  have H49 := Lib.hid h49
  have H41 := Lib.hid h41
  have HBAD := Lib.hid hbad
  clear hcut hlu h27 h49 h41 hbad
  clear hA hL hnil l1
  go_enter Try.func7, Try.ntmps7
  go_wp2_with (fail)
  refine (HCUT.out _ (Below.refl _ _)).mono ?_
  rintro e w1 ⟨va, rfl, hva, hb1⟩
  have b1 := below_at (Below.refl _ _) (Nat.le_refl _) hb1
  have ka_1 := HLU.out _ _ _ hva
  go_wp2_with (fail)
  refine (H27.out _ _ ka_1).mono ?_
  rintro e w2 ⟨rfl, rfl⟩
  go_wp2_with (fail)
  refine (lives_any _).mono ?_
  rintro e w3 ⟨rfl, hb3⟩
  have b3 := below_at b1 (Nat.le_refl _) hb3
  have ka_3 := ka_1.keep hb3
  go_wp2_with (fail)
  refine (H49.out _ _ ka_3).mono ?_
  rintro e w4 ⟨rfl, hb4⟩
  have b4 := below_at b3 (Nat.le_refl _) hb4
  have ka_4 := ka_3.keep hb4
  go_wp2_with (fail)
  refine (H41.out _ _).mono ?_
  rintro e w5 ⟨rfl, hb5⟩
  have b5 := below_at b4 (Nat.le_refl _) hb5
  have ka_5 := ka_4.keep hb5
  go_wp2
  go_ret
  exact ⟨rfl, b5⟩

set_option maxHeartbeats 2000000 in
set_option maxRecDepth 100000 in
theorem shifts_zero (A : Option Addr) (c L : Nat) (n : Int) (xs : List Nat) (w : World) (hA : Nums .u32 w A xs) (hL : L = xs.length) (hc : L ≤ c) (hnil : A = none → c = 0) (m : Nat) (hm : xs.take 24 = dig B32 m) (h0 : m = 0) : Calls Try.prog 7 #[.slice A L c, .int .i64 n] w (LivesPost w) := by
  have hcut := fun w' (h : Below w.heap.size w w') => cut_any A c L 24 xs w' (hA.keep h) hL hc hnil (by omega)
  have l1 : (xs.take 24).length ≤ 24 := by rw [List.length_take]; omega
  rw [hm] at hcut l1
  have hlu : ∀ B w' a, OwnLs B w' a (dig B32 m) → Limbs w' a (dig B32 m) := fun B w' a h => h.limbs (by omega)
  have h27 := fun a w h => refCheck_l a (dig B32 m) w h
  rw [chk_dig (by omega)] at h27
  have lb : nbits m ≤ 768 := Nat.le_trans (bits_of_len l1) (by omega)
  have h49 := fun a w' (h : Limbs w' a (dig B32 m)) => shift_zero a m n w' h.is (by omega) h0
  have h41 := fun a w' (h : N32 w' a 0) (b : Value) (k : Limbs w' b (dig B32 0)) => is_ok a b 0 w' h k (by rw [dig_zero]; simp)
  obtain ⟨D, hD⟩ : ∃ D, (dig B32 m).length = D := ⟨_, rfl⟩
  have hd0 : D = 0 := by rw [← hD, h0, dig_zero]; rfl
  subst hd0
  have H49 := Lib.hid h49
  have H41 := Lib.hid h41
  clear h49 h41 h0
  have HCUT := Lib.hid hcut
  have HLU := Lib.hid hlu
  have H27 := Lib.hid h27
  have HD := Lib.hid hD
  clear hcut hlu h27 hD
  clear hA hL hnil l1 hm lb
  go_enter Try.func7, Try.ntmps7
  go_wp2_with (fail)
  refine (HCUT.out _ (Below.refl _ _)).mono ?_
  rintro e w1 ⟨va, rfl, hva, hb1⟩
  have b1 := below_at (Below.refl _ _) (Nat.le_refl _) hb1
  have ka_1 := HLU.out _ _ _ hva
  have kk := ka_1
  obtain ⟨A1, c1, hve, hq1, _, _⟩ := kk
  rw [HD.out] at hve hq1
  subst hve
  go_wp2_with (fail)
  refine (H27.out _ _ ka_1).mono ?_
  rintro e w2 ⟨rfl, rfl⟩
  go_wp2_with (fail)
  refine (lives_any _).mono ?_
  rintro e w3 ⟨rfl, hb3⟩
  have b3 := below_at b1 (Nat.le_refl _) hb3
  have ka_3 := ka_1.keep hb3
  go_wp2_with (fail)
  refine (H49.out _ _ ka_3).mono ?_
  rintro e w4 ⟨vs, rfl, hvs, hb4⟩
  have b4 := below_at b3 (Nat.le_refl _) hb4
  have ks_4 := hvs.is
  go_wp2_with (fail)
  refine (H41.out _ _ (ks_4.keep (below_new _ (.cells #[] 56))) _ (limbs_empty _)).mono ?_
  rintro e w5 ⟨rfl, hb5'⟩
  have hb5 := below_at (below_new _ (.cells #[] 56)) (Nat.le_refl _) hb5'
  have b5 := below_at b4 (Nat.le_refl _) hb5
  have ks_5 := ks_4.keep hb5
  go_wp2
  go_ret
  exact ⟨rfl, b5⟩

set_option maxHeartbeats 2000000 in
set_option maxRecDepth 100000 in
theorem shifts_long (A : Option Addr) (c L : Nat) (n : Int) (xs : List Nat) (w : World) (hA : Nums .u32 w A xs) (hL : L = xs.length) (hc : L ≤ c) (hnil : A = none → c = 0) (m : Nat) (hm : xs.take 24 = dig B32 m) (h0 : m ≠ 0) (hn : 8388608 < n) : Calls Try.prog 7 #[.slice A L c, .int .i64 n] w (LivesPost w) := by
  have hcut := fun w' (h : Below w.heap.size w w') => cut_any A c L 24 xs w' (hA.keep h) hL hc hnil (by omega)
  have l1 : (xs.take 24).length ≤ 24 := by rw [List.length_take]; omega
  rw [hm] at hcut l1
  have hlu : ∀ B w' a, OwnLs B w' a (dig B32 m) → Limbs w' a (dig B32 m) := fun B w' a h => h.limbs (by omega)
  have h27 := fun a w h => refCheck_l a (dig B32 m) w h
  rw [chk_dig (by omega)] at h27
  have lb : nbits m ≤ 768 := Nat.le_trans (bits_of_len l1) (by omega)
  have h49 := fun a w' (h : Limbs w' a (dig B32 m)) => shift_long a m n w' h.is (by omega) h0 (by omega)
  have h41 := fun b w => is_err b 3 w (by omega)
  have H49 := Lib.hid h49
  have H41 := Lib.hid h41
  clear h49 h41
  obtain ⟨D, hD⟩ : ∃ D, (dig B32 m).length = D := ⟨_, rfl⟩
  have hd0 : 0 < D := by rw [← hD]; exact Nat.pos_of_ne_zero fun h => h0 ((dig_nil_iff b32_two).1 (List.eq_nil_of_length_eq_zero h))
  clear h0
  have HCUT := Lib.hid hcut
  have HLU := Lib.hid hlu
  have H27 := Lib.hid h27
  have HD := Lib.hid hD
  clear hcut hlu h27 hD
  clear hA hL hnil l1 hm lb
  go_enter Try.func7, Try.ntmps7
  go_wp2_with (fail)
  refine (HCUT.out _ (Below.refl _ _)).mono ?_
  rintro e w1 ⟨va, rfl, hva, hb1⟩
  have b1 := below_at (Below.refl _ _) (Nat.le_refl _) hb1
  have ka_1 := HLU.out _ _ _ hva
  have kk := ka_1
  obtain ⟨A1, c1, hve, hq1, _, _⟩ := kk
  rw [HD.out] at hve hq1
  subst hve
  go_wp2_with (fail)
  refine (H27.out _ _ ka_1).mono ?_
  rintro e w2 ⟨rfl, rfl⟩
  go_wp2_with (fail)
  refine (lives_any _).mono ?_
  rintro e w3 ⟨rfl, hb3⟩
  have b3 := below_at b1 (Nat.le_refl _) hb3
  have ka_3 := ka_1.keep hb3
  go_wp2_with (fail)
  refine (H49.out _ _ ka_3).mono ?_
  rintro e w4 ⟨rfl, hb4⟩
  have b4 := below_at b3 (Nat.le_refl _) hb4
  go_wp2_with (fail)
  refine (H41.out _ _).mono ?_
  rintro e w5 ⟨rfl, hb5⟩
  have b5 := below_at b4 (Nat.le_refl _) hb5
  go_wp2
  go_ret
  exact ⟨rfl, b5⟩

set_option maxHeartbeats 2000000 in
set_option maxRecDepth 100000 in
theorem shifts_low (A : Option Addr) (c L : Nat) (n : Int) (xs : List Nat) (w : World) (hA : Nums .u32 w A xs) (hL : L = xs.length) (hc : L ≤ c) (hnil : A = none → c = 0) (m : Nat) (hm : xs.take 24 = dig B32 m) (h0 : m ≠ 0) (hn : n < -2000) : Calls Try.prog 7 #[.slice A L c, .int .i64 n] w (LivesPost w) := by
  have hcut := fun w' (h : Below w.heap.size w w') => cut_any A c L 24 xs w' (hA.keep h) hL hc hnil (by omega)
  have l1 : (xs.take 24).length ≤ 24 := by rw [List.length_take]; omega
  rw [hm] at hcut l1
  have hlu : ∀ B w' a, OwnLs B w' a (dig B32 m) → Limbs w' a (dig B32 m) := fun B w' a h => h.limbs (by omega)
  have h27 := fun a w h => refCheck_l a (dig B32 m) w h
  rw [chk_dig (by omega)] at h27
  have lb : nbits m ≤ 768 := Nat.le_trans (bits_of_len l1) (by omega)
  have h49 := fun a w' (h : Limbs w' a (dig B32 m)) => shift_low a m n w' h.is (by omega) h0 (by omega)
  have h41 := fun a w' (h : N32 w' a 0) (b : Value) (k : Limbs w' b (dig B32 0)) => is_ok a b 0 w' h k (by rw [dig_zero]; simp)
  have H49 := Lib.hid h49
  have H41 := Lib.hid h41
  clear h49 h41
  obtain ⟨D, hD⟩ : ∃ D, (dig B32 m).length = D := ⟨_, rfl⟩
  have hd0 : 0 < D := by rw [← hD]; exact Nat.pos_of_ne_zero fun h => h0 ((dig_nil_iff b32_two).1 (List.eq_nil_of_length_eq_zero h))
  clear h0
  have HCUT := Lib.hid hcut
  have HLU := Lib.hid hlu
  have H27 := Lib.hid h27
  have HD := Lib.hid hD
  clear hcut hlu h27 hD
  clear hA hL hnil l1 hm lb
  go_enter Try.func7, Try.ntmps7
  go_wp2_with (fail)
  refine (HCUT.out _ (Below.refl _ _)).mono ?_
  rintro e w1 ⟨va, rfl, hva, hb1⟩
  have b1 := below_at (Below.refl _ _) (Nat.le_refl _) hb1
  have ka_1 := HLU.out _ _ _ hva
  have kk := ka_1
  obtain ⟨A1, c1, hve, hq1, _, _⟩ := kk
  rw [HD.out] at hve hq1
  subst hve
  go_wp2_with (fail)
  refine (H27.out _ _ ka_1).mono ?_
  rintro e w2 ⟨rfl, rfl⟩
  go_wp2_with (fail)
  refine (lives_any _).mono ?_
  rintro e w3 ⟨rfl, hb3⟩
  have b3 := below_at b1 (Nat.le_refl _) hb3
  have ka_3 := ka_1.keep hb3
  go_wp2_with (fail)
  refine (H49.out _ _ ka_3).mono ?_
  rintro e w4 ⟨vs, rfl, hvs, hb4⟩
  have b4 := below_at b3 (Nat.le_refl _) hb4
  have ks_4 := hvs.is
  go_wp2_with (fail)
  refine (H41.out _ _ (ks_4.keep (below_new _ (.cells #[] 56))) _ (limbs_empty _)).mono ?_
  rintro e w5 ⟨rfl, hb5'⟩
  have hb5 := below_at (below_new _ (.cells #[] 56)) (Nat.le_refl _) hb5'
  have b5 := below_at b4 (Nat.le_refl _) hb5
  have ks_5 := ks_4.keep hb5
  go_wp2
  go_ret
  exact ⟨rfl, b5⟩

set_option maxHeartbeats 2000000 in
set_option maxRecDepth 100000 in
theorem shifts_up (A : Option Addr) (c L : Nat) (n : Int) (xs : List Nat) (w : World) (hA : Nums .u32 w A xs) (hL : L = xs.length) (hc : L ≤ c) (hnil : A = none → c = 0) (m : Nat) (hm : xs.take 24 = dig B32 m) (h0 : m ≠ 0) (k : Nat) (hk : k ≤ 4000) (hn : n = (k : Int)) : Calls Try.prog 7 #[.slice A L c, .int .i64 n] w (LivesPost w) := by
  have hcut := fun w' (h : Below w.heap.size w w') => cut_any A c L 24 xs w' (hA.keep h) hL hc hnil (by omega)
  have l1 : (xs.take 24).length ≤ 24 := by rw [List.length_take]; omega
  rw [hm] at hcut l1
  have hlu : ∀ B w' a, OwnLs B w' a (dig B32 m) → Limbs w' a (dig B32 m) := fun B w' a h => h.limbs (by omega)
  have h27 := fun a w h => refCheck_l a (dig B32 m) w h
  rw [chk_dig (by omega)] at h27
  have lb : nbits m ≤ 768 := Nat.le_trans (bits_of_len l1) (by omega)
  have h49 : ∀ a w', Limbs w' a (dig B32 m) → Calls Try.prog 49 #[a, .int .i64 n] w' (NatOk w' (m * 2 ^ k)) := fun a w' h => by rw [hn]; exact shift_up a m k w' h.is (by omega) h0 (by omega)
  have h50 : ∀ a w', Limbs w' a (dig B32 m) → Calls Try.prog 50 #[a, .int .i64 n] w' (LsPost w' (dig B32 (m * 2 ^ k))) := fun a w' h => by rw [hn]; exact left_any a m k w' h.is (by omega) (by omega)
  have hlr : (dig B32 (m * 2 ^ k)).length ≤ 1000 := Nat.le_trans (prod_len l1 (dig_len_le b32_two (n := 2 ^ k) (k := 200) (pow_lt_b32 (show k < 32 * 200 by omega)))) (by omega)
  have h41 : ∀ (B : Nat) (a : Value) (w' : World), N32 w' a (m * 2 ^ k) → ∀ b, OwnLs B w' b (dig B32 (m * 2 ^ k)) → Calls Try.prog 41 #[a, .int .i64 0, b, .int .i64 0] w' (LivesPost w') := fun B a w' h b kk => is_ok a b (m * 2 ^ k) w' h (kk.limbs (by omega)) (by omega)
  have H49 := Lib.hid h49
  have H41 := Lib.hid h41
  clear h49 h41
  have H50 := Lib.hid h50
  clear h50 hlr
  have hn0 : 0 ≤ n := by omega
  have hn1 : n ≤ 4000 := by omega
  clear hn
  obtain ⟨D, hD⟩ : ∃ D, (dig B32 m).length = D := ⟨_, rfl⟩
  have hd0 : 0 < D := by rw [← hD]; exact Nat.pos_of_ne_zero fun h => h0 ((dig_nil_iff b32_two).1 (List.eq_nil_of_length_eq_zero h))
  clear h0
  have HCUT := Lib.hid hcut
  have HLU := Lib.hid hlu
  have H27 := Lib.hid h27
  have HD := Lib.hid hD
  clear hcut hlu h27 hD
  clear hA hL hnil l1 hm lb
  go_enter Try.func7, Try.ntmps7
  go_wp2_with (fail)
  refine (HCUT.out _ (Below.refl _ _)).mono ?_
  rintro e w1 ⟨va, rfl, hva, hb1⟩
  have b1 := below_at (Below.refl _ _) (Nat.le_refl _) hb1
  have ka_1 := HLU.out _ _ _ hva
  have kk := ka_1
  obtain ⟨A1, c1, hve, hq1, _, _⟩ := kk
  rw [HD.out] at hve hq1
  subst hve
  go_wp2_with (fail)
  refine (H27.out _ _ ka_1).mono ?_
  rintro e w2 ⟨rfl, rfl⟩
  go_wp2_with (fail)
  refine (lives_any _).mono ?_
  rintro e w3 ⟨rfl, hb3⟩
  have b3 := below_at b1 (Nat.le_refl _) hb3
  have ka_3 := ka_1.keep hb3
  go_wp2_with (fail)
  refine (H49.out _ _ ka_3).mono ?_
  rintro e w4 ⟨vs, rfl, hvs, hb4⟩
  have b4 := below_at b3 (Nat.le_refl _) hb4
  have ka_4 := ka_3.keep hb4
  have ks_4 := hvs.is
  go_wp2_with (fail)
  refine (H50.out _ _ ka_4).mono ?_
  rintro e w5 ⟨vr, rfl, hvr, hb5⟩
  have b5 := below_at b4 (Nat.le_refl _) hb5
  have ks_5 := ks_4.keep hb5
  go_wp2_with (fail)
  refine (H41.out _ _ _ ks_5 _ hvr).mono ?_
  rintro e w6 ⟨rfl, hb6⟩
  have b6 := below_at b5 (Nat.le_refl _) hb6
  go_wp2
  go_ret
  exact ⟨rfl, b6⟩

set_option maxHeartbeats 2000000 in
set_option maxRecDepth 100000 in
theorem shifts_mod (A : Option Addr) (c L : Nat) (n : Int) (xs : List Nat) (w : World) (hA : Nums .u32 w A xs) (hL : L = xs.length) (hc : L ≤ c) (hnil : A = none → c = 0) (m : Nat) (hm : xs.take 24 = dig B32 m) (h0 : m ≠ 0) (k : Nat) (hk : k + 1 ≤ 4000) (hn : 4000 < n) (hn2 : n ≤ 8388608) (he : n % 4000 = (k : Int)) : Calls Try.prog 7 #[.slice A L c, .int .i64 n] w (LivesPost w) := by
  have hcut := fun w' (h : Below w.heap.size w w') => cut_any A c L 24 xs w' (hA.keep h) hL hc hnil (by omega)
  have l1 : (xs.take 24).length ≤ 24 := by rw [List.length_take]; omega
  rw [hm] at hcut l1
  have hlu : ∀ B w' a, OwnLs B w' a (dig B32 m) → Limbs w' a (dig B32 m) := fun B w' a h => h.limbs (by omega)
  have h27 := fun a w h => refCheck_l a (dig B32 m) w h
  rw [chk_dig (by omega)] at h27
  have lb : nbits m ≤ 768 := Nat.le_trans (bits_of_len l1) (by omega)
  have hs : (k : Int) + 1 = ((k + 1 : Nat) : Int) := by omega
  have h49 : ∀ a w', Limbs w' a (dig B32 m) → Calls Try.prog 49 #[a, .int .i64 ((k : Int) + 1)] w' (NatOk w' (m * 2 ^ (k + 1))) := fun a w' h => by rw [hs]; exact shift_up a m (k + 1) w' h.is (by omega) h0 (by omega)
  have h50 : ∀ a w', Limbs w' a (dig B32 m) → Calls Try.prog 50 #[a, .int .i64 ((k : Int) + 1)] w' (LsPost w' (dig B32 (m * 2 ^ (k + 1)))) := fun a w' h => by rw [hs]; exact left_any a m (k + 1) w' h.is (by omega) (by omega)
  have hlr : (dig B32 (m * 2 ^ (k + 1))).length ≤ 1000 := Nat.le_trans (prod_len l1 (dig_len_le b32_two (n := 2 ^ (k + 1)) (k := 200) (pow_lt_b32 (show k + 1 < 32 * 200 by omega)))) (by omega)
  have h41 : ∀ (B : Nat) (a : Value) (w' : World), N32 w' a (m * 2 ^ (k + 1)) → ∀ b, OwnLs B w' b (dig B32 (m * 2 ^ (k + 1))) → Calls Try.prog 41 #[a, .int .i64 0, b, .int .i64 0] w' (LivesPost w') := fun B a w' h b kk => is_ok a b (m * 2 ^ (k + 1)) w' h (kk.limbs (by omega)) (by omega)
  have H49 := Lib.hid h49
  have H41 := Lib.hid h41
  clear h49 h41
  have H50 := Lib.hid h50
  clear h50 hlr
  clear hs
  obtain ⟨D, hD⟩ : ∃ D, (dig B32 m).length = D := ⟨_, rfl⟩
  have hd0 : 0 < D := by rw [← hD]; exact Nat.pos_of_ne_zero fun h => h0 ((dig_nil_iff b32_two).1 (List.eq_nil_of_length_eq_zero h))
  clear h0
  have HCUT := Lib.hid hcut
  have HLU := Lib.hid hlu
  have H27 := Lib.hid h27
  have HD := Lib.hid hD
  clear hcut hlu h27 hD
  clear hA hL hnil l1 hm lb
  go_enter Try.func7, Try.ntmps7
  go_wp2_with (fail)
  refine (HCUT.out _ (Below.refl _ _)).mono ?_
  rintro e w1 ⟨va, rfl, hva, hb1⟩
  have b1 := below_at (Below.refl _ _) (Nat.le_refl _) hb1
  have ka_1 := HLU.out _ _ _ hva
  have kk := ka_1
  obtain ⟨A1, c1, hve, hq1, _, _⟩ := kk
  rw [HD.out] at hve hq1
  subst hve
  go_wp2_with (fail)
  refine (H27.out _ _ ka_1).mono ?_
  rintro e w2 ⟨rfl, rfl⟩
  go_wp2_with (fail)
  refine (lives_any _).mono ?_
  rintro e w3 ⟨rfl, hb3⟩
  have b3 := below_at b1 (Nat.le_refl _) hb3
  have ka_3 := ka_1.keep hb3
  go_wp2_with (fail)
  refine (H49.out _ _ ka_3).mono ?_
  rintro e w4 ⟨vs, rfl, hvs, hb4⟩
  have b4 := below_at b3 (Nat.le_refl _) hb4
  have ka_4 := ka_3.keep hb4
  have ks_4 := hvs.is
  go_wp2_with (fail)
  refine (H50.out _ _ ka_4).mono ?_
  rintro e w5 ⟨vr, rfl, hvr, hb5⟩
  have b5 := below_at b4 (Nat.le_refl _) hb5
  have ks_5 := ks_4.keep hb5
  go_wp2_with (fail)
  refine (H41.out _ _ _ ks_5 _ hvr).mono ?_
  rintro e w6 ⟨rfl, hb6⟩
  have b6 := below_at b5 (Nat.le_refl _) hb6
  go_wp2
  go_ret
  exact ⟨rfl, b6⟩

set_option maxHeartbeats 2000000 in
set_option maxRecDepth 100000 in
theorem shifts_down (A : Option Addr) (c L : Nat) (n : Int) (xs : List Nat) (w : World) (hA : Nums .u32 w A xs) (hL : L = xs.length) (hc : L ≤ c) (hnil : A = none → c = 0) (m : Nat) (hm : xs.take 24 = dig B32 m) (h0 : m ≠ 0) (k : Nat) (hk : 1 ≤ k) (hk2 : k ≤ 2000) (hn : n = -(k : Int)) : Calls Try.prog 7 #[.slice A L c, .int .i64 n] w (LivesPost w) := by
  have hcut := fun w' (h : Below w.heap.size w w') => cut_any A c L 24 xs w' (hA.keep h) hL hc hnil (by omega)
  have l1 : (xs.take 24).length ≤ 24 := by rw [List.length_take]; omega
  rw [hm] at hcut l1
  have hlu : ∀ B w' a, OwnLs B w' a (dig B32 m) → Limbs w' a (dig B32 m) := fun B w' a h => h.limbs (by omega)
  have h27 := fun a w h => refCheck_l a (dig B32 m) w h
  rw [chk_dig (by omega)] at h27
  have lb : nbits m ≤ 768 := Nat.le_trans (bits_of_len l1) (by omega)
  have h49 : ∀ a w', Limbs w' a (dig B32 m) → Calls Try.prog 49 #[a, .int .i64 n] w' (NatOk w' (m / 2 ^ k)) := fun a w' h => by
    subst hn
    by_cases hb : k < nbits m
    · exact shift_down a m k w' h.is (by omega) h0 hk hb
    · have := shift_low a m (-(k : Int)) w' h.is (by omega) h0 (by omega)
      have hz : m / 2 ^ k = 0 := Nat.div_eq_of_lt (lt_of_nbits (by omega))
      rw [hz]; exact this
  have h50 := fun a w' (h : Limbs w' a (dig B32 m)) => right_any a m k w' h.is (by omega) (by omega)
  have hlr : (dig B32 (m / 2 ^ k)).length ≤ 1000 := Nat.le_trans (len32_mono (Nat.div_le_self _ _)) (by omega)
  have h41 : ∀ (B : Nat) (a : Value) (w' : World), N32 w' a (m / 2 ^ k) → ∀ b, OwnLs B w' b (dig B32 (m / 2 ^ k)) → Calls Try.prog 41 #[a, .int .i64 0, b, .int .i64 0] w' (LivesPost w') := fun B a w' h b kk => is_ok a b (m / 2 ^ k) w' h (kk.limbs (by omega)) (by omega)
  have H49 := Lib.hid h49
  have H41 := Lib.hid h41
  clear h49 h41
  have H50 := Lib.hid h50
  clear h50 hlr
  obtain ⟨D, hD⟩ : ∃ D, (dig B32 m).length = D := ⟨_, rfl⟩
  have hd0 : 0 < D := by rw [← hD]; exact Nat.pos_of_ne_zero fun h => h0 ((dig_nil_iff b32_two).1 (List.eq_nil_of_length_eq_zero h))
  clear h0
  subst hn
  have HCUT := Lib.hid hcut
  have HLU := Lib.hid hlu
  have H27 := Lib.hid h27
  have HD := Lib.hid hD
  clear hcut hlu h27 hD
  clear hA hL hnil l1 hm lb
  go_enter Try.func7, Try.ntmps7
  go_wp2_with (fail)
  refine (HCUT.out _ (Below.refl _ _)).mono ?_
  rintro e w1 ⟨va, rfl, hva, hb1⟩
  have b1 := below_at (Below.refl _ _) (Nat.le_refl _) hb1
  have ka_1 := HLU.out _ _ _ hva
  have kk := ka_1
  obtain ⟨A1, c1, hve, hq1, _, _⟩ := kk
  rw [HD.out] at hve hq1
  subst hve
  go_wp2_with (fail)
  refine (H27.out _ _ ka_1).mono ?_
  rintro e w2 ⟨rfl, rfl⟩
  go_wp2_with (fail)
  refine (lives_any _).mono ?_
  rintro e w3 ⟨rfl, hb3⟩
  have b3 := below_at b1 (Nat.le_refl _) hb3
  have ka_3 := ka_1.keep hb3
  go_wp2_with (fail)
  refine (H49.out _ _ ka_3).mono ?_
  rintro e w4 ⟨vs, rfl, hvs, hb4⟩
  have b4 := below_at b3 (Nat.le_refl _) hb4
  have ka_4 := ka_3.keep hb4
  have ks_4 := hvs.is
  go_wp2_with (fail)
  refine (H50.out _ _ ka_4).mono ?_
  rintro e w5 ⟨vr, rfl, hvr, hb5⟩
  have b5 := below_at b4 (Nat.le_refl _) hb5
  have ks_5 := ks_4.keep hb5
  go_wp2_with (fail)
  refine (H41.out _ _ _ ks_5 _ hvr).mono ?_
  rintro e w6 ⟨rfl, hb6⟩
  have b6 := below_at b5 (Nat.le_refl _) hb6
  go_wp2
  go_ret
  exact ⟨rfl, b6⟩

/-- The law NatShifts, for whatever limbs and whatever number of places. -/
theorem shifts_walk (A : Option Addr) (c L : Nat) (n : Int) (xs : List Nat) (w : World) (hA : Nums .u32 w A xs) (hL : L = xs.length) (hc : L ≤ c) (hnil : A = none → c = 0) (hlow : Low B32 xs) : Calls Try.prog 7 #[.slice A L c, .int .i64 n] w (LivesPost w) := by
  by_cases hb : chk (xs.take 24) = 0
  · have hm := chk_zero (hlow.take 24) hb
    by_cases h0 : val B32 (xs.take 24) = 0
    · exact shifts_zero A c L n xs w hA hL hc hnil _ hm h0
    · rcases Int.lt_or_le 8388608 n with h1 | h1
      · exact shifts_long A c L n xs w hA hL hc hnil _ hm h0 h1
      · rcases Int.lt_or_le 4000 n with h2 | h2
        · exact shifts_mod A c L n xs w hA hL hc hnil _ hm h0 (n % 4000).toNat (by omega) h2 h1 (by omega)
        · rcases Int.lt_or_le n 0 with h3 | h3
          · rcases Int.lt_or_le n (-2000) with h4 | h4
            · exact shifts_low A c L n xs w hA hL hc hnil _ hm h0 h4
            · exact shifts_down A c L n xs w hA hL hc hnil _ hm h0 (-n).toNat (by omega) (by omega) (by omega)
          · exact shifts_up A c L n xs w hA hL hc hnil _ hm h0 n.toNat (by omega) (by omega)
  · exact shifts_bad A c L n xs w hA hL hc hnil hb
end Go.Proofs.Ytaegkhdkhgemmaa
