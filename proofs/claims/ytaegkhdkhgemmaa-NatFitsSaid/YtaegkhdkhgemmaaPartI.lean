/- Part of the proof of NatFits: RefPm, PowMod, PowModsW, Whole, RingW, SquaresW, ExpW, BetwW. -/
import Derived.Test.YtaegkhdkhgemmaaPartH
import Derived.Test.YtaegkhdkhgemmaaPartE
import Derived.Test.YtaegkhdkhgemmaaPartF
import Derived.Test.YtaegkhdkhgemmaaPartD
import Derived.Test.YtaegkhdkhgemmaaPartG
namespace Go.Proofs.Ytaegkhdkhgemmaa
open Go.RowKit Num

/-- The remainder of the power by the exponent's bits from k on. -/
def PmSt (x y n k z : Nat) : Prop := z = x ^ (y / 2 ^ k) % n
theorem PmSt.start {x y n : Nat} : PmSt x y n (nbits y) (1 % n) := by
  unfold PmSt; rw [Nat.div_eq_of_lt (nbits_lt y), Nat.pow_zero]
theorem PmSt.half {y i : Nat} : y / 2 ^ i = 2 * (y / 2 ^ (i + 1)) + y / 2 ^ i % 2 := by
  have e : y / 2 ^ i / 2 = y / 2 ^ (i + 1) := by rw [Nat.div_div_eq_div_mul, ← Nat.pow_succ]
  rw [← e]; exact (Nat.div_add_mod _ 2).symm
theorem PmSt.even {x y n i z : Nat} (h : PmSt x y n (i + 1) z) (hb : y / 2 ^ i % 2 = 0) : PmSt x y n i (z * z % n) := by
  unfold PmSt at *
  have e := PmSt.half (y := y) (i := i)
  rw [hb, Nat.add_zero] at e
  rw [h, ← Nat.mul_mod, ← Nat.pow_add, e]; congr 2; omega
theorem PmSt.odd {x y n i z : Nat} (h : PmSt x y n (i + 1) z) (hb : y / 2 ^ i % 2 = 1) : PmSt x y n i (z * z % n * (x % n) % n) := by
  unfold PmSt at *
  have e := PmSt.half (y := y) (i := i)
  rw [hb] at e
  have e1 : z * z % n = x ^ (2 * (y / 2 ^ (i + 1))) % n := by
    rw [h, ← Nat.mul_mod, ← Nat.pow_add]; congr 2; omega
  rw [e1, ← Nat.mul_mod, ← Nat.pow_succ, e]

set_option maxHeartbeats 4000000 in
set_option maxRecDepth 100000 in
theorem refPowMod_any (a b c : Value) (x y n : Nat) (w : World) (ha : N32 w a x) (hb : N32 w b y) (hc : N32 w c n) (hx : (dig B32 x).length ≤ 100) (hy : (dig B32 y).length ≤ 100) (hn : (dig B32 n).length ≤ 100) (hn0 : 0 < n) :
    Calls Try.prog 55 #[a, b, c] w (N32Post w (x ^ y % n)) := by
  have hof := fun w' => refOf_any 1 (by decide) w'
  have hl1 : (dig B32 1).length ≤ 2 := len_u64 (by decide)
  have hdv := fun u w' (z : Nat) (h : N32 w' u z) (k : N32 w' c n) (hl : (dig B32 z).length ≤ 500) => refDivMod_any u c z n w' h k hl (by omega) hn0
  have hbits := fun w' (h : N32 w' b y) => refBits_any b y w' h (by omega)
  have hmul := fun u v w' (p q : Nat) (h : N32 w' u p) (k : N32 w' v q) (h1 : (dig B32 p).length ≤ 1000) (h2 : (dig B32 q).length ≤ 1000) => refMul_call u v p q w' h k h1 h2
  have hbit := fun w' i (h : N32 w' b y) (hi : i < nbits y) => refBit_call b y i w' h (by omega) hi
  have hll : ∀ z, z < n → (dig B32 z).length ≤ 100 := fun z h => Nat.le_trans (len_mono32 (Nat.le_of_lt h)) hn
  have hst0 := @PmSt.start x y n
  have hz1 : 1 % n < n := Nat.mod_lt _ hn0
  have hxn : x % n < n := Nat.mod_lt _ hn0
  have HOF := Lib.hid hof
  have HDV := Lib.hid hdv
  have HBITS := Lib.hid hbits
  have HMUL := Lib.hid hmul
  have HBIT := Lib.hid hbit
  have HLL := Lib.hid hll
  have HST0 := Lib.hid hst0
  clear hof hdv hbits hmul hbit hll hst0
  have HX := Lib.hid hx
  have HA := Lib.hid ha
  have HB := Lib.hid hb
  have HC := Lib.hid hc
  have hnb := nbits_len (m := y)
  obtain ⟨nb, hnbe⟩ : ∃ nb, nbits y = nb := ⟨_, rfl⟩
  rw [hnbe] at HBITS HBIT HST0 hnb
  obtain ⟨o, hoe⟩ : ∃ o, 1 % n = o := ⟨_, rfl⟩
  obtain ⟨xn, hxe⟩ : ∃ xn, x % n = xn := ⟨_, rfl⟩
  rw [hoe] at HST0 hz1
  rw [hxe] at hxn
  have HOE := Lib.hid hoe
  have HXE := Lib.hid hxe
  clear hnbe hoe hxe hx ha hb hc
  go_enter Try.func55, Try.ntmps55
  go_wp2_with (fail)
  refine (HOF.out _).mono ?_
  rintro e w1 ⟨v1, rfl, hv1, hb1⟩
  have b1 := below_at (Below.refl _ _) (Nat.le_refl _) hb1
  have ka_1 := HA.out.keep hb1
  have kb_1 := HB.out.keep hb1
  have kc_1 := HC.out.keep hb1
  have k1_1 := (hv1.limbs (by omega)).is
  go_wp2_with (fail)
  refine (HDV.out _ _ _ k1_1 kc_1 (by omega)).mono ?_
  rintro e w2 ⟨q1, r1, rfl, _, hr1, hb2⟩
  have b2 := below_at b1 (Nat.le_refl _) hb2
  have ka_2 := ka_1.keep hb2
  have kb_2 := kb_1.keep hb2
  have kc_2 := kc_1.keep hb2
  have kz_2 := hr1
  go_wp2_with (fail)
  refine (HDV.out _ _ _ ka_2 kc_2 (by have := HX.out; omega)).mono ?_
  rintro e w3 ⟨q2, r2, rfl, _, hr2, hb3⟩
  have b3 := below_at b2 (Nat.le_refl _) hb3
  have kb_3 := kb_2.keep hb3
  have kc_3 := kc_2.keep hb3
  have kz_3 := kz_2.keep hb3
  have kx_3 := hr2
  go_wp2_with (fail)
  refine (HBITS.out _ kb_3).mono ?_
  rintro e w4 ⟨rfl, rfl⟩
  have kz := kz_3
  have kx := kx_3
  have kb := kb_3
  have kc := kc_3
  rw [HOE.out] at kz
  rw [HXE.out] at kx
  have bz := b3
  clear hl1
  go_wp2
  go_loopw [8, 9] (fun zv t wr => ∃ (k z : Nat), k ≤ nb ∧ t = .int .i64 ((k : Int) - 1) ∧ PmSt x y n k z ∧ z < n ∧ N32 wr zv z ∧ N32 wr r2 xn ∧ N32 wr b y ∧ N32 wr c n ∧ Below w.heap.size w wr) (fun _ t _ => (intOf t + 1).toNat)
  case atStart => exact ⟨nb, o, Nat.le_refl _, rfl, HST0.out, hz1, kz, kx, kb, kc, bz⟩
  case round =>
    clear kz kx kb kc bz HST0 hz1
    obtain ⟨k, z, hk, rfl, hst, hzn, hz, hxv, hbv, hcv, hbl⟩ := hrel
    by_cases h0 : k = 0
    · subst h0
      unfold PmSt at hst
      rw [Nat.pow_zero, Nat.div_one] at hst
      rw [hst] at hz
      generalize x ^ y % n = R at *
      clear hst
      go_wp2
      go_ret
      exact ⟨_, rfl, hz, hbl⟩
    · obtain ⟨i, rfl⟩ : ∃ i, k = i + 1 := ⟨k - 1, by omega⟩
      have hzl := HLL.out z hzn
      have hzz : (dig B32 (z * z)).length ≤ 200 := Nat.le_trans (prod_len hzl hzl) (by omega)
      have hs1 : z * z % n < n := Nat.mod_lt _ hn0
      obtain ⟨z1, hz1⟩ : ∃ z1, z * z % n = z1 := ⟨_, rfl⟩
      rw [hz1] at hs1
      have hz1l := HLL.out z1 hs1
      have hxl := HLL.out xn hxn
      have hzx : (dig B32 (z1 * xn)).length ≤ 200 := Nat.le_trans (prod_len hz1l hxl) (by omega)
      have h90 := fun w' (h : N32 w' b y) => HBIT.out w' i h (by omega)
      have HZ1 := Lib.hid hz1
      have HST := Lib.hid hst
      have hbs : y / 2 ^ i % 2 = 0 ∨ y / 2 ^ i % 2 = 1 := by omega
      clear hz1 hst
      rcases hbs with hbs | hbs
      · have hnew := HST.out.even hbs
        rw [HZ1.out] at hnew
        rw [hbs] at h90
        have HNEW := Lib.hid hnew
        have H90 := Lib.hid h90
        clear hnew hbs h90
        go_wp2_with (fail)
        refine (HMUL.out _ _ _ _ _ hz hz (by omega) (by omega)).mono ?_
        rintro e w1 ⟨v1, rfl, hv1, hb1⟩
        have b1 := below_at hbl (Nat.le_refl _) hb1
        have kx_1 := hxv.keep hb1
        have kb_1 := hbv.keep hb1
        have kc_1 := hcv.keep hb1
        have k1_1 := (hv1.limbs (by omega)).is
        go_wp2_with (fail)
        refine (HDV.out _ _ _ k1_1 kc_1 (by omega)).mono ?_
        rintro e w2 ⟨q1, r1, rfl, _, hr1, hb2⟩
        have b2 := below_at b1 (Nat.le_refl _) hb2
        have kx_2 := kx_1.keep hb2
        have kb_2 := kb_1.keep hb2
        have kc_2 := kc_1.keep hb2
        have k2_2 := (by rw [HZ1.out] at hr1; exact hr1 : N32 w2 r1 z1)
        go_wp2_with (fail)
        refine (H90.out _ kb_2).mono ?_
        rintro e w3 ⟨rfl, rfl⟩
        go_wp2
        go_roundw
        case rel => exact ⟨i, z1, by omega, by first | rfl | go_num, HNEW.out, hs1, k2_2, kx_2, kb_2, kc_2, b2⟩
        case measure => simp [intOf]
      · have hnew := HST.out.odd hbs
        rw [HZ1.out, HXE.out] at hnew
        rw [hbs] at h90
        have hs2 : z1 * xn % n < n := Nat.mod_lt _ hn0
        obtain ⟨z2, hz2⟩ : ∃ z2, z1 * xn % n = z2 := ⟨_, rfl⟩
        rw [hz2] at hs2 hnew
        have HZ2 := Lib.hid hz2
        have HNEW := Lib.hid hnew
        have H90 := Lib.hid h90
        clear hnew hbs h90 hz2
        go_wp2_with (fail)
        refine (HMUL.out _ _ _ _ _ hz hz (by omega) (by omega)).mono ?_
        rintro e w1 ⟨v1, rfl, hv1, hb1⟩
        have b1 := below_at hbl (Nat.le_refl _) hb1
        have kx_1 := hxv.keep hb1
        have kb_1 := hbv.keep hb1
        have kc_1 := hcv.keep hb1
        have k1_1 := (hv1.limbs (by omega)).is
        go_wp2_with (fail)
        refine (HDV.out _ _ _ k1_1 kc_1 (by omega)).mono ?_
        rintro e w2 ⟨q1, r1, rfl, _, hr1, hb2⟩
        have b2 := below_at b1 (Nat.le_refl _) hb2
        have kx_2 := kx_1.keep hb2
        have kb_2 := kb_1.keep hb2
        have kc_2 := kc_1.keep hb2
        have k2_2 := (by rw [HZ1.out] at hr1; exact hr1 : N32 w2 r1 z1)
        go_wp2_with (fail)
        refine (H90.out _ kb_2).mono ?_
        rintro e w3 ⟨rfl, rfl⟩
        go_wp2_with (fail)
        refine (HMUL.out _ _ _ _ _ k2_2 kx_2 (by omega) (by omega)).mono ?_
        rintro e w4 ⟨v3, rfl, hv3, hb4⟩
        have b4 := below_at b2 (Nat.le_refl _) hb4
        have kx_4 := kx_2.keep hb4
        have kb_4 := kb_2.keep hb4
        have kc_4 := kc_2.keep hb4
        have k3_4 := (hv3.limbs (by omega)).is
        go_wp2_with (fail)
        refine (HDV.out _ _ _ k3_4 kc_4 (by omega)).mono ?_
        rintro e w5 ⟨q2, r2, rfl, _, hr2, hb5⟩
        have b5 := below_at b4 (Nat.le_refl _) hb5
        have kx_5 := kx_4.keep hb5
        have kb_5 := kb_4.keep hb5
        have kc_5 := kc_4.keep hb5
        have k4_5 := (by rw [HZ2.out] at hr2; exact hr2 : N32 w5 r2 z2)
        go_wp2
        go_roundw
        case rel => exact ⟨i, z2, by omega, by first | rfl | go_num, HNEW.out, hs2, k4_5, kx_5, kb_5, kc_5, b5⟩
        case measure => simp [intOf]
end Go.Proofs.Ytaegkhdkhgemmaa

namespace Go.Proofs.Ytaegkhdkhgemmaa
open Go.RowKit Num

theorem len_mul64 {m n K J : Nat} (hm : (dig B64 m).length ≤ K) (hn : (dig B64 n).length ≤ J) : (dig B64 (m * n)).length ≤ K + J := by
  have h1 := Nat.lt_of_lt_of_le (dig_len_lt b64_two (n := m)) (Nat.pow_le_pow_right b64_pos hm)
  have h2 := Nat.lt_of_lt_of_le (dig_len_lt b64_two (n := n)) (Nat.pow_le_pow_right b64_pos hn)
  refine dig_len_le b64_two ?_
  rw [Nat.pow_add]
  exact Nat.mul_lt_mul_of_lt_of_lt h1 h2
set_option maxHeartbeats 4000000 in
set_option maxRecDepth 100000 in
theorem powerMod_any (a b c : Value) (x y n : Nat) (w : World) (ha : W64 w a x) (hb : W64 w b y) (hc : W64 w c n) (hx : (dig B64 x).length ≤ 90) (hy : (dig B64 y).length ≤ 90) (hn : (dig B64 n).length ≤ 90) (hn0 : 0 < n) :
    Calls Try.prog 96 #[a, b, c] w (NumPost w (x ^ y % n)) := by
  have hdv := fun u w' (z : Nat) (h : W64 w' u z) (k : W64 w' c n) (hl : (dig B64 z).length ≤ 500) => divide_any u c z n w' h k hn0 (by omega) (by omega) (.inl (by omega))
  have hbits := fun w' (h : W64 w' b y) => bits_call b y w' h (by omega)
  have hmul := fun u v w' (p q : Nat) (h : W64 w' u p) (k : W64 w' v q) (h1 : (dig B64 p).length ≤ 1000) (h2 : (dig B64 q).length ≤ 1000) => mulAt_all (m := p) (n := q) (by omega) (by omega) u v w' h k
  have hwin : ∀ w' i, W64 w' b y → i < nbits y → Calls Try.prog 77 #[b, .int .i64 (i : Int)] w' fun e w'' => e = .returned (.int .u64 ((y / 2 ^ i % B64 : Nat) : Int)) ∧ w' = w'' := fun w' i h hi => by
    have hnb := len_bits_le hy
    obtain ⟨A, c, rfl, _, hA⟩ := h
    exact window_any A c _ y i w' hA rfl (by omega) (by omega)
  have hll : ∀ z, z < n → (dig B64 z).length ≤ 90 := fun z h => Nat.le_trans (lenm (Nat.le_of_lt h)) hn
  have hst0 := @PmSt.start x y n
  have hz1 : 1 % n < n := Nat.mod_lt _ hn0
  have hxn : x % n < n := Nat.mod_lt _ hn0
  have hown := (own_one w).is
  have hbA := below_new w (.cells #[.int .u64 1] 24)
  have HDV := Lib.hid hdv
  have HBITS := Lib.hid hbits
  have HMUL := Lib.hid hmul
  have HWIN := Lib.hid hwin
  have HLL := Lib.hid hll
  have HST0 := Lib.hid hst0
  have HOWN := Lib.hid hown
  clear hdv hbits hmul hwin hll hst0 hown
  have HX := Lib.hid hx
  have HA := Lib.hid ha
  have HB := Lib.hid hb
  have HC := Lib.hid hc
  have hnb := len_bits_le hy
  obtain ⟨nb, hnbe⟩ : ∃ nb, nbits y = nb := ⟨_, rfl⟩
  rw [hnbe] at HBITS HWIN HST0 hnb
  obtain ⟨o, hoe⟩ : ∃ o, 1 % n = o := ⟨_, rfl⟩
  obtain ⟨xn, hxe⟩ : ∃ xn, x % n = xn := ⟨_, rfl⟩
  rw [hoe] at HST0 hz1
  rw [hxe] at hxn
  have HOE := Lib.hid hoe
  have HXE := Lib.hid hxe
  have hl1 : (dig B64 1).length ≤ 500 := by rw [dig_one]; simp
  have ka0 := ha.keep hbA
  have kb0 := hb.keep hbA
  have kc0 := hc.keep hbA
  clear hnbe hoe hxe hx ha hb hc
  go_enter Try.func96, Try.ntmps96
  go_wp2_with (fail)
  refine (HDV.out _ _ _ HOWN.out kc0 hl1).mono ?_
  rintro e w1 ⟨q1, r1, rfl, _, hr1, hb1⟩
  have b1 := below_at hbA (Nat.le_refl _) hb1
  have ka_1 := ka0.keep hb1
  have kb_1 := kb0.keep hb1
  have kc_1 := kc0.keep hb1
  have kz_1 := hr1
  go_wp2_with (fail)
  refine (HDV.out _ _ _ ka_1 kc_1 (by have := HX.out; omega)).mono ?_
  rintro e w2 ⟨q2, r2, rfl, _, hr2, hb2⟩
  have b2 := below_at b1 (Nat.le_refl _) hb2
  have kb_2 := kb_1.keep hb2
  have kc_2 := kc_1.keep hb2
  have kz_2 := kz_1.keep hb2
  have kx_2 := hr2
  go_wp2_with (fail)
  refine (HBITS.out _ kb_2).mono ?_
  rintro e w3 ⟨rfl, rfl⟩
  have kz := kz_2
  have kx := kx_2
  have kb := kb_2
  have kc := kc_2
  rw [HOE.out] at kz
  rw [HXE.out] at kx
  have bz := b2
  clear hl1 hbA
  go_wp2
  go_loopw [8, 9] (fun zv t wr => ∃ (k z : Nat), k ≤ nb ∧ t = .int .i64 ((k : Int) - 1) ∧ PmSt x y n k z ∧ z < n ∧ W64 wr zv z ∧ W64 wr r2 xn ∧ W64 wr b y ∧ W64 wr c n ∧ Below w.heap.size w wr) (fun _ t _ => (intOf t + 1).toNat)
  case atStart => exact ⟨nb, o, Nat.le_refl _, rfl, HST0.out, hz1, kz, kx, kb, kc, bz⟩
  case round =>
    clear kz kx kb kc bz HST0 hz1
    obtain ⟨k, z, hk, rfl, hst, hzn, hz, hxv, hbv, hcv, hbl⟩ := hrel
    by_cases h0 : k = 0
    · subst h0
      unfold PmSt at hst
      rw [Nat.pow_zero, Nat.div_one] at hst
      rw [hst] at hz
      generalize x ^ y % n = R at *
      clear hst
      go_wp2
      go_ret
      exact ⟨_, rfl, hz, hbl⟩
    · obtain ⟨i, rfl⟩ : ∃ i, k = i + 1 := ⟨k - 1, by omega⟩
      have hzl := HLL.out z hzn
      have hzz : (dig B64 (z * z)).length ≤ 180 := Nat.le_trans (len_mul64 hzl hzl) (by omega)
      have hs1 : z * z % n < n := Nat.mod_lt _ hn0
      obtain ⟨z1, hz1⟩ : ∃ z1, z * z % n = z1 := ⟨_, rfl⟩
      rw [hz1] at hs1
      have hz1l := HLL.out z1 hs1
      have hxl := HLL.out xn hxn
      have hzx : (dig B64 (z1 * xn)).length ≤ 180 := Nat.le_trans (len_mul64 hz1l hxl) (by omega)
      have hwi := fun w' (h : W64 w' b y) => HWIN.out w' i h (by omega)
      have hml := Nat.mod_lt (y / 2 ^ i) b64_pos
      have h90 : bits .and .u64 ((y / 2 ^ i % B64 : Nat) : Int) 1 = ((y / 2 ^ i % 2 : Nat) : Int) := by
        have h1 := bits_and_u64_nat (y / 2 ^ i % B64) 1 hml (by omega)
        rw [show (y / 2 ^ i % B64) &&& 1 = y / 2 ^ i % B64 % 2 from Nat.and_two_pow_sub_one_eq_mod _ 1] at h1
        have e2 : y / 2 ^ i % B64 % 2 = y / 2 ^ i % 2 := by
          have : B64 = 2 * 9223372036854775808 := by decide
          rw [this, Nat.mod_mul_right_mod]
        rw [e2] at h1
        exact h1
      generalize y / 2 ^ i % B64 = vw at *
      have HWI := Lib.hid hwi
      clear hwi hml
      have HZ1 := Lib.hid hz1
      have HST := Lib.hid hst
      have hbs : y / 2 ^ i % 2 = 0 ∨ y / 2 ^ i % 2 = 1 := by omega
      clear hz1 hst
      rcases hbs with hbs | hbs
      · have hnew := HST.out.even hbs
        rw [HZ1.out] at hnew
        rw [hbs] at h90
        have HNEW := Lib.hid hnew
        have h91 := h90
        clear hnew hbs h90
        go_wp2_with (fail)
        refine (HMUL.out _ _ _ _ _ hz hz (by omega) (by omega)).mono ?_
        rintro e w1 ⟨v1, rfl, hv1, hb1⟩
        have b1 := below_at hbl (Nat.le_refl _) hb1
        have kx_1 := hxv.keep hb1
        have kb_1 := hbv.keep hb1
        have kc_1 := hcv.keep hb1
        have k1_1 := hv1.is
        go_wp2_with (fail)
        refine (HDV.out _ _ _ k1_1 kc_1 (by omega)).mono ?_
        rintro e w2 ⟨q1, r1, rfl, _, hr1, hb2⟩
        have b2 := below_at b1 (Nat.le_refl _) hb2
        have kx_2 := kx_1.keep hb2
        have kb_2 := kb_1.keep hb2
        have kc_2 := kc_1.keep hb2
        have k2_2 := (by rw [HZ1.out] at hr1; exact hr1 : W64 w2 r1 z1)
        go_wp2_with (fail)
        refine (HWI.out _ kb_2).mono ?_
        rintro e w3 ⟨rfl, rfl⟩
        go_wp2
        go_roundw
        case rel => exact ⟨i, z1, by omega, by first | rfl | go_num, HNEW.out, hs1, k2_2, kx_2, kb_2, kc_2, b2⟩
        case measure => simp [intOf]
      · have hnew := HST.out.odd hbs
        rw [HZ1.out, HXE.out] at hnew
        rw [hbs] at h90
        have hs2 : z1 * xn % n < n := Nat.mod_lt _ hn0
        obtain ⟨z2, hz2⟩ : ∃ z2, z1 * xn % n = z2 := ⟨_, rfl⟩
        rw [hz2] at hs2 hnew
        have HZ2 := Lib.hid hz2
        have HNEW := Lib.hid hnew
        have h91 := h90
        clear hnew hbs h90 hz2
        go_wp2_with (fail)
        refine (HMUL.out _ _ _ _ _ hz hz (by omega) (by omega)).mono ?_
        rintro e w1 ⟨v1, rfl, hv1, hb1⟩
        have b1 := below_at hbl (Nat.le_refl _) hb1
        have kx_1 := hxv.keep hb1
        have kb_1 := hbv.keep hb1
        have kc_1 := hcv.keep hb1
        have k1_1 := hv1.is
        go_wp2_with (fail)
        refine (HDV.out _ _ _ k1_1 kc_1 (by omega)).mono ?_
        rintro e w2 ⟨q1, r1, rfl, _, hr1, hb2⟩
        have b2 := below_at b1 (Nat.le_refl _) hb2
        have kx_2 := kx_1.keep hb2
        have kb_2 := kb_1.keep hb2
        have kc_2 := kc_1.keep hb2
        have k2_2 := (by rw [HZ1.out] at hr1; exact hr1 : W64 w2 r1 z1)
        go_wp2_with (fail)
        refine (HWI.out _ kb_2).mono ?_
        rintro e w3 ⟨rfl, rfl⟩
        go_wp2_with (fail)
        refine (HMUL.out _ _ _ _ _ k2_2 kx_2 (by omega) (by omega)).mono ?_
        rintro e w4 ⟨v3, rfl, hv3, hb4⟩
        have b4 := below_at b2 (Nat.le_refl _) hb4
        have kx_4 := kx_2.keep hb4
        have kb_4 := kb_2.keep hb4
        have kc_4 := kc_2.keep hb4
        have k3_4 := hv3.is
        go_wp2_with (fail)
        refine (HDV.out _ _ _ k3_4 kc_4 (by omega)).mono ?_
        rintro e w5 ⟨q2, r2, rfl, _, hr2, hb5⟩
        have b5 := below_at b4 (Nat.le_refl _) hb5
        have kx_5 := kx_4.keep hb5
        have kb_5 := kb_4.keep hb5
        have kc_5 := kc_4.keep hb5
        have k4_5 := (by rw [HZ2.out] at hr2; exact hr2 : W64 w5 r2 z2)
        go_wp2
        go_roundw
        case rel => exact ⟨i, z2, by omega, by first | rfl | go_num, HNEW.out, hs2, k4_5, kx_5, kb_5, kc_5, b5⟩
        case measure => simp [intOf]
end Go.Proofs.Ytaegkhdkhgemmaa

namespace Go.Proofs.Ytaegkhdkhgemmaa
open Go.RowKit Num

theorem nats3 {w : World} {v v' v2 : Value} {xs xs' x2 : List Nat} (h : Limbs w v xs) (h' : Limbs w v' xs') (h2 : Limbs w v2 x2) : NatsAt (w.alloc (.cells #[v, v', v2] 23)) w.heap.size [(v, xs), (v', xs'), (v2, x2)] := by
  refine ⟨by simp, fun i p hp => ?_⟩
  obtain ⟨A, c, e, hc, hl, hn⟩ := h.keep (below_new w (.cells #[v, v', v2] 23))
  obtain ⟨A', c', e', hc', hl', hn'⟩ := h'.keep (below_new w (.cells #[v, v', v2] 23))
  obtain ⟨A2, c2, e2, hc2, hl2, hn2⟩ := h2.keep (below_new w (.cells #[v, v', v2] 23))
  have hi := (List.getElem?_eq_some_iff.1 hp).1
  have : i = 0 ∨ i = 1 ∨ i = 2 := by simp at hi; omega
  rcases this with rfl | rfl | rfl
  · injection hp with hp
    subst hp
    exact ⟨by simp, A, c, e, hl, hn⟩
  · injection hp with hp
    subst hp
    exact ⟨by simp, A', c', e', hl', hn'⟩
  · injection hp with hp
    subst hp
    exact ⟨by simp, A2, c2, e2, hl2, hn2⟩
def chk3 (xs ys zs : List Nat) : Int := if chk2 xs ys = 0 then chk zs else chk2 xs ys
theorem chkAll3 (v v' v2 : Value) (xs ys zs : List Nat) : chkAll [(v, xs), (v', ys), (v2, zs)] = chk3 xs ys zs := by
  simp only [chkAll, chk3, chk2]
  by_cases h1 : chk xs = 0
  · by_cases h2 : chk ys = 0
    · by_cases h3 : chk zs = 0 <;> simp [h1, h2, h3]
    · simp [h1, h2]
  · simp [h1]

set_option maxHeartbeats 1000000 in
set_option maxRecDepth 100000 in
theorem powMod_bad (a b c : Value) (xs ys zs : List Nat) (w : World) (ha : Limbs w a xs) (hb : Limbs w b ys) (hc0 : Limbs w c zs) (h0 : chk3 xs ys zs ≠ 0) : Calls Try.prog 54 #[a, b, c] w (NatErr w (chk3 xs ys zs)) := by
  have hc := checkAll_any w.heap.size 3 3 _ _ (nats3 ha hb hc0) rfl (by omega)
  rw [chkAll3] at hc
  generalize chk3 xs ys zs = r at *
  have hbA := below_new w (.cells #[a, b, c] 23)
  have hq : (r != 0) = true := by simp [h0]
  have HC := Lib.hid hc
  have H0 := Lib.hid h0
  obtain ⟨A, c1, rfl, _⟩ := ha
  obtain ⟨A', c', rfl, _⟩ := hb
  obtain ⟨A2, c2, rfl, _⟩ := hc0
  clear hc h0
  generalize xs.length = L at *
  generalize ys.length = L' at *
  generalize zs.length = L2 at *
  go_enter Try.func54, Try.ntmps54
  go_wp2_with (go_at_call 75; refine HC.out.mono ?_; rintro e w1 ⟨rfl, rfl⟩)
  go_ret2
  exact ⟨rfl, hbA⟩

set_option maxHeartbeats 1000000 in
set_option maxRecDepth 100000 in
theorem powMod_zero (a b c : Value) (x y n : Nat) (w : World) (ha : N32 w a x) (hb : N32 w b y) (hc : N32 w c n) (hx : (dig B32 x).length ≤ 262144) (hy : (dig B32 y).length ≤ 262144) (hn : (dig B32 n).length ≤ 262144) (h0 : n = 0) : Calls Try.prog 54 #[a, b, c] w (NatErr w 4) := by
  have hck := checkAll_any w.heap.size 3 3 _ _ (nats3 (Limbs.num ha (by omega)) (Limbs.num hb (by omega)) (Limbs.num hc (by omega))) rfl (by omega)
  rw [chkAll3, chk3, chk2, if_pos (chk_dig hx), chk_dig hy, if_pos rfl, chk_dig hn] at hck
  have hbA := below_new w (.cells #[a, b, c] 23)
  have HCK := Lib.hid hck
  have hz : (dig B32 n).length = 0 := by rw [h0, dig_zero]; rfl
  obtain ⟨A, c1, rfl, _⟩ := ha
  obtain ⟨A', c', rfl, _⟩ := hb
  obtain ⟨A2, c2, rfl, _⟩ := hc
  clear hck h0
  rw [hz] at HCK hbA ⊢
  clear hz hn
  generalize (dig B32 x).length = L at *
  generalize (dig B32 y).length = L' at *
  go_enter Try.func54, Try.ntmps54
  go_wp2_with (go_at_call 75; refine HCK.out.mono ?_; rintro e w1 ⟨rfl, rfl⟩)
  go_ret2
  exact ⟨rfl, hbA⟩

set_option maxHeartbeats 1000000 in
set_option maxRecDepth 100000 in
theorem powMod_ok (a b c : Value) (x y n : Nat) (w : World) (ha : N32 w a x) (hb : N32 w b y) (hc : N32 w c n) (hx : (dig B32 x).length ≤ 180) (hy : (dig B32 y).length ≤ 180) (hn : (dig B32 n).length ≤ 180) (h0 : 0 < n) : Calls Try.prog 54 #[a, b, c] w (NatOk w (x ^ y % n)) := by
  have hck := checkAll_any w.heap.size 3 3 _ _ (nats3 (Limbs.num ha (by omega)) (Limbs.num hb (by omega)) (Limbs.num hc (by omega))) rfl (by omega)
  rw [chkAll3, chk3, chk2, if_pos (chk_dig (n := x) (by omega)), chk_dig (n := y) (by omega), if_pos rfl, chk_dig (n := n) (by omega)] at hck
  have hbA := below_new w (.cells #[a, b, c] 23)
  have HCK := Lib.hid hck
  have ka := ha.keep hbA
  have kb := hb.keep hbA
  have kc := hc.keep hbA
  have lx := words_le (n := x) (K := 90) hx
  have ly := words_le (n := y) (K := 90) hy
  have ln := words_le (n := n) (K := 90) hn
  have hf1 := fun w' (h : N32 w' a x) => fromNat_any a x w' h (by omega)
  have hf2 := fun w' (h : N32 w' b y) => fromNat_any b y w' h (by omega)
  have hf3 := fun w' (h : N32 w' c n) => fromNat_any c n w' h (by omega)
  have hpm := fun u v t w' (h : W64 w' u x) (k : W64 w' v y) (l : W64 w' t n) => powerMod_any u v t x y n w' h k l lx ly ln h0
  have hlr : (dig B64 (x ^ y % n)).length ≤ 90 := Nat.le_trans (lenm (Nat.le_of_lt (Nat.mod_lt _ h0))) ln
  have hnt := fun v w' (h : W64 w' v (x ^ y % n)) => nat_any v _ w' h (by omega)
  have hpos : 0 < (dig B32 n).length := by
    rcases Nat.eq_zero_or_pos (dig B32 n).length with h | h
    · have := (dig_nil_iff b32_two).1 (List.eq_nil_of_length_eq_zero h); omega
    · exact h
  generalize x ^ y % n = R at *
  have HF1 := Lib.hid hf1
  have HF2 := Lib.hid hf2
  have HF3 := Lib.hid hf3
  have HPM := Lib.hid hpm
  have HNT := Lib.hid hnt
  have KA0 := Lib.hid ka
  have KB0 := Lib.hid kb
  have KC0 := Lib.hid kc
  clear hf1 hf2 hf3 hpm hnt ka kb kc
  obtain ⟨A, c1, rfl, _⟩ := ha
  obtain ⟨A', c', rfl, _⟩ := hb
  obtain ⟨A2, c2, rfl, _⟩ := hc
  clear hck lx ly ln hlr
  generalize (dig B32 x).length = L at *
  generalize (dig B32 y).length = L' at *
  generalize (dig B32 n).length = L2 at *
  go_enter Try.func54, Try.ntmps54
  go_wp2_with (fail)
  refine (HCK.out).mono ?_
  rintro e w1 ⟨rfl, rfl⟩
  go_wp2_with (fail)
  refine (HF1.out _ KA0.out).mono ?_
  rintro e w2 ⟨v1, rfl, hv1, hb2⟩
  have b2 := below_at hbA (Nat.le_refl _) hb2
  have kb_2 := KB0.out.keep hb2
  have kc_2 := KC0.out.keep hb2
  have k1_2 := hv1.is
  go_wp2_with (fail)
  refine (HF2.out _ kb_2).mono ?_
  rintro e w3 ⟨v2, rfl, hv2, hb3⟩
  have b3 := below_at b2 (Nat.le_refl _) hb3
  have kc_3 := kc_2.keep hb3
  have k1_3 := k1_2.keep hb3
  have k2_3 := hv2.is
  go_wp2_with (fail)
  refine (HF3.out _ kc_3).mono ?_
  rintro e w4 ⟨v3, rfl, hv3, hb4⟩
  have b4 := below_at b3 (Nat.le_refl _) hb4
  have k1_4 := k1_3.keep hb4
  have k2_4 := k2_3.keep hb4
  have k3_4 := hv3.is
  go_wp2_with (fail)
  refine (HPM.out _ _ _ _ k1_4 k2_4 k3_4).mono ?_
  rintro e w5 ⟨v4, rfl, hv4, hb5⟩
  have b5 := below_at b4 (Nat.le_refl _) hb5
  have k4_5 := hv4
  go_wp2_with (fail)
  refine (HNT.out _ _ k4_5).mono ?_
  rintro e w6 ⟨v5, rfl, hv5, hb6⟩
  have b6 := below_at b5 (Nat.le_refl _) hb6
  go_wp2
  go_ret2
  exact ⟨_, rfl, hv5.mono b5.size, b6⟩

set_option maxHeartbeats 2000000 in
set_option maxRecDepth 100000 in
theorem powMods_bad2 (A A1 A2 : Option Addr) (c c1 c2 L L1 L2 : Nat) (xs ys zs : List Nat) (w : World) (hA : Nums .u32 w A xs) (hA1 : Nums .u32 w A1 ys) (hA2 : Nums .u32 w A2 zs) (hL : L = xs.length) (hL1 : L1 = ys.length) (hL2 : L2 = zs.length) (hc : L ≤ c) (hc1 : L1 ≤ c1) (hc2 : L2 ≤ c2) (hnil : A = none → c = 0) (hnil1 : A1 = none → c1 = 0) (hnil2 : A2 = none → c2 = 0) (hbad : chk2 (xs.take 4) (ys.take 2) ≠ 0) : Calls Try.prog 9 #[.slice A L c, .slice A1 L1 c1, .slice A2 L2 c2] w (LivesPost w) := by
  have hcut := fun w' (h : Below w.heap.size w w') => cut_any A c L 4 xs w' (hA.keep h) hL hc hnil (by omega)
  have hcut1 := fun w' (h : Below w.heap.size w w') => cut_any A1 c1 L1 2 ys w' (hA1.keep h) hL1 hc1 hnil1 (by omega)
  have hcut2 := fun w' (h : Below w.heap.size w w') => cut_any A2 c2 L2 4 zs w' (hA2.keep h) hL2 hc2 hnil2 (by omega)
  have l1 : (xs.take 4).length ≤ 4 := by rw [List.length_take]; omega
  have l2 : (ys.take 2).length ≤ 2 := by rw [List.length_take]; omega
  have l3 : (zs.take 4).length ≤ 4 := by rw [List.length_take]; omega
  generalize xs.take 4 = us at *
  generalize ys.take 2 = vs at *
  generalize zs.take 4 = ts at *
  have hlu : ∀ B w' a, OwnLs B w' a us → Limbs w' a us := fun B w' a h => h.limbs (by omega)
  have hlv : ∀ B w' a, OwnLs B w' a vs → Limbs w' a vs := fun B w' a h => h.limbs (by omega)
  have hlt : ∀ B w' a, OwnLs B w' a ts → Limbs w' a ts := fun B w' a h => h.limbs (by omega)
  have h40 := fun a b w h k => both_any a b us vs w h k
  have h27 := fun a w h => refCheck_l a ts w h
  have e3 : chk3 us vs ts = chk2 us vs := by unfold chk3; rw [if_neg hbad]
  have h54 := fun a b c w h k l => powMod_bad a b c us vs ts w h k l (by rw [e3]; exact hbad)
  rw [e3] at h54
  generalize chk2 us vs = r at *
  have hq : (r == 0) = false := by simp [hbad]
  have hq1 : (r != 0) = true := by simp [hbad]
  have h41 := fun b w => is_err b r w hbad
  have HCUT := Lib.hid hcut
  have HCUT1 := Lib.hid hcut1
  have HCUT2 := Lib.hid hcut2
  have HLU := Lib.hid hlu
  have HLV := Lib.hid hlv
  have HLT := Lib.hid hlt
  have H40 := Lib.hid h40
  have H27 := Lib.hid h27
  have H54 := Lib.hid h54
  have H41 := Lib.hid h41
  have HBAD := Lib.hid hbad
  clear hcut hcut1 hcut2 hlu hlv hlt h40 h27 h54 h41 hbad
  clear e3
  clear hA hA1 hA2 hL hL1 hL2 hnil hnil1 hnil2 l1 l2 l3
  go_enter Try.func9, Try.ntmps9
  go_wp2_with (fail)
  refine (HCUT.out _ (Below.refl _ _)).mono ?_
  rintro e w1 ⟨va, rfl, hva, hb1⟩
  have b1 := below_at (Below.refl _ _) (Nat.le_refl _) hb1
  have ka_1 := HLU.out _ _ _ hva
  go_wp2_with (fail)
  refine (HCUT1.out _ b1).mono ?_
  rintro e w2 ⟨vb, rfl, hvb, hb2⟩
  have b2 := below_at b1 (Nat.le_refl _) hb2
  have ka_2 := ka_1.keep hb2
  have kb_2 := HLV.out _ _ _ hvb
  go_wp2_with (fail)
  refine (HCUT2.out _ b2).mono ?_
  rintro e w3 ⟨vc, rfl, hvc, hb3⟩
  have b3 := below_at b2 (Nat.le_refl _) hb3
  have ka_3 := ka_2.keep hb3
  have kb_3 := kb_2.keep hb3
  have kc_3 := HLT.out _ _ _ hvc
  go_wp2_with (fail)
  refine (H54.out _ _ _ _ ka_3 kb_3 kc_3).mono ?_
  rintro e w4 ⟨rfl, hb4⟩
  have b4 := below_at b3 (Nat.le_refl _) hb4
  have ka_4 := ka_3.keep hb4
  have kb_4 := kb_3.keep hb4
  have kc_4 := kc_3.keep hb4
  go_wp2_with (fail)
  refine (H40.out _ _ _ ka_4 kb_4).mono ?_
  rintro e w5 ⟨rfl, rfl⟩
  go_wp2_with (fail)
  refine (H41.out _ _).mono ?_
  rintro e w6 ⟨rfl, hb6⟩
  have b6 := below_at b4 (Nat.le_refl _) hb6
  go_wp2_with (fail)
  refine (lives_any _).mono ?_
  rintro e w7 ⟨rfl, hb7⟩
  have b7 := below_at b6 (Nat.le_refl _) hb7
  go_wp2
  go_ret
  exact ⟨rfl, b7⟩

set_option maxHeartbeats 2000000 in
set_option maxRecDepth 100000 in
theorem powMods_bad3 (A A1 A2 : Option Addr) (c c1 c2 L L1 L2 : Nat) (xs ys zs : List Nat) (w : World) (hA : Nums .u32 w A xs) (hA1 : Nums .u32 w A1 ys) (hA2 : Nums .u32 w A2 zs) (hL : L = xs.length) (hL1 : L1 = ys.length) (hL2 : L2 = zs.length) (hc : L ≤ c) (hc1 : L1 ≤ c1) (hc2 : L2 ≤ c2) (hnil : A = none → c = 0) (hnil1 : A1 = none → c1 = 0) (hnil2 : A2 = none → c2 = 0) (h20 : chk2 (xs.take 4) (ys.take 2) = 0) (hbad : chk (zs.take 4) ≠ 0) : Calls Try.prog 9 #[.slice A L c, .slice A1 L1 c1, .slice A2 L2 c2] w (LivesPost w) := by
  have hcut := fun w' (h : Below w.heap.size w w') => cut_any A c L 4 xs w' (hA.keep h) hL hc hnil (by omega)
  have hcut1 := fun w' (h : Below w.heap.size w w') => cut_any A1 c1 L1 2 ys w' (hA1.keep h) hL1 hc1 hnil1 (by omega)
  have hcut2 := fun w' (h : Below w.heap.size w w') => cut_any A2 c2 L2 4 zs w' (hA2.keep h) hL2 hc2 hnil2 (by omega)
  have l1 : (xs.take 4).length ≤ 4 := by rw [List.length_take]; omega
  have l2 : (ys.take 2).length ≤ 2 := by rw [List.length_take]; omega
  have l3 : (zs.take 4).length ≤ 4 := by rw [List.length_take]; omega
  generalize xs.take 4 = us at *
  generalize ys.take 2 = vs at *
  generalize zs.take 4 = ts at *
  have hlu : ∀ B w' a, OwnLs B w' a us → Limbs w' a us := fun B w' a h => h.limbs (by omega)
  have hlv : ∀ B w' a, OwnLs B w' a vs → Limbs w' a vs := fun B w' a h => h.limbs (by omega)
  have hlt : ∀ B w' a, OwnLs B w' a ts → Limbs w' a ts := fun B w' a h => h.limbs (by omega)
  have h40 := fun a b w h k => both_any a b us vs w h k
  have h27 := fun a w h => refCheck_l a ts w h
  have e3 : chk3 us vs ts = chk ts := by unfold chk3; rw [if_pos h20]
  have h54 := fun a b c w h k l => powMod_bad a b c us vs ts w h k l (by rw [e3]; exact hbad)
  rw [e3] at h54
  rw [h20] at h40
  generalize chk ts = r at *
  have hq : (r == 0) = false := by simp [hbad]
  have hq1 : (r != 0) = true := by simp [hbad]
  have h41 := fun b w => is_err b r w hbad
  have HCUT := Lib.hid hcut
  have HCUT1 := Lib.hid hcut1
  have HCUT2 := Lib.hid hcut2
  have HLU := Lib.hid hlu
  have HLV := Lib.hid hlv
  have HLT := Lib.hid hlt
  have H40 := Lib.hid h40
  have H27 := Lib.hid h27
  have H54 := Lib.hid h54
  have H41 := Lib.hid h41
  have HBAD := Lib.hid hbad
  clear hcut hcut1 hcut2 hlu hlv hlt h40 h27 h54 h41 hbad
  clear e3 h20
  clear hA hA1 hA2 hL hL1 hL2 hnil hnil1 hnil2 l1 l2 l3
  go_enter Try.func9, Try.ntmps9
  go_wp2_with (fail)
  refine (HCUT.out _ (Below.refl _ _)).mono ?_
  rintro e w1 ⟨va, rfl, hva, hb1⟩
  have b1 := below_at (Below.refl _ _) (Nat.le_refl _) hb1
  have ka_1 := HLU.out _ _ _ hva
  go_wp2_with (fail)
  refine (HCUT1.out _ b1).mono ?_
  rintro e w2 ⟨vb, rfl, hvb, hb2⟩
  have b2 := below_at b1 (Nat.le_refl _) hb2
  have ka_2 := ka_1.keep hb2
  have kb_2 := HLV.out _ _ _ hvb
  go_wp2_with (fail)
  refine (HCUT2.out _ b2).mono ?_
  rintro e w3 ⟨vc, rfl, hvc, hb3⟩
  have b3 := below_at b2 (Nat.le_refl _) hb3
  have ka_3 := ka_2.keep hb3
  have kb_3 := kb_2.keep hb3
  have kc_3 := HLT.out _ _ _ hvc
  go_wp2_with (fail)
  refine (H54.out _ _ _ _ ka_3 kb_3 kc_3).mono ?_
  rintro e w4 ⟨rfl, hb4⟩
  have b4 := below_at b3 (Nat.le_refl _) hb4
  have ka_4 := ka_3.keep hb4
  have kb_4 := kb_3.keep hb4
  have kc_4 := kc_3.keep hb4
  go_wp2_with (fail)
  refine (H40.out _ _ _ ka_4 kb_4).mono ?_
  rintro e w5 ⟨rfl, rfl⟩
  go_wp2_with (fail)
  refine (H27.out _ _ kc_4).mono ?_
  rintro e w6 ⟨rfl, rfl⟩
  go_wp2_with (fail)
  refine (H41.out _ _).mono ?_
  rintro e w7 ⟨rfl, hb7⟩
  have b7 := below_at b4 (Nat.le_refl _) hb7
  go_wp2_with (fail)
  refine (lives_any _).mono ?_
  rintro e w8 ⟨rfl, hb8⟩
  have b8 := below_at b7 (Nat.le_refl _) hb8
  go_wp2
  go_ret
  exact ⟨rfl, b8⟩

set_option maxHeartbeats 2000000 in
set_option maxRecDepth 100000 in
theorem powMods_zero (A A1 A2 : Option Addr) (c c1 c2 L L1 L2 : Nat) (xs ys zs : List Nat) (w : World) (hA : Nums .u32 w A xs) (hA1 : Nums .u32 w A1 ys) (hA2 : Nums .u32 w A2 zs) (hL : L = xs.length) (hL1 : L1 = ys.length) (hL2 : L2 = zs.length) (hc : L ≤ c) (hc1 : L1 ≤ c1) (hc2 : L2 ≤ c2) (hnil : A = none → c = 0) (hnil1 : A1 = none → c1 = 0) (hnil2 : A2 = none → c2 = 0) (x y n : Nat) (hm : xs.take 4 = dig B32 x) (hm1 : ys.take 2 = dig B32 y) (hm2 : zs.take 4 = dig B32 n) (h0 : n = 0) : Calls Try.prog 9 #[.slice A L c, .slice A1 L1 c1, .slice A2 L2 c2] w (LivesPost w) := by
  have hcut := fun w' (h : Below w.heap.size w w') => cut_any A c L 4 xs w' (hA.keep h) hL hc hnil (by omega)
  have hcut1 := fun w' (h : Below w.heap.size w w') => cut_any A1 c1 L1 2 ys w' (hA1.keep h) hL1 hc1 hnil1 (by omega)
  have hcut2 := fun w' (h : Below w.heap.size w w') => cut_any A2 c2 L2 4 zs w' (hA2.keep h) hL2 hc2 hnil2 (by omega)
  have l1 : (xs.take 4).length ≤ 4 := by rw [List.length_take]; omega
  have l2 : (ys.take 2).length ≤ 2 := by rw [List.length_take]; omega
  have l3 : (zs.take 4).length ≤ 4 := by rw [List.length_take]; omega
  rw [hm] at hcut l1
  rw [hm1] at hcut1 l2
  rw [hm2] at hcut2 l3
  have hlu : ∀ B w' a, OwnLs B w' a (dig B32 x) → Limbs w' a (dig B32 x) := fun B w' a h => h.limbs (by omega)
  have hlv : ∀ B w' a, OwnLs B w' a (dig B32 y) → Limbs w' a (dig B32 y) := fun B w' a h => h.limbs (by omega)
  have hlt : ∀ B w' a, OwnLs B w' a (dig B32 n) → Limbs w' a (dig B32 n) := fun B w' a h => h.limbs (by omega)
  have h40 := fun a b w h k => both_any a b (dig B32 x) (dig B32 y) w h k
  rw [chk2, if_pos (chk_dig (by omega)), chk_dig (by omega)] at h40
  have h27 := fun a w h => refCheck_l a (dig B32 n) w h
  rw [chk_dig (by omega)] at h27
  have h54 := fun a b c w' (h : Limbs w' a (dig B32 x)) (k : Limbs w' b (dig B32 y)) (l : Limbs w' c (dig B32 n)) => powMod_zero a b c x y n w' h.is k.is l.is (by omega) (by omega) (by omega) h0
  have h41 := fun b w => is_err b 4 w (by omega)
  have hD : (dig B32 n).length = 0 := by rw [h0, dig_zero]; rfl
  have HCUT := Lib.hid hcut
  have HCUT1 := Lib.hid hcut1
  have HCUT2 := Lib.hid hcut2
  have HLU := Lib.hid hlu
  have HLV := Lib.hid hlv
  have HLT := Lib.hid hlt
  have H40 := Lib.hid h40
  have H27 := Lib.hid h27
  have H54 := Lib.hid h54
  have H41 := Lib.hid h41
  have HD := Lib.hid hD
  clear hcut hcut1 hcut2 hlu hlv hlt h40 h27 h54 h41 hD
  clear h0 hm hm1 hm2
  clear hA hA1 hA2 hL hL1 hL2 hnil hnil1 hnil2 l1 l2 l3
  go_enter Try.func9, Try.ntmps9
  go_wp2_with (fail)
  refine (HCUT.out _ (Below.refl _ _)).mono ?_
  rintro e w1 ⟨va, rfl, hva, hb1⟩
  have b1 := below_at (Below.refl _ _) (Nat.le_refl _) hb1
  have ka_1 := HLU.out _ _ _ hva
  go_wp2_with (fail)
  refine (HCUT1.out _ b1).mono ?_
  rintro e w2 ⟨vb, rfl, hvb, hb2⟩
  have b2 := below_at b1 (Nat.le_refl _) hb2
  have ka_2 := ka_1.keep hb2
  have kb_2 := HLV.out _ _ _ hvb
  go_wp2_with (fail)
  refine (HCUT2.out _ b2).mono ?_
  rintro e w3 ⟨vc, rfl, hvc, hb3⟩
  have b3 := below_at b2 (Nat.le_refl _) hb3
  have ka_3 := ka_2.keep hb3
  have kb_3 := kb_2.keep hb3
  have kc_3 := HLT.out _ _ _ hvc
  have kk := kc_3
  obtain ⟨A3, c3, hve, hcc, _⟩ := kk
  rw [HD.out] at hve hcc
  subst hve
  go_wp2_with (fail)
  refine (H54.out _ _ _ _ ka_3 kb_3 kc_3).mono ?_
  rintro e w4 ⟨rfl, hb4⟩
  have b4 := below_at b3 (Nat.le_refl _) hb4
  have ka_4 := ka_3.keep hb4
  have kb_4 := kb_3.keep hb4
  have kc_4 := kc_3.keep hb4
  go_wp2_with (fail)
  refine (H40.out _ _ _ ka_4 kb_4).mono ?_
  rintro e w5 ⟨rfl, rfl⟩
  go_wp2_with (fail)
  refine (H27.out _ _ kc_4).mono ?_
  rintro e w6 ⟨rfl, rfl⟩
  go_wp2_with (fail)
  refine (H41.out _ _).mono ?_
  rintro e w7 ⟨rfl, hb7⟩
  have b7 := below_at b4 (Nat.le_refl _) hb7
  go_wp2_with (fail)
  refine (lives_any _).mono ?_
  rintro e w8 ⟨rfl, hb8⟩
  have b8 := below_at b7 (Nat.le_refl _) hb8
  go_wp2
  go_ret
  exact ⟨rfl, b8⟩

set_option maxHeartbeats 2000000 in
set_option maxRecDepth 100000 in
theorem powMods_ok (A A1 A2 : Option Addr) (c c1 c2 L L1 L2 : Nat) (xs ys zs : List Nat) (w : World) (hA : Nums .u32 w A xs) (hA1 : Nums .u32 w A1 ys) (hA2 : Nums .u32 w A2 zs) (hL : L = xs.length) (hL1 : L1 = ys.length) (hL2 : L2 = zs.length) (hc : L ≤ c) (hc1 : L1 ≤ c1) (hc2 : L2 ≤ c2) (hnil : A = none → c = 0) (hnil1 : A1 = none → c1 = 0) (hnil2 : A2 = none → c2 = 0) (x y n : Nat) (hm : xs.take 4 = dig B32 x) (hm1 : ys.take 2 = dig B32 y) (hm2 : zs.take 4 = dig B32 n) (h0 : 0 < n) : Calls Try.prog 9 #[.slice A L c, .slice A1 L1 c1, .slice A2 L2 c2] w (LivesPost w) := by
  have hcut := fun w' (h : Below w.heap.size w w') => cut_any A c L 4 xs w' (hA.keep h) hL hc hnil (by omega)
  have hcut1 := fun w' (h : Below w.heap.size w w') => cut_any A1 c1 L1 2 ys w' (hA1.keep h) hL1 hc1 hnil1 (by omega)
  have hcut2 := fun w' (h : Below w.heap.size w w') => cut_any A2 c2 L2 4 zs w' (hA2.keep h) hL2 hc2 hnil2 (by omega)
  have l1 : (xs.take 4).length ≤ 4 := by rw [List.length_take]; omega
  have l2 : (ys.take 2).length ≤ 2 := by rw [List.length_take]; omega
  have l3 : (zs.take 4).length ≤ 4 := by rw [List.length_take]; omega
  rw [hm] at hcut l1
  rw [hm1] at hcut1 l2
  rw [hm2] at hcut2 l3
  have hlu : ∀ B w' a, OwnLs B w' a (dig B32 x) → Limbs w' a (dig B32 x) := fun B w' a h => h.limbs (by omega)
  have hlv : ∀ B w' a, OwnLs B w' a (dig B32 y) → Limbs w' a (dig B32 y) := fun B w' a h => h.limbs (by omega)
  have hlt : ∀ B w' a, OwnLs B w' a (dig B32 n) → Limbs w' a (dig B32 n) := fun B w' a h => h.limbs (by omega)
  have h40 := fun a b w h k => both_any a b (dig B32 x) (dig B32 y) w h k
  rw [chk2, if_pos (chk_dig (by omega)), chk_dig (by omega)] at h40
  have h27 := fun a w h => refCheck_l a (dig B32 n) w h
  rw [chk_dig (by omega)] at h27
  have h54 := fun a b c w' (h : Limbs w' a (dig B32 x)) (k : Limbs w' b (dig B32 y)) (l : Limbs w' c (dig B32 n)) => powMod_ok a b c x y n w' h.is k.is l.is (by omega) (by omega) (by omega) h0
  have h55 := fun a b c w' (h : Limbs w' a (dig B32 x)) (k : Limbs w' b (dig B32 y)) (l : Limbs w' c (dig B32 n)) => refPowMod_any a b c x y n w' h.is k.is l.is (by omega) (by omega) (by omega) h0
  have hlr : (dig B32 (x ^ y % n)).length ≤ 4 := Nat.le_trans (len_mono32 (Nat.le_of_lt (Nat.mod_lt _ h0))) l3
  generalize x ^ y % n = R at *
  have h41 := fun a b w' (h : N32 w' a R) (k : N32 w' b R) => is_ok a b R w' h (Limbs.num k (by omega)) (by omega)
  obtain ⟨D, hD⟩ : ∃ D, (dig B32 n).length = D := ⟨_, rfl⟩
  have hd0 : 0 < D := by
    rcases Nat.eq_zero_or_pos D with h | h
    · rw [h] at hD
      have := (dig_nil_iff b32_two).1 (List.eq_nil_of_length_eq_zero hD); omega
    · exact h
  have HCUT := Lib.hid hcut
  have HCUT1 := Lib.hid hcut1
  have HCUT2 := Lib.hid hcut2
  have HLU := Lib.hid hlu
  have HLV := Lib.hid hlv
  have HLT := Lib.hid hlt
  have H40 := Lib.hid h40
  have H27 := Lib.hid h27
  have H54 := Lib.hid h54
  have H55 := Lib.hid h55
  have H41 := Lib.hid h41
  have HD := Lib.hid hD
  clear hcut hcut1 hcut2 hlu hlv hlt h40 h27 h54 h55 h41 hD
  clear hlr
  clear h0 hm hm1 hm2
  clear hA hA1 hA2 hL hL1 hL2 hnil hnil1 hnil2 l1 l2 l3
  go_enter Try.func9, Try.ntmps9
  go_wp2_with (fail)
  refine (HCUT.out _ (Below.refl _ _)).mono ?_
  rintro e w1 ⟨va, rfl, hva, hb1⟩
  have b1 := below_at (Below.refl _ _) (Nat.le_refl _) hb1
  have ka_1 := HLU.out _ _ _ hva
  go_wp2_with (fail)
  refine (HCUT1.out _ b1).mono ?_
  rintro e w2 ⟨vb, rfl, hvb, hb2⟩
  have b2 := below_at b1 (Nat.le_refl _) hb2
  have ka_2 := ka_1.keep hb2
  have kb_2 := HLV.out _ _ _ hvb
  go_wp2_with (fail)
  refine (HCUT2.out _ b2).mono ?_
  rintro e w3 ⟨vc, rfl, hvc, hb3⟩
  have b3 := below_at b2 (Nat.le_refl _) hb3
  have ka_3 := ka_2.keep hb3
  have kb_3 := kb_2.keep hb3
  have kc_3 := HLT.out _ _ _ hvc
  have kk := kc_3
  obtain ⟨A3, c3, hve, hcc, _⟩ := kk
  rw [HD.out] at hve hcc
  subst hve
  go_wp2_with (fail)
  refine (H54.out _ _ _ _ ka_3 kb_3 kc_3).mono ?_
  rintro e w4 ⟨vp, rfl, hvp, hb4⟩
  have b4 := below_at b3 (Nat.le_refl _) hb4
  have ka_4 := ka_3.keep hb4
  have kb_4 := kb_3.keep hb4
  have kc_4 := kc_3.keep hb4
  have kp_4 := hvp.is
  go_wp2_with (fail)
  refine (H40.out _ _ _ ka_4 kb_4).mono ?_
  rintro e w5 ⟨rfl, rfl⟩
  go_wp2_with (fail)
  refine (H27.out _ _ kc_4).mono ?_
  rintro e w6 ⟨rfl, rfl⟩
  go_wp2_with (fail)
  refine (H55.out _ _ _ _ ka_4 kb_4 kc_4).mono ?_
  rintro e w7 ⟨vr, rfl, hvr, hb7⟩
  have b7 := below_at b4 (Nat.le_refl _) hb7
  have kp_7 := kp_4.keep hb7
  have kr_7 := hvr
  go_wp2_with (fail)
  refine (H41.out _ _ _ kp_7 kr_7).mono ?_
  rintro e w8 ⟨rfl, hb8⟩
  have b8 := below_at b7 (Nat.le_refl _) hb8
  go_wp2_with (fail)
  refine (lives_any _).mono ?_
  rintro e w9 ⟨rfl, hb9⟩
  have b9 := below_at b8 (Nat.le_refl _) hb9
  go_wp2
  go_ret
  exact ⟨rfl, b9⟩

/-- The law NatPowMods, for whatever limbs. -/
theorem powMods_walk (A A1 A2 : Option Addr) (c c1 c2 L L1 L2 : Nat) (xs ys zs : List Nat) (w : World) (hA : Nums .u32 w A xs) (hA1 : Nums .u32 w A1 ys) (hA2 : Nums .u32 w A2 zs) (hL : L = xs.length) (hL1 : L1 = ys.length) (hL2 : L2 = zs.length) (hc : L ≤ c) (hc1 : L1 ≤ c1) (hc2 : L2 ≤ c2) (hnil : A = none → c = 0) (hnil1 : A1 = none → c1 = 0) (hnil2 : A2 = none → c2 = 0) (hlow : Low B32 xs) (hlow1 : Low B32 ys) (hlow2 : Low B32 zs) : Calls Try.prog 9 #[.slice A L c, .slice A1 L1 c1, .slice A2 L2 c2] w (LivesPost w) := by
  by_cases h0 : chk2 (xs.take 4) (ys.take 2) = 0
  · have h1 : chk (xs.take 4) = 0 ∧ chk (ys.take 2) = 0 := by
      have h0' := h0
      unfold chk2 at h0'
      split at h0'
      · rename_i h; exact ⟨h, h0'⟩
      · rename_i h; exact absurd h0' h
    by_cases h2 : chk (zs.take 4) = 0
    · have hm := chk_zero (hlow.take 4) h1.1
      have hm1 := chk_zero (hlow1.take 2) h1.2
      have hm2 := chk_zero (hlow2.take 4) h2
      rcases Nat.eq_zero_or_pos (val B32 (zs.take 4)) with h | h
      · exact powMods_zero A A1 A2 c c1 c2 L L1 L2 xs ys zs w hA hA1 hA2 hL hL1 hL2 hc hc1 hc2 hnil hnil1 hnil2 _ _ _ hm hm1 hm2 h
      · exact powMods_ok A A1 A2 c c1 c2 L L1 L2 xs ys zs w hA hA1 hA2 hL hL1 hL2 hc hc1 hc2 hnil hnil1 hnil2 _ _ _ hm hm1 hm2 h
    · exact powMods_bad3 A A1 A2 c c1 c2 L L1 L2 xs ys zs w hA hA1 hA2 hL hL1 hL2 hc hc1 hc2 hnil hnil1 hnil2 h0 h2
  · exact powMods_bad2 A A1 A2 c c1 c2 L L1 L2 xs ys zs w hA hA1 hA2 hL hL1 hL2 hc hc1 hc2 hnil hnil1 hnil2 h0
end Go.Proofs.Ytaegkhdkhgemmaa

namespace Go.Proofs.Ytaegkhdkhgemmaa
open Go.RowKit Num

/-- The length in a slot: for a loop's measure. -/
def lenOf : Value → Nat | .slice _ n _ => n | _ => 0

theorem limbs_cut {w : World} {A : Option Addr} {c : Nat} {xs : List Nat} (h : Limbs w (.slice A xs.length c) xs) : ∀ i, 0 < xs.length → i < xs.length → ∃ g off v, A = some ⟨g, off, none⟩ ∧ g < w.heap.size ∧ xs[i]? = some v ∧ w.cell? ⟨g, off + i, none⟩ = some (.int .u32 (v : Int)) := by
  intro i _ hi
  obtain ⟨A', c', e, _, _, hn⟩ := h
  injection e with e1 e2 e3
  subst e1
  exact hn.at_ hi

set_option maxHeartbeats 1000000 in
set_option maxRecDepth 100000 in
/-- whole: cut, then without the zeros at the end. -/
theorem whole_any (A : Option Addr) (c L n : Nat) (xs : List Nat) (w : World) (hA : Nums .u32 w A xs) (hlow : Low B32 xs) (hL : L = xs.length) (hc : L ≤ c) (hnil : A = none → c = 0) (hn : n ≤ 1000) :
    Calls Try.prog 69 #[.slice A L c, .int .i64 (n : Int)] w fun e w' => ∃ v, e = .returned v ∧ N32 w' v (val B32 (xs.take n)) ∧ Below w.heap.size w w' := by
  have hcut := cut_any A c L n xs w hA hL hc hnil hn
  have hlow' := hlow.take n
  have hlen : (xs.take n).length ≤ 1000 := by rw [List.length_take]; omega
  generalize xs.take n = ys at *
  obtain ⟨r, hr⟩ : ∃ r, val B32 ys = r := ⟨_, rfl⟩
  have fin : ∀ k, k ≤ ys.length → ZeroFrom ys k → (∀ v, 0 < k → ys[k - 1]? = some v → v ≠ 0) → ys.take k = dig B32 r := fun k hk hz hn => by rw [← hr]; exact trim_val b32_two hlow' hk hz hn
  have FIN := Lib.hid fin
  have HC := Lib.hid hcut
  have HR := Lib.hid hr
  rw [hr]
  clear hcut hA hL hnil fin hr
  go_enter Try.func69, Try.ntmps69
  go_wp2_with (go_at_call 26
               refine HC.out.mono ?_
               rintro e w1 ⟨v1, rfl, hv1, hb1⟩
               obtain ⟨A1, c1, he1, hc1, hn1⟩ := own_reads hv1
               have HV1 := Lib.hid hv1
               clear hv1
               subst he1)
  go_loop [0] (fun t => ∃ k : Nat, k ≤ ys.length ∧ t = .slice A1 k c1 ∧ ZeroFrom ys k) (fun t => lenOf t)
  case atStart => exact ⟨ys.length, Nat.le_refl _, rfl, fun i v hv hi => by have := (List.getElem?_eq_some_iff.1 hv).1; omega⟩
  case round =>
    obtain ⟨k, hk, rfl, hz⟩ := hrel
    have hex : (∃ v, 0 < k ∧ ys[k - 1]? = some v ∧ v = 0) ∨ (∀ v, 0 < k → ys[k - 1]? = some v → v ≠ 0) := by
      by_cases hh : ∃ v, 0 < k ∧ ys[k - 1]? = some v ∧ v = 0
      · exact .inl hh
      · exact .inr fun v h1 h2 h3 => hh ⟨v, h1, h2, h3⟩
    rcases hex with ⟨v, hp, hv, hv0⟩ | hfin
    · obtain ⟨g, off, v', rfl, hg, hv', hc2⟩ := hn1.at_ (i := k - 1) (by omega)
      have e : v' = v := by rw [hv] at hv'; injection hv' with hv'; exact hv'.symm
      subst e
      have hq : ((v' : Int) == 0) = true := by simp [hv0]
      have HV := Lib.hid hv
      have H0 := Lib.hid hv0
      clear hv hv' hv0 hn1
      go_wp2
      go_round
      case rel =>
        refine ⟨k - 1, by omega, rfl, fun i u hu hi => ?_⟩
        by_cases e : i = k - 1
        · have := HV.out; rw [e] at hu; rw [hu] at this; injection this with this; rw [this]; exact H0.out
        · exact hz i u hu (by omega)
      case measure => simp [lenOf]; omega
    · have htk := FIN.out k hk hz hfin
      have hlen2 : (dig B32 r).length = k := by rw [← htk, List.length_take]; omega
      have hnum : Nums .u32 w1 A1 (dig B32 r) := by rw [← htk]; exact hn1.take k
      have hres : N32 w1 (.slice A1 k c1) r := ⟨A1, c1, by rw [hlen2], by rw [hlen2]; omega, hnum⟩
      have HRES := Lib.hid hres
      clear htk hlen2 hnum hres
      by_cases hp : 0 < k
      · obtain ⟨g, off, v, rfl, hg, hv, hc2⟩ := hn1.at_ (i := k - 1) (by omega)
        have hq : ((v : Int) == 0) = false := by have := hfin v hp hv; simp; omega
        have HV := Lib.hid hv
        clear hv hn1 hfin
        go_wp2
        go_ret
        exact ⟨_, rfl, HRES.out, hb1⟩
      · clear hn1 hfin
        go_wp2
        go_ret
        exact ⟨_, rfl, HRES.out, hb1⟩
end Go.Proofs.Ytaegkhdkhgemmaa

namespace Go.Proofs.Ytaegkhdkhgemmaa
open Go.RowKit Num

/-- A number is returned; nothing that was there has turned. -/
def NumRet (w : World) (n : Nat) (e : Ending) (w' : World) : Prop := ∃ v, e = .returned v ∧ N32 w' v n ∧ Below w.heap.size w w'

theorem len_add {m n K : Nat} (hm : (dig B32 m).length ≤ K) (hn : (dig B32 n).length ≤ K) : (dig B32 (m + n)).length ≤ K + 1 := by
  have h1 := Nat.lt_of_lt_of_le (dig_len_lt b32_two (n := m)) (Nat.pow_le_pow_right b32_pos hm)
  have h2 := Nat.lt_of_lt_of_le (dig_len_lt b32_two (n := n)) (Nat.pow_le_pow_right b32_pos hn)
  exact dig_len_le b32_two (two_pow_lt b32_two h1 h2)
theorem len_mul {m n K J : Nat} (hm : (dig B32 m).length ≤ K) (hn : (dig B32 n).length ≤ J) : (dig B32 (m * n)).length ≤ K + J := by
  have h1 := Nat.lt_of_lt_of_le (dig_len_lt b32_two (n := m)) (Nat.pow_le_pow_right b32_pos hm)
  have h2 := Nat.lt_of_lt_of_le (dig_len_lt b32_two (n := n)) (Nat.pow_le_pow_right b32_pos hn)
  refine dig_len_le b32_two ?_
  rw [Nat.pow_add]
  exact Nat.mul_lt_mul_of_lt_of_lt h1 h2

set_option maxHeartbeats 400000 in
theorem add_n (a b : Value) (m n : Nat) (w : World) (ha : N32 w a m) (hb : N32 w b n) (hm : (dig B32 m).length ≤ 1000) (hn : (dig B32 n).length ≤ 1000) : Calls Try.prog 71 #[a, b] w (NumRet w (m + n)) := by
  have h := add_ok a b m n w ha hb (by omega) (by omega) (Nat.le_trans (bits_of_len (len_add hm hn)) (by omega))
  have H := Lib.hid h
  clear h ha hb
  go_enter Try.func71, Try.ntmps71
  go_wp2_with (go_at_call 37; refine H.out.mono ?_; rintro e w1 ⟨v, rfl, hv, hb1⟩)
  go_ret
  exact ⟨_, rfl, hv.is, hb1⟩
set_option maxHeartbeats 400000 in
theorem sub_n (a b : Value) (m n : Nat) (w : World) (ha : N32 w a m) (hb : N32 w b n) (hm : (dig B32 m).length ≤ 1000) (hn : (dig B32 n).length ≤ 1000) (hle : n ≤ m) : Calls Try.prog 73 #[a, b] w (NumRet w (m - n)) := by
  have h := sub_ok a b m n w ha hb (by omega) (by omega) hle
  have H := Lib.hid h
  clear h ha hb hle
  go_enter Try.func73, Try.ntmps73
  go_wp2_with (go_at_call 38; refine H.out.mono ?_; rintro e w1 ⟨v, rfl, hv, hb1⟩)
  go_ret
  exact ⟨_, rfl, hv.is, hb1⟩
set_option maxHeartbeats 400000 in
theorem mul_n (a b : Value) (m n : Nat) (w : World) (ha : N32 w a m) (hb : N32 w b n) (hm : (dig B32 m).length ≤ 1000) (hn : (dig B32 n).length ≤ 1000) (hs : (dig B32 m).length ≤ 158 ∨ (dig B32 n).length ≤ 158) : Calls Try.prog 72 #[a, b] w (NumRet w (m * n)) := by
  have lm := words_le (n := m) (K := 500) hm
  have ln := words_le (n := n) (K := 500) hn
  have hsh : (dig B64 m).length ≤ 79 ∨ (dig B64 n).length ≤ 79 := by
    rcases hs with h | h
    · exact .inl (words_le (K := 79) h)
    · exact .inr (words_le (K := 79) h)
  have h := mul_at (N := 500) a b m n w (mulAt_short (by omega) (by omega) hsh) (by omega) ha hb (by omega) (by omega) (by omega) (by omega) (Nat.le_trans (bits_of_len (len_mul hm hn)) (by omega))
  have H := Lib.hid h
  clear h ha hb hs hsh
  go_enter Try.func72, Try.ntmps72
  go_wp2_with (go_at_call 45; refine H.out.mono ?_; rintro e w1 ⟨v, rfl, hv, hb1⟩)
  go_ret
  exact ⟨_, rfl, hv.is, hb1⟩
set_option maxHeartbeats 400000 in
theorem same_n (a b : Value) (n : Nat) (w : World) (ha : N32 w a n) (hb : N32 w b n) (hl : (dig B32 n).length ≤ 1000) : Calls Try.prog 70 #[a, b] w (LivesPost w) := by
  have hs := same_nums a b _ _ w (Limbs.num ha (by omega)) (Limbs.num hb (by omega))
  rw [decide_eq_true rfl] at hs
  have H := Lib.hid hs
  clear hs ha hb
  go_enter Try.func70, Try.ntmps70
  go_wp2_with (go_at_call 32; refine H.out.mono ?_; rintro e w1 ⟨rfl, hb1⟩)
  go_ret
  exact ⟨rfl, hb1⟩

theorem whole_len {xs : List Nat} (h : Low B32 xs) (n : Nat) : (dig B32 (val B32 (xs.take n))).length ≤ n := by
  refine Nat.le_trans (trim_le b32_two (h.take n)) ?_
  rw [List.length_take]; omega

set_option maxHeartbeats 4000000 in
set_option maxRecDepth 100000 in
/-- The law NatRing, for whatever limbs. -/
theorem ring_walk (A A1 A2 : Option Addr) (c c1 c2 L L1 L2 : Nat) (xs ys zs : List Nat) (w : World) (hA : Nums .u32 w A xs) (hA1 : Nums .u32 w A1 ys) (hA2 : Nums .u32 w A2 zs) (hx : Low B32 xs) (hy : Low B32 ys) (hz : Low B32 zs)
    (hL : L = xs.length) (hL1 : L1 = ys.length) (hL2 : L2 = zs.length) (hc : L ≤ c) (hc1 : L1 ≤ c1) (hc2 : L2 ≤ c2) (hnil : A = none → c = 0) (hnil1 : A1 = none → c1 = 0) (hnil2 : A2 = none → c2 = 0) :
    Calls Try.prog 15 #[.slice A L c, .slice A1 L1 c1, .slice A2 L2 c2] w (LivesPost w) := by
  have hw0 := fun w' (h : Below w.heap.size w w') => whole_any A c L 80 xs w' (hA.keep h) hx hL hc hnil (by omega)
  have hw1 := fun w' (h : Below w.heap.size w w') => whole_any A1 c1 L1 80 ys w' (hA1.keep h) hy hL1 hc1 hnil1 (by omega)
  have hw2 := fun w' (h : Below w.heap.size w w') => whole_any A2 c2 L2 80 zs w' (hA2.keep h) hz hL2 hc2 hnil2 (by omega)
  have lp := whole_len hx 80
  have lq := whole_len hy 80
  have lr := whole_len hz 80
  generalize val B32 (xs.take 80) = p at *
  generalize val B32 (ys.take 80) = q at *
  generalize val B32 (zs.take 80) = r at *
  have lpq := len_add lp lq
  have lqr := len_add lq lr
  have lpqr : (dig B32 (p + q + r)).length ≤ 82 := len_add lpq (Nat.le_trans lr (by omega))
  have mpq := len_mul lp lq
  have mqr := len_mul lq lr
  have mpr := len_mul lp lr
  have mpqr : (dig B32 (p * q * r)).length ≤ 240 := len_mul mpq lr
  have mps := len_mul lp lqr
  have hapq := fun a b w h k => add_n a b p q w h k (by omega) (by omega)
  have haqp := fun a b w h k => add_n a b q p w h k (by omega) (by omega)
  have hapqr := fun a b w h k => add_n a b (p + q) r w h k (by omega) (by omega)
  have haqr := fun a b w h k => add_n a b q r w h k (by omega) (by omega)
  have hapqr2 := fun a b w h k => add_n a b p (q + r) w h k (by omega) (by omega)
  have hmpq := fun a b w h k => mul_n a b p q w h k (by omega) (by omega) (.inl (by omega))
  have hmqp := fun a b w h k => mul_n a b q p w h k (by omega) (by omega) (.inl (by omega))
  have hmpqr := fun a b w h k => mul_n a b (p * q) r w h k (by omega) (by omega) (.inr (by omega))
  have hmqr := fun a b w h k => mul_n a b q r w h k (by omega) (by omega) (.inl (by omega))
  have hmpqr2 := fun a b w h k => mul_n a b p (q * r) w h k (by omega) (by omega) (.inl (by omega))
  have hmps := fun a b w h k => mul_n a b p (q + r) w h k (by omega) (by omega) (.inl (by omega))
  have hmpr := fun a b w h k => mul_n a b p r w h k (by omega) (by omega) (.inl (by omega))
  have hadd := fun a b w h k => add_n a b (p * q) (p * r) w h k (by omega) (by omega)
  have hsub := fun a b w h k => sub_n a b (p + q) q w h k (by omega) (by omega) (by omega)
  have hs1 := fun a b w h k => same_n a b (p + q) w h k (by omega)
  have hs2 := fun a b w h k => same_n a b (p + q + r) w h k (by omega)
  have hs3 := fun a b w h k => same_n a b (p * q) w h k (by omega)
  have hs4 := fun a b w h k => same_n a b (p * q * r) w h k (by omega)
  have hs5 := fun a b w h k => same_n a b (p * (q + r)) w h k (by omega)
  have hs6 := fun a b w h k => same_n a b p w h k (by omega)
  rw [Nat.add_comm q p] at haqp
  rw [← Nat.add_assoc] at hapqr2
  rw [Nat.mul_comm q p] at hmqp
  rw [← Nat.mul_assoc] at hmpqr2
  rw [← Nat.mul_add] at hadd
  rw [Nat.add_sub_cancel] at hsub
  have HW0 := Lib.hid hw0
  have HW1 := Lib.hid hw1
  have HW2 := Lib.hid hw2
  have HAPQ := Lib.hid hapq
  have HAQP := Lib.hid haqp
  have HAPQR := Lib.hid hapqr
  have HAQR := Lib.hid haqr
  have HAPQR2 := Lib.hid hapqr2
  have HMPQ := Lib.hid hmpq
  have HMQP := Lib.hid hmqp
  have HMPQR := Lib.hid hmpqr
  have HMQR := Lib.hid hmqr
  have HMPQR2 := Lib.hid hmpqr2
  have HMPS := Lib.hid hmps
  have HMPR := Lib.hid hmpr
  have HADD := Lib.hid hadd
  have HSUB := Lib.hid hsub
  have HS1 := Lib.hid hs1
  have HS2 := Lib.hid hs2
  have HS3 := Lib.hid hs3
  have HS4 := Lib.hid hs4
  have HS5 := Lib.hid hs5
  have HS6 := Lib.hid hs6
  clear hw0 hw1 hw2 hapq haqp hapqr haqr hapqr2 hmpq hmqp hmpqr hmqr hmpqr2 hmps hmpr hadd hsub hs1 hs2 hs3 hs4 hs5 hs6 lp lq lr lpq lqr lpqr mpq mqr mpr mpqr mps hA hA1 hA2 hx hy hz hL hL1 hL2 hc hc1 hc2 hnil hnil1 hnil2
  go_enter Try.func15, Try.ntmps15
  go_wp2_with (fail)
  refine (HW0.out _ (Below.refl _ _)).mono ?_
  rintro e w1 ⟨va, rfl, g1, hb1⟩
  have b1 := hb1
  go_wp2_with (fail)
  refine (HW1.out _ b1).mono ?_
  rintro e w2 ⟨vb, rfl, g2, hb2⟩
  have b2 := below_at b1 (Nat.le_refl _) hb2
  have va_2 := g1.keep hb2
  go_wp2_with (fail)
  refine (HW2.out _ b2).mono ?_
  rintro e w3 ⟨vc, rfl, g3, hb3⟩
  have b3 := below_at b2 (Nat.le_refl _) hb3
  have va_3 := va_2.keep hb3
  have vb_3 := g2.keep hb3
  go_wp2_with (fail)
  refine (HAPQ.out _ _ _ va_3 vb_3).mono ?_
  rintro e w4 ⟨v1, rfl, g4, hb4⟩
  have b4 := below_at b3 (Nat.le_refl _) hb4
  have va_4 := va_3.keep hb4
  have vb_4 := vb_3.keep hb4
  have vc_4 := g3.keep hb4
  go_wp2_with (fail)
  refine (HAQP.out _ _ _ vb_4 va_4).mono ?_
  rintro e w5 ⟨v2, rfl, g5, hb5⟩
  have b5 := below_at b4 (Nat.le_refl _) hb5
  have va_5 := va_4.keep hb5
  have vb_5 := vb_4.keep hb5
  have vc_5 := vc_4.keep hb5
  have v1_5 := g4.keep hb5
  go_wp2_with (fail)
  refine (HS1.out _ _ _ v1_5 g5).mono ?_
  rintro e w6 ⟨rfl, hb6⟩
  have b6 := below_at b5 (Nat.le_refl _) hb6
  have va_6 := va_5.keep hb6
  have vb_6 := vb_5.keep hb6
  have vc_6 := vc_5.keep hb6
  have v1_6 := v1_5.keep hb6
  have v2_6 := g5.keep hb6
  go_wp2_with (fail)
  refine (HAPQ.out _ _ _ va_6 vb_6).mono ?_
  rintro e w7 ⟨v3, rfl, g7, hb7⟩
  have b7 := below_at b6 (Nat.le_refl _) hb7
  have va_7 := va_6.keep hb7
  have vb_7 := vb_6.keep hb7
  have vc_7 := vc_6.keep hb7
  go_wp2_with (fail)
  refine (HAPQR.out _ _ _ g7 vc_7).mono ?_
  rintro e w8 ⟨v4, rfl, g8, hb8⟩
  have b8 := below_at b7 (Nat.le_refl _) hb8
  have va_8 := va_7.keep hb8
  have vb_8 := vb_7.keep hb8
  have vc_8 := vc_7.keep hb8
  have v3_8 := g7.keep hb8
  go_wp2_with (fail)
  refine (HAQR.out _ _ _ vb_8 vc_8).mono ?_
  rintro e w9 ⟨v5, rfl, g9, hb9⟩
  have b9 := below_at b8 (Nat.le_refl _) hb9
  have va_9 := va_8.keep hb9
  have vb_9 := vb_8.keep hb9
  have vc_9 := vc_8.keep hb9
  have v3_9 := v3_8.keep hb9
  have v4_9 := g8.keep hb9
  go_wp2_with (fail)
  refine (HAPQR2.out _ _ _ va_9 g9).mono ?_
  rintro e w10 ⟨v6, rfl, g10, hb10⟩
  have b10 := below_at b9 (Nat.le_refl _) hb10
  have va_10 := va_9.keep hb10
  have vb_10 := vb_9.keep hb10
  have vc_10 := vc_9.keep hb10
  have v3_10 := v3_9.keep hb10
  have v4_10 := v4_9.keep hb10
  have v5_10 := g9.keep hb10
  go_wp2_with (fail)
  refine (HS2.out _ _ _ v4_10 g10).mono ?_
  rintro e w11 ⟨rfl, hb11⟩
  have b11 := below_at b10 (Nat.le_refl _) hb11
  have va_11 := va_10.keep hb11
  have vb_11 := vb_10.keep hb11
  have vc_11 := vc_10.keep hb11
  have v3_11 := v3_10.keep hb11
  have v4_11 := v4_10.keep hb11
  have v5_11 := v5_10.keep hb11
  have v6_11 := g10.keep hb11
  go_wp2_with (fail)
  refine (HMPQ.out _ _ _ va_11 vb_11).mono ?_
  rintro e w12 ⟨v7, rfl, g12, hb12⟩
  have b12 := below_at b11 (Nat.le_refl _) hb12
  have va_12 := va_11.keep hb12
  have vb_12 := vb_11.keep hb12
  have vc_12 := vc_11.keep hb12
  go_wp2_with (fail)
  refine (HMQP.out _ _ _ vb_12 va_12).mono ?_
  rintro e w13 ⟨v8, rfl, g13, hb13⟩
  have b13 := below_at b12 (Nat.le_refl _) hb13
  have va_13 := va_12.keep hb13
  have vb_13 := vb_12.keep hb13
  have vc_13 := vc_12.keep hb13
  have v7_13 := g12.keep hb13
  go_wp2_with (fail)
  refine (HS3.out _ _ _ v7_13 g13).mono ?_
  rintro e w14 ⟨rfl, hb14⟩
  have b14 := below_at b13 (Nat.le_refl _) hb14
  have va_14 := va_13.keep hb14
  have vb_14 := vb_13.keep hb14
  have vc_14 := vc_13.keep hb14
  have v7_14 := v7_13.keep hb14
  have v8_14 := g13.keep hb14
  go_wp2_with (fail)
  refine (HMPQ.out _ _ _ va_14 vb_14).mono ?_
  rintro e w15 ⟨v9, rfl, g15, hb15⟩
  have b15 := below_at b14 (Nat.le_refl _) hb15
  have va_15 := va_14.keep hb15
  have vb_15 := vb_14.keep hb15
  have vc_15 := vc_14.keep hb15
  go_wp2_with (fail)
  refine (HMPQR.out _ _ _ g15 vc_15).mono ?_
  rintro e w16 ⟨v10, rfl, g16, hb16⟩
  have b16 := below_at b15 (Nat.le_refl _) hb16
  have va_16 := va_15.keep hb16
  have vb_16 := vb_15.keep hb16
  have vc_16 := vc_15.keep hb16
  have v9_16 := g15.keep hb16
  go_wp2_with (fail)
  refine (HMQR.out _ _ _ vb_16 vc_16).mono ?_
  rintro e w17 ⟨v11, rfl, g17, hb17⟩
  have b17 := below_at b16 (Nat.le_refl _) hb17
  have va_17 := va_16.keep hb17
  have vb_17 := vb_16.keep hb17
  have vc_17 := vc_16.keep hb17
  have v9_17 := v9_16.keep hb17
  have v10_17 := g16.keep hb17
  go_wp2_with (fail)
  refine (HMPQR2.out _ _ _ va_17 g17).mono ?_
  rintro e w18 ⟨v12, rfl, g18, hb18⟩
  have b18 := below_at b17 (Nat.le_refl _) hb18
  have va_18 := va_17.keep hb18
  have vb_18 := vb_17.keep hb18
  have vc_18 := vc_17.keep hb18
  have v9_18 := v9_17.keep hb18
  have v10_18 := v10_17.keep hb18
  have v11_18 := g17.keep hb18
  go_wp2_with (fail)
  refine (HS4.out _ _ _ v10_18 g18).mono ?_
  rintro e w19 ⟨rfl, hb19⟩
  have b19 := below_at b18 (Nat.le_refl _) hb19
  have va_19 := va_18.keep hb19
  have vb_19 := vb_18.keep hb19
  have vc_19 := vc_18.keep hb19
  have v9_19 := v9_18.keep hb19
  have v10_19 := v10_18.keep hb19
  have v11_19 := v11_18.keep hb19
  have v12_19 := g18.keep hb19
  go_wp2_with (fail)
  refine (HAQR.out _ _ _ vb_19 vc_19).mono ?_
  rintro e w20 ⟨v13, rfl, g20, hb20⟩
  have b20 := below_at b19 (Nat.le_refl _) hb20
  have va_20 := va_19.keep hb20
  have vb_20 := vb_19.keep hb20
  have vc_20 := vc_19.keep hb20
  go_wp2_with (fail)
  refine (HMPS.out _ _ _ va_20 g20).mono ?_
  rintro e w21 ⟨v14, rfl, g21, hb21⟩
  have b21 := below_at b20 (Nat.le_refl _) hb21
  have va_21 := va_20.keep hb21
  have vb_21 := vb_20.keep hb21
  have vc_21 := vc_20.keep hb21
  have v13_21 := g20.keep hb21
  go_wp2_with (fail)
  refine (HMPQ.out _ _ _ va_21 vb_21).mono ?_
  rintro e w22 ⟨v15, rfl, g22, hb22⟩
  have b22 := below_at b21 (Nat.le_refl _) hb22
  have va_22 := va_21.keep hb22
  have vb_22 := vb_21.keep hb22
  have vc_22 := vc_21.keep hb22
  have v13_22 := v13_21.keep hb22
  have v14_22 := g21.keep hb22
  go_wp2_with (fail)
  refine (HMPR.out _ _ _ va_22 vc_22).mono ?_
  rintro e w23 ⟨v16, rfl, g23, hb23⟩
  have b23 := below_at b22 (Nat.le_refl _) hb23
  have va_23 := va_22.keep hb23
  have vb_23 := vb_22.keep hb23
  have vc_23 := vc_22.keep hb23
  have v13_23 := v13_22.keep hb23
  have v14_23 := v14_22.keep hb23
  have v15_23 := g22.keep hb23
  go_wp2_with (fail)
  refine (HADD.out _ _ _ v15_23 g23).mono ?_
  rintro e w24 ⟨v17, rfl, g24, hb24⟩
  have b24 := below_at b23 (Nat.le_refl _) hb24
  have va_24 := va_23.keep hb24
  have vb_24 := vb_23.keep hb24
  have vc_24 := vc_23.keep hb24
  have v13_24 := v13_23.keep hb24
  have v14_24 := v14_23.keep hb24
  have v15_24 := v15_23.keep hb24
  have v16_24 := g23.keep hb24
  go_wp2_with (fail)
  refine (HS5.out _ _ _ v14_24 g24).mono ?_
  rintro e w25 ⟨rfl, hb25⟩
  have b25 := below_at b24 (Nat.le_refl _) hb25
  have va_25 := va_24.keep hb25
  have vb_25 := vb_24.keep hb25
  have vc_25 := vc_24.keep hb25
  have v13_25 := v13_24.keep hb25
  have v14_25 := v14_24.keep hb25
  have v15_25 := v15_24.keep hb25
  have v16_25 := v16_24.keep hb25
  have v17_25 := g24.keep hb25
  go_wp2_with (fail)
  refine (HAPQ.out _ _ _ va_25 vb_25).mono ?_
  rintro e w26 ⟨v18, rfl, g26, hb26⟩
  have b26 := below_at b25 (Nat.le_refl _) hb26
  have va_26 := va_25.keep hb26
  have vb_26 := vb_25.keep hb26
  have vc_26 := vc_25.keep hb26
  go_wp2_with (fail)
  refine (HSUB.out _ _ _ g26 vb_26).mono ?_
  rintro e w27 ⟨v19, rfl, g27, hb27⟩
  have b27 := below_at b26 (Nat.le_refl _) hb27
  have va_27 := va_26.keep hb27
  have vb_27 := vb_26.keep hb27
  have vc_27 := vc_26.keep hb27
  have v18_27 := g26.keep hb27
  go_wp2_with (fail)
  refine (HS6.out _ _ _ g27 va_27).mono ?_
  rintro e w28 ⟨rfl, hb28⟩
  have b28 := below_at b27 (Nat.le_refl _) hb28
  have va_28 := va_27.keep hb28
  have vb_28 := vb_27.keep hb28
  have vc_28 := vc_27.keep hb28
  have v18_28 := v18_27.keep hb28
  have v19_28 := g27.keep hb28
  go_wp2_with (fail)
  refine (lives_any _).mono ?_
  rintro e w29 ⟨rfl, hb29⟩
  have b29 := below_at b28 (Nat.le_refl _) hb29
  have va_29 := va_28.keep hb29
  have vb_29 := vb_28.keep hb29
  have vc_29 := vc_28.keep hb29
  go_wp2
  go_ret
  exact ⟨rfl, b29⟩
end Go.Proofs.Ytaegkhdkhgemmaa

namespace Go.Proofs.Ytaegkhdkhgemmaa
open Go.RowKit Num

set_option maxHeartbeats 400000 in
theorem mul_l (a b : Value) (m n : Nat) (w : World) (ha : N32 w a m) (hb : N32 w b n) (hm : (dig B32 m).length ≤ 1000) (hn : (dig B32 n).length ≤ 1000) : Calls Try.prog 72 #[a, b] w (NumRet w (m * n)) := by
  have lm := words_le (n := m) (K := 500) hm
  have ln := words_le (n := n) (K := 500) hn
  have h := mul_at (N := 500) a b m n w (mulAt_all (by omega) (by omega)) (by omega) ha hb (by omega) (by omega) (by omega) (by omega) (Nat.le_trans (bits_of_len (len_mul hm hn)) (by omega))
  have H := Lib.hid h
  clear h ha hb
  go_enter Try.func72, Try.ntmps72
  go_wp2_with (go_at_call 45; refine H.out.mono ?_; rintro e w1 ⟨v, rfl, hv, hb1⟩)
  go_ret
  exact ⟨_, rfl, hv.is, hb1⟩
theorem dig32_mono {b m n : Nat} (hb : 2 ≤ b) (h : m ≤ n) : (dig b m).length ≤ (dig b n).length := dig_len_le hb (Nat.lt_of_le_of_lt h (dig_len_lt hb))

set_option maxHeartbeats 4000000 in
set_option maxRecDepth 100000 in
/-- The law NatSquares, for whatever limbs. -/
theorem squares_walk (A A1 : Option Addr) (c c1 L L1 : Nat) (xs ys : List Nat) (w : World) (hA : Nums .u32 w A xs) (hA1 : Nums .u32 w A1 ys) (hx : Low B32 xs) (hy : Low B32 ys)
    (hL : L = xs.length) (hL1 : L1 = ys.length) (hc : L ≤ c) (hc1 : L1 ≤ c1) (hnil : A = none → c = 0) (hnil1 : A1 = none → c1 = 0) :
    Calls Try.prog 16 #[.slice A L c, .slice A1 L1 c1] w (LivesPost w) := by
  have hw0 := fun w' (h : Below w.heap.size w w') => whole_any A c L 400 xs w' (hA.keep h) hx hL hc hnil (by omega)
  have hw1 := fun w' (h : Below w.heap.size w w') => whole_any A1 c1 L1 400 ys w' (hA1.keep h) hy hL1 hc1 hnil1 (by omega)
  have lp := whole_len hx 400
  have lq := whole_len hy 400
  generalize val B32 (xs.take 400) = p at *
  generalize val B32 (ys.take 400) = q at *
  have hcm := fun a b w h k => cmp_ok a b p q w h k (by omega) (by omega)
  obtain ⟨cv, hcv⟩ : ∃ cv, cmpN p q = cv := ⟨_, rfl⟩
  rw [hcv] at hcm
  have hcase : (cv < 0 ∧ p ≤ q) ∨ (¬ cv < 0 ∧ q ≤ p) := by
    rcases Nat.lt_trichotomy p q with h | h | h
    · rw [cmpN_lt h] at hcv; exact .inl ⟨by omega, Nat.le_of_lt h⟩
    · subst h; rw [cmpN_eq] at hcv; exact .inr ⟨by omega, Nat.le_refl _⟩
    · rw [cmpN_gt h] at hcv; exact .inr ⟨by omega, Nat.le_of_lt h⟩
  have HW0 := Lib.hid hw0
  have HW1 := Lib.hid hw1
  have HC := Lib.hid hcm
  clear hw0 hw1 hcm hcv hA hA1 hx hy hL hL1 hc hc1 hnil hnil1
  rcases hcase with ⟨hneg, hle⟩ | ⟨hneg, hle⟩
  · have lmm := len_mul lq lq
    have lnn := len_mul lp lp
    have lad : (dig B32 (q + p)).length ≤ 401 := len_add (by omega) (by omega)
    have lsb : (dig B32 (q - p)).length ≤ 400 := Nat.le_trans (dig32_mono b32_two (Nat.sub_le _ _)) lq
    have lpr := len_mul lad lsb
    have hmm := fun a b w h k => mul_l a b q q w h k (by omega) (by omega)
    have hnn := fun a b w h k => mul_l a b p p w h k (by omega) (by omega)
    have hsq := fun a b w h k => sub_n a b (q * q) (p * p) w h k (by omega) (by omega) (Nat.mul_le_mul hle hle)
    have had := fun a b w h k => add_n a b q p w h k (by omega) (by omega)
    have hsb := fun a b w h k => sub_n a b q p w h k (by omega) (by omega) hle
    have hml := fun a b w h k => mul_l a b (q + p) (q - p) w h k (by omega) (by omega)
    have hsm := fun a b w h k => same_n a b ((q + p) * (q - p)) w h k (by omega)
    rw [Nat.mul_self_sub_mul_self_eq] at hsq
    have HMMM := Lib.hid hmm
    have HM16 := Lib.hid hnn
    have HSQ := Lib.hid hsq
    have HADD := Lib.hid had
    have HSUB := Lib.hid hsb
    have HMUL := Lib.hid hml
    have HSAME := Lib.hid hsm
    clear hmm hnn hsq had hsb hml hsm lmm lnn lad lsb lpr hle lp lq
    go_enter Try.func16, Try.ntmps16
    go_wp2_with (fail)
    refine (HW0.out _ (Below.refl _ _)).mono ?_
    rintro e x1 ⟨va, rfl, g1, hb1⟩
    have b1 := hb1
    go_wp2_with (fail)
    refine (HW1.out _ b1).mono ?_
    rintro e x2 ⟨vb, rfl, g2, hb2⟩
    have b2 := below_at b1 (Nat.le_refl _) hb2
    have va_2 := g1.keep hb2
    go_wp2_with (fail)
    refine (HC.out _ _ _ va_2 g2).mono ?_
    rintro e x3 ⟨rfl, hb3⟩
    have b3 := below_at b2 (Nat.le_refl _) hb3
    have va_3 := va_2.keep hb3
    have vb_3 := g2.keep hb3
    go_wp2_with (fail)
    refine (lives_any _).mono ?_
    rintro e x4 ⟨rfl, hb4⟩
    have b4 := below_at b3 (Nat.le_refl _) hb4
    have kva := va_3.keep hb4
    have kvb := vb_3.keep hb4
    go_wp2_with (fail)
    refine (HMMM.out _ _ _ kvb kvb).mono ?_
    rintro e x5 ⟨u1, rfl, g5, hb5⟩
    have b5 := below_at b4 (Nat.le_refl _) hb5
    have vb_5 := kvb.keep hb5
    have va_5 := kva.keep hb5
    go_wp2_with (fail)
    refine (HM16.out _ _ _ va_5 va_5).mono ?_
    rintro e x6 ⟨u2, rfl, g6, hb6⟩
    have b6 := below_at b5 (Nat.le_refl _) hb6
    have vb_6 := vb_5.keep hb6
    have va_6 := va_5.keep hb6
    have u1_6 := g5.keep hb6
    go_wp2_with (fail)
    refine (HSQ.out _ _ _ u1_6 g6).mono ?_
    rintro e x7 ⟨u3, rfl, g7, hb7⟩
    have b7 := below_at b6 (Nat.le_refl _) hb7
    have vb_7 := vb_6.keep hb7
    have va_7 := va_6.keep hb7
    have u1_7 := u1_6.keep hb7
    have u2_7 := g6.keep hb7
    go_wp2_with (fail)
    refine (HADD.out _ _ _ vb_7 va_7).mono ?_
    rintro e x8 ⟨u4, rfl, g8, hb8⟩
    have b8 := below_at b7 (Nat.le_refl _) hb8
    have vb_8 := vb_7.keep hb8
    have va_8 := va_7.keep hb8
    have u1_8 := u1_7.keep hb8
    have u2_8 := u2_7.keep hb8
    have u3_8 := g7.keep hb8
    go_wp2_with (fail)
    refine (HSUB.out _ _ _ vb_8 va_8).mono ?_
    rintro e x9 ⟨u5, rfl, g9, hb9⟩
    have b9 := below_at b8 (Nat.le_refl _) hb9
    have vb_9 := vb_8.keep hb9
    have va_9 := va_8.keep hb9
    have u1_9 := u1_8.keep hb9
    have u2_9 := u2_8.keep hb9
    have u3_9 := u3_8.keep hb9
    have u4_9 := g8.keep hb9
    go_wp2_with (fail)
    refine (HMUL.out _ _ _ u4_9 g9).mono ?_
    rintro e x10 ⟨u6, rfl, g10, hb10⟩
    have b10 := below_at b9 (Nat.le_refl _) hb10
    have vb_10 := vb_9.keep hb10
    have va_10 := va_9.keep hb10
    have u1_10 := u1_9.keep hb10
    have u2_10 := u2_9.keep hb10
    have u3_10 := u3_9.keep hb10
    have u4_10 := u4_9.keep hb10
    have u5_10 := g9.keep hb10
    go_wp2_with (fail)
    refine (HSAME.out _ _ _ u3_10 g10).mono ?_
    rintro e x11 ⟨rfl, hb11⟩
    have b11 := below_at b10 (Nat.le_refl _) hb11
    go_wp2_with (fail)
    go_ret
    exact ⟨rfl, b11⟩
  · have lmm := len_mul lp lp
    have lnn := len_mul lq lq
    have lad : (dig B32 (p + q)).length ≤ 401 := len_add (by omega) (by omega)
    have lsb : (dig B32 (p - q)).length ≤ 400 := Nat.le_trans (dig32_mono b32_two (Nat.sub_le _ _)) lp
    have lpr := len_mul lad lsb
    have hmm := fun a b w h k => mul_l a b p p w h k (by omega) (by omega)
    have hnn := fun a b w h k => mul_l a b q q w h k (by omega) (by omega)
    have hsq := fun a b w h k => sub_n a b (p * p) (q * q) w h k (by omega) (by omega) (Nat.mul_le_mul hle hle)
    have had := fun a b w h k => add_n a b p q w h k (by omega) (by omega)
    have hsb := fun a b w h k => sub_n a b p q w h k (by omega) (by omega) hle
    have hml := fun a b w h k => mul_l a b (p + q) (p - q) w h k (by omega) (by omega)
    have hsm := fun a b w h k => same_n a b ((p + q) * (p - q)) w h k (by omega)
    rw [Nat.mul_self_sub_mul_self_eq] at hsq
    have HMMM := Lib.hid hmm
    have HM16 := Lib.hid hnn
    have HSQ := Lib.hid hsq
    have HADD := Lib.hid had
    have HSUB := Lib.hid hsb
    have HMUL := Lib.hid hml
    have HSAME := Lib.hid hsm
    clear hmm hnn hsq had hsb hml hsm lmm lnn lad lsb lpr hle lp lq
    go_enter Try.func16, Try.ntmps16
    go_wp2_with (fail)
    refine (HW0.out _ (Below.refl _ _)).mono ?_
    rintro e x1 ⟨va, rfl, g1, hb1⟩
    have b1 := hb1
    go_wp2_with (fail)
    refine (HW1.out _ b1).mono ?_
    rintro e x2 ⟨vb, rfl, g2, hb2⟩
    have b2 := below_at b1 (Nat.le_refl _) hb2
    have va_2 := g1.keep hb2
    go_wp2_with (fail)
    refine (HC.out _ _ _ va_2 g2).mono ?_
    rintro e x3 ⟨rfl, hb3⟩
    have b3 := below_at b2 (Nat.le_refl _) hb3
    have va_3 := va_2.keep hb3
    have vb_3 := g2.keep hb3
    go_wp2_with (fail)
    refine (lives_any _).mono ?_
    rintro e x4 ⟨rfl, hb4⟩
    have b4 := below_at b3 (Nat.le_refl _) hb4
    have kva := va_3.keep hb4
    have kvb := vb_3.keep hb4
    go_wp2_with (fail)
    refine (HMMM.out _ _ _ kva kva).mono ?_
    rintro e x5 ⟨u1, rfl, g5, hb5⟩
    have b5 := below_at b4 (Nat.le_refl _) hb5
    have va_5 := kva.keep hb5
    have vb_5 := kvb.keep hb5
    go_wp2_with (fail)
    refine (HM16.out _ _ _ vb_5 vb_5).mono ?_
    rintro e x6 ⟨u2, rfl, g6, hb6⟩
    have b6 := below_at b5 (Nat.le_refl _) hb6
    have va_6 := va_5.keep hb6
    have vb_6 := vb_5.keep hb6
    have u1_6 := g5.keep hb6
    go_wp2_with (fail)
    refine (HSQ.out _ _ _ u1_6 g6).mono ?_
    rintro e x7 ⟨u3, rfl, g7, hb7⟩
    have b7 := below_at b6 (Nat.le_refl _) hb7
    have va_7 := va_6.keep hb7
    have vb_7 := vb_6.keep hb7
    have u1_7 := u1_6.keep hb7
    have u2_7 := g6.keep hb7
    go_wp2_with (fail)
    refine (HADD.out _ _ _ va_7 vb_7).mono ?_
    rintro e x8 ⟨u4, rfl, g8, hb8⟩
    have b8 := below_at b7 (Nat.le_refl _) hb8
    have va_8 := va_7.keep hb8
    have vb_8 := vb_7.keep hb8
    have u1_8 := u1_7.keep hb8
    have u2_8 := u2_7.keep hb8
    have u3_8 := g7.keep hb8
    go_wp2_with (fail)
    refine (HSUB.out _ _ _ va_8 vb_8).mono ?_
    rintro e x9 ⟨u5, rfl, g9, hb9⟩
    have b9 := below_at b8 (Nat.le_refl _) hb9
    have va_9 := va_8.keep hb9
    have vb_9 := vb_8.keep hb9
    have u1_9 := u1_8.keep hb9
    have u2_9 := u2_8.keep hb9
    have u3_9 := u3_8.keep hb9
    have u4_9 := g8.keep hb9
    go_wp2_with (fail)
    refine (HMUL.out _ _ _ u4_9 g9).mono ?_
    rintro e x10 ⟨u6, rfl, g10, hb10⟩
    have b10 := below_at b9 (Nat.le_refl _) hb10
    have va_10 := va_9.keep hb10
    have vb_10 := vb_9.keep hb10
    have u1_10 := u1_9.keep hb10
    have u2_10 := u2_9.keep hb10
    have u3_10 := u3_9.keep hb10
    have u4_10 := u4_9.keep hb10
    have u5_10 := g9.keep hb10
    go_wp2_with (fail)
    refine (HSAME.out _ _ _ u3_10 g10).mono ?_
    rintro e x11 ⟨rfl, hb11⟩
    have b11 := below_at b10 (Nat.le_refl _) hb11
    go_wp2_with (fail)
    go_ret
    exact ⟨rfl, b11⟩
end Go.Proofs.Ytaegkhdkhgemmaa

namespace Go.Proofs.Ytaegkhdkhgemmaa
open Go.RowKit Num

theorem and15_ex (x : Int) : ∃ n : Nat, n < 16 ∧ bits .and .i64 x 15 = (n : Int) := by
  have h : (BitVec.ofInt 64 x &&& BitVec.ofInt 64 15).toNat < 16 := by
    rw [BitVec.toNat_and, show (BitVec.ofInt 64 15).toNat = 15 from rfl]
    exact Nat.lt_of_le_of_lt Nat.and_le_right (by omega)
  refine ⟨_, h, ?_⟩
  show IntKind.i64.wrap ((BitVec.ofInt 64 x &&& BitVec.ofInt 64 15).toNat : Int) = _
  generalize (BitVec.ofInt 64 x &&& BitVec.ofInt 64 15).toNat = n at *
  rw [IntKind.wrap_i64]
  omega
set_option maxHeartbeats 2000000 in
set_option maxRecDepth 100000 in
theorem exps_zero (A A1 : Option Addr) (c c1 L L1 : Nat) (e0 e1 : Int) (xs ys : List Nat) (w : World) (hA : Nums .u32 w A xs) (hA1 : Nums .u32 w A1 ys) (hx : Low B32 xs) (hy : Low B32 ys) (hL : L = xs.length) (hL1 : L1 = ys.length) (hc : L ≤ c) (hc1 : L1 ≤ c1) (hnil : A = none → c = 0) (hnil1 : A1 = none → c1 = 0) (h0 : val B32 (ys.take 4) = 0) : Calls Try.prog 23 #[.slice A L c, .slice A1 L1 c1, .agg #[.int .i64 e0, .int .i64 e1]] w (LivesPost w) := by
  have hw1 := fun w' (h : Below w.heap.size w w') => whole_any A c L 4 xs w' (hA.keep h) hx hL hc hnil (by omega)
  have hw2 := fun w' (h : Below w.heap.size w w') => whole_any A1 c1 L1 4 ys w' (hA1.keep h) hy hL1 hc1 hnil1 (by omega)
  have l1 : (dig B32 (val B32 (xs.take 4))).length ≤ 4 := whole_len hx 4
  have l2 : (dig B32 (val B32 (ys.take 4))).length ≤ 4 := whole_len hy 4
  generalize val B32 (xs.take 4) = x at *
  generalize val B32 (ys.take 4) = k at *
  have lb : nbits x ≤ 128 := Nat.le_trans (bits_of_len l1) (by omega)
  obtain ⟨n, hn, a1⟩ := and15_ex e0
  obtain ⟨m, hm, a2⟩ := and15_ex e1
  have hlp : ∀ j, j ≤ 30 → (dig B32 (x ^ j)).length ≤ 130 := fun j hj => by
    have h1 := nbits_pow_le x j
    have h2 := Nat.mul_le_mul hj lb
    exact len32_of_bits (Nat.le_trans h1 (by omega))
  have ln := hlp n (by omega)
  have lm := hlp m (by omega)
  have ls := hlp (n + m) (by omega)
  have e3 : x ^ n * x ^ m = x ^ (n + m) := (Nat.pow_add x n m).symm
  have h52 := fun a w' (h : N32 w' a x) => pow_ok a x n w' h (by omega) (by omega) (by omega)
  have h52m := fun a w' (h : N32 w' a x) => pow_ok a x m w' h (by omega) (by omega) (by omega)
  have h52s := fun a w' (h : N32 w' a x) => pow_ok a x (n + m) w' h (by omega) (by omega) (by omega)
  push_cast at h52s
  have h72 := fun a b w' (h : N32 w' a (x ^ n)) (k : N32 w' b (x ^ m)) => mul_l a b _ _ w' h k (by omega) (by omega)
  rw [e3] at h72
  have h70 := fun a b w' (h : N32 w' a (x ^ (n + m))) (k : N32 w' b (x ^ (n + m))) => same_n a b _ w' h k (by omega)
  have hD : (dig B32 k).length = 0 := by rw [h0, dig_zero]; rfl
  have HW1 := Lib.hid hw1
  have HW2 := Lib.hid hw2
  have H52 := Lib.hid h52
  have H52m := Lib.hid h52m
  have H52s := Lib.hid h52s
  have H72 := Lib.hid h72
  have H70 := Lib.hid h70
  have HD := Lib.hid hD
  clear hw1 hw2 h52 h52m h52s h72 h70 hD
  clear hA hA1 hx hy hL hL1 hnil hnil1 l1 l2 lb hlp ln lm ls e3 h0
  have hbA := below_new w (.cells #[.int .i64 e0, .int .i64 e1] 79)
  go_enter Try.func23, Try.ntmps23
  go_wp2_with (fail)
  refine (HW1.out _ hbA).mono ?_
  rintro e w1 ⟨va, rfl, hva, hb1⟩
  have b1 := below_at hbA (Nat.le_refl _) hb1
  have ka_1 := hva
  go_wp2_with (fail)
  refine (HW2.out _ b1).mono ?_
  rintro e w2 ⟨vb, rfl, hvb, hb2⟩
  have b2 := below_at b1 (Nat.le_refl _) hb2
  have ka_2 := ka_1.keep hb2
  have kb_2 := hvb
  have kk := kb_2
  obtain ⟨A2, c2, hve, hcc, _⟩ := kk
  rw [HD.out] at hve hcc
  subst hve
  have hcell := fun (i : Nat) (v : Value) (h : (w.alloc (.cells #[.int .i64 e0, .int .i64 e1] 79)).cell? ⟨w.heap.size, i, none⟩ = some v) => (Below.cell (p := ⟨w.heap.size, i, none⟩) (below_at (Below.refl _ _) (Nat.le_refl _) hb1) (by simp)).trans h
  have cc0 := (Below.cell (p := ⟨w.heap.size, 0, none⟩) hb2 (by have := hb1.size; simp at this ⊢; omega)).trans (hcell 0 (.int .i64 e0) (by simp))
  have cc1 := (Below.cell (p := ⟨w.heap.size, 1, none⟩) hb2 (by have := hb1.size; simp at this ⊢; omega)).trans (hcell 1 (.int .i64 e1) (by simp))
  clear hcell
  go_wp2_with (fail)
  go_quiet (fail)
  go_wp2_with (fail)
  refine (H52.out _ _ (ka_2.keep (below_drewN (Below.refl _ _) _))).mono ?_
  rintro e w3 ⟨vp, rfl, hvp, hb3⟩
  have b3 := below_at (below_drewN b2 _) (Nat.le_refl _) hb3
  have ka_3 := (ka_2.keep (below_drewN (Below.refl _ _) _)).keep hb3
  have kb_3 := (kb_2.keep (below_drewN (Below.refl _ _) _)).keep hb3
  have kp_3 := hvp.is
  go_wp2_with (fail)
  refine (H52m.out _ _ ka_3).mono ?_
  rintro e w4 ⟨vq, rfl, hvq, hb4⟩
  have b4 := below_at b3 (Nat.le_refl _) hb4
  have ka_4 := ka_3.keep hb4
  have kb_4 := kb_3.keep hb4
  have kp_4 := kp_3.keep hb4
  have kq_4 := hvq.is
  go_wp2_with (fail)
  refine (H52s.out _ _ ka_4).mono ?_
  rintro e w5 ⟨vs, rfl, hvs, hb5⟩
  have b5 := below_at b4 (Nat.le_refl _) hb5
  have ka_5 := ka_4.keep hb5
  have kb_5 := kb_4.keep hb5
  have kp_5 := kp_4.keep hb5
  have kq_5 := kq_4.keep hb5
  have ks_5 := hvs.is
  go_wp2_with (fail)
  refine (H72.out _ _ _ kp_5 kq_5).mono ?_
  rintro e w6 ⟨vm, rfl, hvm, hb6⟩
  have b6 := below_at b5 (Nat.le_refl _) hb6
  have ka_6 := ka_5.keep hb6
  have kb_6 := kb_5.keep hb6
  have ks_6 := ks_5.keep hb6
  have km_6 := hvm
  go_wp2_with (fail)
  refine (H70.out _ _ _ km_6 ks_6).mono ?_
  rintro e w7 ⟨rfl, hb7⟩
  have b7 := below_at b6 (Nat.le_refl _) hb7
  have ka_7 := ka_6.keep hb7
  have kb_7 := kb_6.keep hb7
  have ks_7 := ks_6.keep hb7
  go_wp2_with (fail)
  refine (lives_any _).mono ?_
  rintro e w8 ⟨rfl, hb8⟩
  have b8 := below_at b7 (Nat.le_refl _) hb8
  have ka_8 := ka_7.keep hb8
  have kb_8 := kb_7.keep hb8
  have ks_8 := ks_7.keep hb8
  go_wp2
  go_ret
  exact ⟨rfl, b8⟩

set_option maxHeartbeats 2000000 in
set_option maxRecDepth 100000 in
theorem exps_pos (A A1 : Option Addr) (c c1 L L1 : Nat) (e0 e1 : Int) (xs ys : List Nat) (w : World) (hA : Nums .u32 w A xs) (hA1 : Nums .u32 w A1 ys) (hx : Low B32 xs) (hy : Low B32 ys) (hL : L = xs.length) (hL1 : L1 = ys.length) (hc : L ≤ c) (hc1 : L1 ≤ c1) (hnil : A = none → c = 0) (hnil1 : A1 = none → c1 = 0) (h0 : val B32 (ys.take 4) ≠ 0) : Calls Try.prog 23 #[.slice A L c, .slice A1 L1 c1, .agg #[.int .i64 e0, .int .i64 e1]] w (LivesPost w) := by
  have hw1 := fun w' (h : Below w.heap.size w w') => whole_any A c L 4 xs w' (hA.keep h) hx hL hc hnil (by omega)
  have hw2 := fun w' (h : Below w.heap.size w w') => whole_any A1 c1 L1 4 ys w' (hA1.keep h) hy hL1 hc1 hnil1 (by omega)
  have l1 : (dig B32 (val B32 (xs.take 4))).length ≤ 4 := whole_len hx 4
  have l2 : (dig B32 (val B32 (ys.take 4))).length ≤ 4 := whole_len hy 4
  generalize val B32 (xs.take 4) = x at *
  generalize val B32 (ys.take 4) = k at *
  have lb : nbits x ≤ 128 := Nat.le_trans (bits_of_len l1) (by omega)
  obtain ⟨n, hn, a1⟩ := and15_ex e0
  obtain ⟨m, hm, a2⟩ := and15_ex e1
  have hlp : ∀ j, j ≤ 30 → (dig B32 (x ^ j)).length ≤ 130 := fun j hj => by
    have h1 := nbits_pow_le x j
    have h2 := Nat.mul_le_mul hj lb
    exact len32_of_bits (Nat.le_trans h1 (by omega))
  have ln := hlp n (by omega)
  have lm := hlp m (by omega)
  have ls := hlp (n + m) (by omega)
  have e3 : x ^ n * x ^ m = x ^ (n + m) := (Nat.pow_add x n m).symm
  have h52 := fun a w' (h : N32 w' a x) => pow_ok a x n w' h (by omega) (by omega) (by omega)
  have h52m := fun a w' (h : N32 w' a x) => pow_ok a x m w' h (by omega) (by omega) (by omega)
  have h52s := fun a w' (h : N32 w' a x) => pow_ok a x (n + m) w' h (by omega) (by omega) (by omega)
  push_cast at h52s
  have h72 := fun a b w' (h : N32 w' a (x ^ n)) (k : N32 w' b (x ^ m)) => mul_l a b _ _ w' h k (by omega) (by omega)
  rw [e3] at h72
  have h70 := fun a b w' (h : N32 w' a (x ^ (n + m))) (k : N32 w' b (x ^ (n + m))) => same_n a b _ w' h k (by omega)
  have h33 := fun w => of_any (n + m) (by unfold B64; omega) w
  push_cast at h33
  have ln2 : (dig B32 (n + m)).length ≤ 4 := Nat.le_trans (small32 (by unfold B32; omega)) (by omega)
  have x1 : IntKind.u64.wrap ((n : Int) + (m : Int)) = (n : Int) + (m : Int) := by rw [IntKind.wrap_u64]; omega
  have h54 := fun a b c w' (h : N32 w' a x) (l : N32 w' b (n + m)) (j : N32 w' c k) => powMod_ok a b c x (n + m) k w' h l j (by omega) (by omega) (by omega) (by omega)
  have w1 : (dig B64 k).length ≤ 2 := words_le (by omega)
  have h47 := fun a b w' (h : N32 w' a (x ^ (n + m))) (j : N32 w' b k) => divMod_ok a b _ k w' h j (by omega) (by omega) (by omega) (.inl (by omega))
  have lr : (dig B32 (x ^ (n + m) % k)).length ≤ 4 := Nat.le_trans (len_mono32 (Nat.le_of_lt (Nat.mod_lt _ (by omega)))) l2
  have h70r := fun a b w' (h : N32 w' a (x ^ (n + m) % k)) (j : N32 w' b (x ^ (n + m) % k)) => same_n a b _ w' h j (by omega)
  obtain ⟨D, hD⟩ : ∃ D, (dig B32 k).length = D := ⟨_, rfl⟩
  have hd0 : 0 < D := by
    rcases Nat.eq_zero_or_pos D with h | h
    · rw [h] at hD
      have := (dig_nil_iff b32_two).1 (List.eq_nil_of_length_eq_zero hD); omega
    · exact h
  have HW1 := Lib.hid hw1
  have HW2 := Lib.hid hw2
  have H52 := Lib.hid h52
  have H52m := Lib.hid h52m
  have H52s := Lib.hid h52s
  have H72 := Lib.hid h72
  have H70 := Lib.hid h70
  have HD := Lib.hid hD
  have H33 := Lib.hid h33
  have H54 := Lib.hid h54
  have H47 := Lib.hid h47
  have H70r := Lib.hid h70r
  clear hw1 hw2 h52 h52m h52s h72 h70 hD h33 h54 h47 h70r
  clear ln2 w1 lr
  clear hA hA1 hx hy hL hL1 hnil hnil1 l1 l2 lb hlp ln lm ls e3 h0
  have hbA := below_new w (.cells #[.int .i64 e0, .int .i64 e1] 79)
  go_enter Try.func23, Try.ntmps23
  go_wp2_with (fail)
  refine (HW1.out _ hbA).mono ?_
  rintro e w1 ⟨va, rfl, hva, hb1⟩
  have b1 := below_at hbA (Nat.le_refl _) hb1
  have ka_1 := hva
  go_wp2_with (fail)
  refine (HW2.out _ b1).mono ?_
  rintro e w2 ⟨vb, rfl, hvb, hb2⟩
  have b2 := below_at b1 (Nat.le_refl _) hb2
  have ka_2 := ka_1.keep hb2
  have kb_2 := hvb
  have kk := kb_2
  obtain ⟨A2, c2, hve, hcc, _⟩ := kk
  rw [HD.out] at hve hcc
  subst hve
  have hcell := fun (i : Nat) (v : Value) (h : (w.alloc (.cells #[.int .i64 e0, .int .i64 e1] 79)).cell? ⟨w.heap.size, i, none⟩ = some v) => (Below.cell (p := ⟨w.heap.size, i, none⟩) (below_at (Below.refl _ _) (Nat.le_refl _) hb1) (by simp)).trans h
  have cc0 := (Below.cell (p := ⟨w.heap.size, 0, none⟩) hb2 (by have := hb1.size; simp at this ⊢; omega)).trans (hcell 0 (.int .i64 e0) (by simp))
  have cc1 := (Below.cell (p := ⟨w.heap.size, 1, none⟩) hb2 (by have := hb1.size; simp at this ⊢; omega)).trans (hcell 1 (.int .i64 e1) (by simp))
  clear hcell
  go_wp2_with (fail)
  go_quiet (fail)
  go_wp2_with (fail)
  refine (H52.out _ _ (ka_2.keep (below_drewN (Below.refl _ _) _))).mono ?_
  rintro e w3 ⟨vp, rfl, hvp, hb3⟩
  have b3 := below_at (below_drewN b2 _) (Nat.le_refl _) hb3
  have ka_3 := (ka_2.keep (below_drewN (Below.refl _ _) _)).keep hb3
  have kb_3 := (kb_2.keep (below_drewN (Below.refl _ _) _)).keep hb3
  have kp_3 := hvp.is
  go_wp2_with (fail)
  refine (H52m.out _ _ ka_3).mono ?_
  rintro e w4 ⟨vq, rfl, hvq, hb4⟩
  have b4 := below_at b3 (Nat.le_refl _) hb4
  have ka_4 := ka_3.keep hb4
  have kb_4 := kb_3.keep hb4
  have kp_4 := kp_3.keep hb4
  have kq_4 := hvq.is
  go_wp2_with (fail)
  refine (H52s.out _ _ ka_4).mono ?_
  rintro e w5 ⟨vs, rfl, hvs, hb5⟩
  have b5 := below_at b4 (Nat.le_refl _) hb5
  have ka_5 := ka_4.keep hb5
  have kb_5 := kb_4.keep hb5
  have kp_5 := kp_4.keep hb5
  have kq_5 := kq_4.keep hb5
  have ks_5 := hvs.is
  go_wp2_with (fail)
  refine (H72.out _ _ _ kp_5 kq_5).mono ?_
  rintro e w6 ⟨vm, rfl, hvm, hb6⟩
  have b6 := below_at b5 (Nat.le_refl _) hb6
  have ka_6 := ka_5.keep hb6
  have kb_6 := kb_5.keep hb6
  have ks_6 := ks_5.keep hb6
  have km_6 := hvm
  go_wp2_with (fail)
  refine (H70.out _ _ _ km_6 ks_6).mono ?_
  rintro e w7 ⟨rfl, hb7⟩
  have b7 := below_at b6 (Nat.le_refl _) hb7
  have ka_7 := ka_6.keep hb7
  have kb_7 := kb_6.keep hb7
  have ks_7 := ks_6.keep hb7
  go_wp2_with (fail)
  refine (lives_any _).mono ?_
  rintro e w8 ⟨rfl, hb8⟩
  have b8 := below_at b7 (Nat.le_refl _) hb8
  have ka_8 := ka_7.keep hb8
  have kb_8 := kb_7.keep hb8
  have ks_8 := ks_7.keep hb8
  go_wp2_with (fail)
  refine (H33.out _).mono ?_
  rintro e w9 ⟨vo, rfl, hvo, hb9⟩
  have b9 := below_at b8 (Nat.le_refl _) hb9
  have ka_9 := ka_8.keep hb9
  have kb_9 := kb_8.keep hb9
  have ks_9 := ks_8.keep hb9
  have ko_9 := hvo.is
  go_wp2_with (fail)
  refine (H54.out _ _ _ _ ka_9 ko_9 kb_9).mono ?_
  rintro e w10 ⟨vt, rfl, hvt, hb10⟩
  have b10 := below_at b9 (Nat.le_refl _) hb10
  have kb_10 := kb_9.keep hb10
  have ks_10 := ks_9.keep hb10
  have kt_10 := hvt.is
  go_wp2_with (fail)
  refine (H47.out _ _ _ ks_10 kb_10).mono ?_
  rintro e w11 ⟨q, r, rfl, hq, hr, hb11⟩
  have b11 := below_at b10 (Nat.le_refl _) hb11
  have kt_11 := kt_10.keep hb11
  have kr_11 := hr.is
  go_wp2_with (fail)
  refine (H70r.out _ _ _ kt_11 kr_11).mono ?_
  rintro e w12 ⟨rfl, hb12⟩
  have b12 := below_at b11 (Nat.le_refl _) hb12
  go_wp2
  go_ret
  exact ⟨rfl, b12⟩

/-- The law NatExponents, for whatever limbs and exponents. -/
theorem exps_walk (A A1 : Option Addr) (c c1 L L1 : Nat) (e0 e1 : Int) (xs ys : List Nat) (w : World) (hA : Nums .u32 w A xs) (hA1 : Nums .u32 w A1 ys) (hx : Low B32 xs) (hy : Low B32 ys) (hL : L = xs.length) (hL1 : L1 = ys.length) (hc : L ≤ c) (hc1 : L1 ≤ c1) (hnil : A = none → c = 0) (hnil1 : A1 = none → c1 = 0) : Calls Try.prog 23 #[.slice A L c, .slice A1 L1 c1, .agg #[.int .i64 e0, .int .i64 e1]] w (LivesPost w) := by
  by_cases h0 : val B32 (ys.take 4) = 0
  · exact exps_zero A A1 c c1 L L1 e0 e1 xs ys w hA hA1 hx hy hL hL1 hc hc1 hnil hnil1 h0
  · exact exps_pos A A1 c c1 L L1 e0 e1 xs ys w hA hA1 hx hy hL hL1 hc hc1 hnil hnil1 h0
end Go.Proofs.Ytaegkhdkhgemmaa

namespace Go.Proofs.Ytaegkhdkhgemmaa
open Go.RowKit Num

set_option maxHeartbeats 1000000 in
set_option maxRecDepth 100000 in
theorem fits_ok (a b : Value) (x y n k : Nat) (w : World) (ha : N32 w a x) (hb : N32 w b y) (hx : nbits x ≤ 8000) (hy : nbits y ≤ 8000) (hn : n ≤ 1000) (hk : k ≤ 1000) :
    Calls Try.prog 68 #[a, .int .i64 (n : Int), b, .int .i64 (k : Int)] w (Two w (.int .i64 (cmpN (x ^ n) (y ^ k))) (.int .i64 0)) := by
  have lx : (dig B32 x).length ≤ 250 := len32_of_bits (by omega)
  have ly : (dig B32 y).length ≤ 250 := len32_of_bits (by omega)
  have hc := checkAll_any w.heap.size 2 2 _ _ (nats2 (Limbs.num ha (by omega)) (Limbs.num hb (by omega))) rfl (by omega)
  rw [chkAll2, chk2, if_pos (chk_dig (by omega)), chk_dig (by omega)] at hc
  have hbA := below_new w (.cells #[a, b] 23)
  have h52 := fun w' (h : N32 w' a x) => pow_ok a x n w' h (by omega) hn hx
  have h52b := fun w' (h : N32 w' b y) => pow_ok b y k w' h (by omega) hk hy
  have lp : (dig B32 (x ^ n)).length ≤ 262144 := len32_of_bits (Nat.le_trans (nbits_pow_le x n) (by have := Nat.mul_le_mul hn hx; omega))
  have lq : (dig B32 (y ^ k)).length ≤ 262144 := len32_of_bits (Nat.le_trans (nbits_pow_le y k) (by have := Nat.mul_le_mul hk hy; omega))
  have h39 := fun u v w' (h : N32 w' u (x ^ n)) (l : N32 w' v (y ^ k)) => cmp_ok u v _ _ w' h l lp lq
  have ka0 := ha.keep hbA
  have kb0 := hb.keep hbA
  generalize cmpN (x ^ n) (y ^ k) = r at *
  have H52B := Lib.hid h52b
  have HC := Lib.hid hc
  have H52 := Lib.hid h52
  have H39 := Lib.hid h39
  have KA0 := Lib.hid ka0
  have KB0 := Lib.hid kb0
  clear hc h52 h39 ka0 kb0
  obtain ⟨A, c, rfl, _⟩ := ha
  obtain ⟨A', c', rfl, _⟩ := hb
  clear h52b lp lq lx ly hx hy
  generalize (dig B32 x).length = L at *
  generalize (dig B32 y).length = L' at *
  go_enter Try.func68, Try.ntmps68
  go_wp2_with (fail)
  refine (HC.out).mono ?_
  rintro e w1 ⟨rfl, rfl⟩
  go_wp2_with (fail)
  refine (H52.out _ KA0.out).mono ?_
  rintro e w2 ⟨vp, rfl, hvp, hb2⟩
  have b2 := below_at hbA (Nat.le_refl _) hb2
  have kb_2 := KB0.out.keep hb2
  have kp_2 := hvp.is
  go_wp2_with (fail)
  refine (H52B.out _ kb_2).mono ?_
  rintro e w3 ⟨vq, rfl, hvq, hb3⟩
  have b3 := below_at b2 (Nat.le_refl _) hb3
  have kp_3 := kp_2.keep hb3
  have kq_3 := hvq.is
  go_wp2_with (fail)
  refine (H39.out _ _ _ kp_3 kq_3).mono ?_
  rintro e w4 ⟨rfl, hb4⟩
  have b4 := below_at b3 (Nat.le_refl _) hb4
  go_wp2
  go_ret2
  exact ⟨rfl, b4⟩

set_option maxHeartbeats 2000000 in
set_option maxRecDepth 100000 in
/-- The law NatBetween, for whatever limbs and degree. -/
theorem between_walk (A : Option Addr) (c L : Nat) (n : Int) (xs : List Nat) (w : World) (hA : Nums .u32 w A xs) (hx : Low B32 xs) (hL : L = xs.length) (hc : L ≤ c) (hnil : A = none → c = 0) : Calls Try.prog 19 #[.slice A L c, .int .i64 n] w (LivesPost w) := by
  have hw1 := fun w' (h : Below w.heap.size w w') => whole_any A c L 40 xs w' (hA.keep h) hx hL hc hnil (by omega)
  have l1 : (dig B32 (val B32 (xs.take 40))).length ≤ 40 := whole_len hx 40
  generalize val B32 (xs.take 40) = m at *
  have lb : nbits m ≤ 1280 := Nat.le_trans (bits_of_len l1) (by omega)
  obtain ⟨k, hk, a1⟩ := and15_ex n
  obtain ⟨d, hd⟩ : ∃ d, k + 1 = d := ⟨_, rfl⟩
  have hdI : (k : Int) + 1 = (d : Int) := by omega
  have hd1 : 1 ≤ d := by omega
  have hd16 : d ≤ 16 := by omega
  obtain ⟨r, hr⟩ := root_exists d m hd1
  have hrm : r ≤ m := Nat.le_trans (Nat.le_self_pow (by omega) r) hr.1
  have lr : (dig B32 r).length ≤ 40 := Nat.le_trans (len_mono32 hrm) l1
  have lbr : nbits r ≤ 1280 := Nat.le_trans (bits_of_len lr) (by omega)
  have h56 : ∀ a w', N32 w' a m → Calls Try.prog 56 #[a, .int .i64 (d : Int)] w' (NatOk w' r) := fun a w' h => by
    rcases Nat.eq_zero_or_pos m with h0 | h0
    · have e : r = 0 := by omega
      rw [e]; exact root_zero a m _ w' h h0 (by omega)
    · exact root_ok a m d r w' h h0 hd1 (by omega) hr
  have l1r : (dig B32 (r + 1)).length ≤ 41 := len_add lr (Nat.le_trans (len_u64 (v := 1) (by decide)) (by omega))
  have lb1 : nbits (r + 1) ≤ 8000 := Nat.le_trans (bits_of_len l1r) (by omega)
  have h68 := fun a b w' (h : N32 w' a r) (j : N32 w' b m) => fits_ok a b r m d 1 w' h j (by omega) (by omega) (by omega) (by omega)
  have h68b := fun a b w' (h : N32 w' a (r + 1)) (j : N32 w' b m) => fits_ok a b (r + 1) m d 1 w' h j lb1 (by omega) (by omega) (by omega)
  rw [Nat.pow_one] at h68 h68b
  rw [cmpN_gt hr.2] at h68b
  have hcc : cmpN (r ^ d) m ≤ 0 := by
    rcases Nat.lt_or_ge (r ^ d) m with h | h
    · rw [cmpN_lt h]; omega
    · rw [show r ^ d = m from Nat.le_antisymm hr.1 h, cmpN_eq]; omega
  generalize cmpN (r ^ d) m = cc at *
  have h33 := fun w => of_any 1 (by decide) w
  have hl1 : (dig B32 1).length ≤ 2 := len_u64 (by decide)
  have h71 := fun a b w' (h : N32 w' a r) (j : N32 w' b 1) => add_n a b _ _ w' h j (by omega) (by omega)
  have HW1 := Lib.hid hw1
  have H56 := Lib.hid h56
  have H68 := Lib.hid h68
  have H68b := Lib.hid h68b
  have H33 := Lib.hid h33
  have H71 := Lib.hid h71
  clear hw1 h56 h68 h68b h33 h71
  clear hA hx hL hnil l1 lb hr hrm lr lbr l1r lb1 hl1 hd
  go_enter Try.func19, Try.ntmps19
  go_wp2_with (fail)
  refine (HW1.out _ (Below.refl _ _)).mono ?_
  rintro e w1 ⟨va, rfl, hva, hb1⟩
  have b1 := below_at (Below.refl _ _) (Nat.le_refl _) hb1
  have ka_1 := hva
  go_wp2_with (fail)
  refine (H56.out _ _ ka_1).mono ?_
  rintro e w2 ⟨vr, rfl, hvr, hb2⟩
  have b2 := below_at b1 (Nat.le_refl _) hb2
  have ka_2 := ka_1.keep hb2
  have kr_2 := hvr.is
  go_wp2_with (fail)
  refine (H68.out _ _ _ kr_2 ka_2).mono ?_
  rintro e w3 ⟨rfl, hb3⟩
  have b3 := below_at b2 (Nat.le_refl _) hb3
  have ka_3 := ka_2.keep hb3
  have kr_3 := kr_2.keep hb3
  go_wp2_with (fail)
  refine (H33.out _).mono ?_
  rintro e w4 ⟨vo, rfl, hvo, hb4⟩
  have b4 := below_at b3 (Nat.le_refl _) hb4
  have ka_4 := ka_3.keep hb4
  have kr_4 := kr_3.keep hb4
  have ko_4 := hvo.is
  go_wp2_with (fail)
  refine (H71.out _ _ _ kr_4 ko_4).mono ?_
  rintro e w5 ⟨vs, rfl, hvs, hb5⟩
  have b5 := below_at b4 (Nat.le_refl _) hb5
  have ka_5 := ka_4.keep hb5
  have ks_5 := hvs
  go_wp2_with (fail)
  refine (H68b.out _ _ _ ks_5 ka_5).mono ?_
  rintro e w6 ⟨rfl, hb6⟩
  have b6 := below_at b5 (Nat.le_refl _) hb6
  go_wp2_with (fail)
  refine (lives_any _).mono ?_
  rintro e w7 ⟨rfl, hb7⟩
  have b7 := below_at b6 (Nat.le_refl _) hb7
  go_wp2
  go_ret
  exact ⟨rfl, b7⟩

end Go.Proofs.Ytaegkhdkhgemmaa
