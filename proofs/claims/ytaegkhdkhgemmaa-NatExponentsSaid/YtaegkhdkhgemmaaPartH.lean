/- Part of the proof of NatExponents: PowersW, Whole, RingW, SquaresW. -/
import Derived.Test.YtaegkhdkhgemmaaPartF
import Derived.Test.YtaegkhdkhgemmaaPartE
import Derived.Test.YtaegkhdkhgemmaaPartG
import Derived.Test.YtaegkhdkhgemmaaPartD
namespace Go.Proofs.Ytaegkhdkhgemmaa
open Go.RowKit Num

set_option maxHeartbeats 1000000 in
set_option maxRecDepth 100000 in
theorem pow_bad (a : Value) (n : Int) (xs : List Nat) (w : World) (ha : Limbs w a xs) (h0 : chk xs ≠ 0) : Calls Try.prog 52 #[a, .int .i64 n] w (NatErr w (chk xs)) := by
  have hc := checkAll_any w.heap.size 1 1 _ _ (nats1 ha) rfl (by omega)
  rw [chkAll1] at hc
  generalize chk xs = r at *
  have hbA := below_new w (.cells #[a] 23)
  have hq : (r != 0) = true := by simp [h0]
  have HC := Lib.hid hc
  have H0 := Lib.hid h0
  obtain ⟨A, c, rfl, _⟩ := ha
  clear hc h0
  generalize xs.length = L at *
  go_enter Try.func52, Try.ntmps52
  go_wp2_with (go_at_call 75; refine HC.out.mono ?_; rintro e w1 ⟨rfl, rfl⟩)
  go_ret2
  exact ⟨rfl, hbA⟩

set_option maxHeartbeats 1000000 in
set_option maxRecDepth 100000 in
theorem pow_arg (a : Value) (m : Nat) (n : Int) (w : World) (ha : N32 w a m) (hl : (dig B32 m).length ≤ 262144) (hn : n < 0) : Calls Try.prog 52 #[a, .int .i64 n] w (NatErr w 1) := by
  have hc := checkAll_any w.heap.size 1 1 _ _ (nats1 (Limbs.num ha (by omega))) rfl (by omega)
  rw [chkAll1, chk_dig hl] at hc
  have hbA := below_new w (.cells #[a] 23)
  have HC := Lib.hid hc
  obtain ⟨A, c, rfl, _⟩ := ha
  clear hc
  generalize (dig B32 m).length = L at *
  go_enter Try.func52, Try.ntmps52
  go_wp2_with (go_at_call 75; refine HC.out.mono ?_; rintro e w1 ⟨rfl, rfl⟩)
  go_ret2
  exact ⟨rfl, hbA⟩

set_option maxHeartbeats 1000000 in
set_option maxRecDepth 100000 in
theorem pow_s (a : Value) (m n : Nat) (w : World) (ha : N32 w a m) (hl : (dig B32 m).length ≤ 262144) (hn : n < 9223372036854775808) (hs : nbits m ≤ 1) (hp : ∀ j, j ≤ n → nbits (m ^ j) ≤ 8388608) : Calls Try.prog 52 #[a, .int .i64 (n : Int)] w (NatOk w (m ^ n)) := by
  have hc := checkAll_any w.heap.size 1 1 _ _ (nats1 (Limbs.num ha (by omega))) rfl (by omega)
  rw [chkAll1, chk_dig hl] at hc
  have hbA := below_new w (.cells #[a] 23)
  have HC := Lib.hid hc
  have hf := fromNat_any a m _ (ha.keep hbA) (by omega)
  have lm := words_le (n := m) (K := 131072) hl
  have hbt := fun v w' (h : W64 w' v m) => bits_call v m w' h (by omega)
  have hpw := fun v w' (h : W64 w' v m) => power_any (mulSpec_all 131072 (by omega)) v m n w' h hn lm (fun j hj => len_of_bits (hp j hj))
  have hft := fun v w' (h : W64 w' v (m ^ n)) => fit_ok v (m ^ n) w' h (hp n (Nat.le_refl _))
  have h2 := len_bits_le (n := m) (k := 131072) lm
  have HF := Lib.hid hf
  have HBT := Lib.hid hbt
  have HPW := Lib.hid hpw
  have HFT := Lib.hid hft
  obtain ⟨A, c, rfl, _⟩ := ha
  clear hc hf hbt hpw hft lm hp hn
  generalize nbits m = r at *
  have hle : r ≤ 1 := hs
  clear hs
  generalize (dig B32 m).length = L at *
  go_enter Try.func52, Try.ntmps52
  go_wp2_with (fail)
  refine (HC.out).mono ?_
  rintro e w1 ⟨rfl, rfl⟩
  go_wp2_with (fail)
  refine (HF.out).mono ?_
  rintro e w2 ⟨v1, rfl, hv1, hb2⟩
  have b2 := below_at hbA (Nat.le_refl _) hb2
  have k1_2 := hv1.is
  go_wp2_with (fail)
  refine (HBT.out _ _ k1_2).mono ?_
  rintro e w3 ⟨rfl, rfl⟩
  go_wp2_with (fail)
  refine (HPW.out _ _ k1_2).mono ?_
  rintro e w4 ⟨v2, rfl, hv2, hb4⟩
  have b4 := below_at b2 (Nat.le_refl _) hb4
  have k1_4 := k1_2.keep hb4
  have k2_4 := hv2.is
  go_wp2_with (fail)
  refine (HFT.out _ _ k2_4).mono ?_
  rintro e w5 ⟨v3, rfl, hv3, hb5⟩
  have b5 := below_at b4 (Nat.le_refl _) hb5
  have k1_5 := k1_4.keep hb5
  have k2_5 := k2_4.keep hb5
  go_wp2
  go_ret2
  exact ⟨_, rfl, hv3.mono b4.size, b5⟩

set_option maxHeartbeats 1000000 in
set_option maxRecDepth 100000 in
theorem pow_b (a : Value) (m n : Nat) (w : World) (ha : N32 w a m) (hl : (dig B32 m).length ≤ 262144) (hn : n < 9223372036854775808) (hs : 1 < nbits m) (hs2 : n ≤ 8388607 / (nbits m - 1)) (hp : ∀ j, j ≤ n → nbits (m ^ j) ≤ 8388608) : Calls Try.prog 52 #[a, .int .i64 (n : Int)] w (NatOk w (m ^ n)) := by
  have hc := checkAll_any w.heap.size 1 1 _ _ (nats1 (Limbs.num ha (by omega))) rfl (by omega)
  rw [chkAll1, chk_dig hl] at hc
  have hbA := below_new w (.cells #[a] 23)
  have HC := Lib.hid hc
  have hf := fromNat_any a m _ (ha.keep hbA) (by omega)
  have lm := words_le (n := m) (K := 131072) hl
  have hbt := fun v w' (h : W64 w' v m) => bits_call v m w' h (by omega)
  have hpw := fun v w' (h : W64 w' v m) => power_any (mulSpec_all 131072 (by omega)) v m n w' h hn lm (fun j hj => len_of_bits (hp j hj))
  have hft := fun v w' (h : W64 w' v (m ^ n)) => fit_ok v (m ^ n) w' h (hp n (Nat.le_refl _))
  have h2 := len_bits_le (n := m) (k := 131072) lm
  have HF := Lib.hid hf
  have HBT := Lib.hid hbt
  have HPW := Lib.hid hpw
  have HFT := Lib.hid hft
  obtain ⟨A, c, rfl, _⟩ := ha
  clear hc hf hbt hpw hft lm hp hn
  generalize nbits m = r at *
  obtain ⟨d, hd⟩ : ∃ d, r = d + 1 := ⟨r - 1, by omega⟩
  subst hd
  obtain ⟨q, hq⟩ : ∃ q, 8388607 / (d + 1 - 1) = q := ⟨_, rfl⟩
  rw [hq] at hs2
  rw [Nat.add_sub_cancel] at hq
  have hd1 : ((d + 1 : Nat) : Int) - 1 = (d : Int) := by omega
  have q1 : (8388607 : Int) / (d : Int) = (q : Int) := by rw [← hq]; exact (Int.natCast_ediv _ _).symm
  have q2 : (8388607 : Int).tdiv (d : Int) = (q : Int) := by rw [Int.tdiv_eq_ediv_of_nonneg (by omega)]; exact q1
  have q3 : ((d : Int) == 0) = false := by simp; omega
  have hqb : q ≤ 8388607 := by rw [← hq]; exact Nat.div_le_self _ _
  clear hq
  generalize (dig B32 m).length = L at *
  go_enter Try.func52, Try.ntmps52
  go_wp2_with (fail)
  refine (HC.out).mono ?_
  rintro e w1 ⟨rfl, rfl⟩
  go_wp2_with (fail)
  refine (HF.out).mono ?_
  rintro e w2 ⟨v1, rfl, hv1, hb2⟩
  have b2 := below_at hbA (Nat.le_refl _) hb2
  have k1_2 := hv1.is
  go_wp2_with (fail)
  refine (HBT.out _ _ k1_2).mono ?_
  rintro e w3 ⟨rfl, rfl⟩
  go_wp2_with (fail)
  refine (HPW.out _ _ k1_2).mono ?_
  rintro e w4 ⟨v2, rfl, hv2, hb4⟩
  have b4 := below_at b2 (Nat.le_refl _) hb4
  have k1_4 := k1_2.keep hb4
  have k2_4 := hv2.is
  go_wp2_with (fail)
  refine (HFT.out _ _ k2_4).mono ?_
  rintro e w5 ⟨v3, rfl, hv3, hb5⟩
  have b5 := below_at b4 (Nat.le_refl _) hb5
  have k1_5 := k1_4.keep hb5
  have k2_5 := k2_4.keep hb5
  go_wp2
  go_ret2
  exact ⟨_, rfl, hv3.mono b4.size, b5⟩

theorem nbits_pow_le (m j : Nat) : nbits (m ^ j) ≤ j * nbits m + 1 := by
  refine nbits_le ?_
  have h1 : m ^ j ≤ (2 ^ nbits m) ^ j := Nat.pow_le_pow_left (Nat.le_of_lt (nbits_lt m)) j
  rw [← Nat.pow_mul, Nat.mul_comm] at h1
  exact Nat.lt_of_le_of_lt h1 (Nat.pow_lt_pow_right (by omega) (by omega))
/-- Powers that stay short. -/
theorem pow_ok (a : Value) (m n : Nat) (w : World) (ha : N32 w a m) (hl : (dig B32 m).length ≤ 262144) (hn : n ≤ 1000) (hb : nbits m ≤ 8000) : Calls Try.prog 52 #[a, .int .i64 (n : Int)] w (NatOk w (m ^ n)) := by
  have hp : ∀ j, j ≤ n → nbits (m ^ j) ≤ 8388608 := fun j hj => Nat.le_trans (nbits_pow_le m j) (by have := Nat.mul_le_mul (Nat.le_trans hj hn) hb; omega)
  rcases Nat.lt_or_ge 1 (nbits m) with h | h
  · refine pow_b a m n w ha hl (by omega) h ?_ hp
    refine (Nat.le_div_iff_mul_le (by omega)).2 ?_
    have := Nat.mul_le_mul hn (show nbits m - 1 ≤ 8000 by omega)
    omega
  · exact pow_s a m n w ha hl (by omega) h hp
theorem len32_of_bits {n k : Nat} (h : nbits n ≤ 32 * k) : (dig B32 n).length ≤ k := dig_len_le b32_two (by
  have e : B32 ^ k = 2 ^ (32 * k) := by rw [Nat.pow_mul]; rfl
  rw [e]; exact lt_of_nbits h)
/-- Powers of 0 and of 1. -/
theorem pow_01 (a : Value) (m n : Nat) (w : World) (ha : N32 w a m) (hm : m ≤ 1) (h0 : 0 < n) (hn : n < 9223372036854775808) : Calls Try.prog 52 #[a, .int .i64 (n : Int)] w (NatOk w m) := by
  have e : ∀ j, 0 < j → m ^ j = m := fun j hj => by
    rcases Nat.eq_zero_or_pos m with h | h
    · subst h; exact Nat.zero_pow hj
    · obtain rfl : m = 1 := by omega
      exact Nat.one_pow j
  have hb : nbits m ≤ 1 := nbits_le (by omega)
  have := pow_s a m n w ha (Nat.le_trans (small32 (k := m) (by unfold B32; omega)) (by omega)) hn hb (fun j _ => by
    rcases Nat.eq_zero_or_pos j with hj | hj
    · subst hj; exact Nat.le_trans (nbits_le (k := 1) (by rw [Nat.pow_zero]; omega)) (by omega)
    · rw [e j hj]; omega)
  rw [e n h0] at this
  exact this

set_option maxHeartbeats 2000000 in
set_option maxRecDepth 100000 in
theorem powers_bad_single_le (A : Option Addr) (c L : Nat) (n : Int) (xs : List Nat) (w : World) (hA : Nums .u32 w A xs) (hL : L = xs.length) (hc : L ≤ c) (hnil : A = none → c = 0) (hbad : chk (xs.take 6) ≠ 0) (hD1 : (xs.take 6).length = 1) (h00 : (xs.take 6)[0]? = some 0) (hn : n ≤ 60) : Calls Try.prog 8 #[.slice A L c, .int .i64 n] w (LivesPost w) := by
  have hcut := fun w' (h : Below w.heap.size w w') => cut_any A c L 6 xs w' (hA.keep h) hL hc hnil (by omega)
  have l1 : (xs.take 6).length ≤ 6 := by rw [List.length_take]; omega
  generalize xs.take 6 = us at *
  have hlu : ∀ B w' a, OwnLs B w' a us → Limbs w' a us := fun B w' a h => h.limbs (by omega)
  have h27 := fun a w h => refCheck_l a us w h
  have h52 := fun a k w h => pow_bad a k us w h hbad
  generalize chk us = r at *
  have hq : (r == 0) = false := by simp [hbad]
  have hq1 : (r != 0) = true := by simp [hbad]
  have h41 := fun b w => is_err b r w hbad
  obtain ⟨D, hD⟩ : ∃ D, us.length = D := ⟨_, rfl⟩
  rw [hD] at hD1 l1
  subst hD1
  have HCUT := Lib.hid hcut
  have HLU := Lib.hid hlu
  have H27 := Lib.hid h27
  have H52 := Lib.hid h52
  have H41 := Lib.hid h41
  have HBAD := Lib.hid hbad
  have HD := Lib.hid hD
  have H00 := Lib.hid h00
  clear hcut hlu h27 h52 h41 hbad hD h00
  clear hA hL hnil l1
  go_enter Try.func8, Try.ntmps8
  go_wp2_with (fail)
  refine (HCUT.out _ (Below.refl _ _)).mono ?_
  rintro e w1 ⟨va, rfl, hva, hb1⟩
  have b1 := below_at (Below.refl _ _) (Nat.le_refl _) hb1
  have ka_1 := HLU.out _ _ _ hva
  have kk := ka_1
  obtain ⟨A1, c1, hve, hq1', _, hA1⟩ := kk
  rw [HD.out] at hve hq1'
  subst hve
  obtain ⟨g, off, v, rfl, hg, hv0, hcv⟩ := hA1.at_ (i := 0) (by rw [HD.out]; omega)
  rw [Nat.add_zero] at hcv
  have hv1 : v = 0 := by have := H00.out; rw [hv0] at this; injection this
  subst hv1
  clear hv0 hA1
  go_wp2_with (fail)
  refine (H27.out _ _ ka_1).mono ?_
  rintro e w2 ⟨rfl, rfl⟩
  go_wp2_with (fail)
  refine (H52.out _ _ _ ka_1).mono ?_
  rintro e w3 ⟨rfl, hb3⟩
  have b3 := below_at b1 (Nat.le_refl _) hb3
  have ka_3 := ka_1.keep hb3
  go_wp2_with (fail)
  refine (lives_any _).mono ?_
  rintro e w4 ⟨rfl, hb4⟩
  have b4 := below_at b3 (Nat.le_refl _) hb4
  have ka_4 := ka_3.keep hb4
  go_wp2_with (fail)
  refine (H41.out _ _).mono ?_
  rintro e w5 ⟨rfl, hb5⟩
  have b5 := below_at b4 (Nat.le_refl _) hb5
  have ka_5 := ka_4.keep hb5
  go_wp2
  go_ret
  exact ⟨rfl, b5⟩

set_option maxHeartbeats 2000000 in
set_option maxRecDepth 100000 in
theorem powers_bad_single_gt (A : Option Addr) (c L : Nat) (n : Int) (xs : List Nat) (w : World) (hA : Nums .u32 w A xs) (hL : L = xs.length) (hc : L ≤ c) (hnil : A = none → c = 0) (hbad : chk (xs.take 6) ≠ 0) (hD1 : (xs.take 6).length = 1) (h00 : (xs.take 6)[0]? = some 0) (hn : 60 < n) : Calls Try.prog 8 #[.slice A L c, .int .i64 n] w (LivesPost w) := by
  have hcut := fun w' (h : Below w.heap.size w w') => cut_any A c L 6 xs w' (hA.keep h) hL hc hnil (by omega)
  have l1 : (xs.take 6).length ≤ 6 := by rw [List.length_take]; omega
  generalize xs.take 6 = us at *
  have hlu : ∀ B w' a, OwnLs B w' a us → Limbs w' a us := fun B w' a h => h.limbs (by omega)
  have h27 := fun a w h => refCheck_l a us w h
  have h52 := fun a k w h => pow_bad a k us w h hbad
  generalize chk us = r at *
  have hq : (r == 0) = false := by simp [hbad]
  have hq1 : (r != 0) = true := by simp [hbad]
  have h41 := fun b w => is_err b r w hbad
  obtain ⟨D, hD⟩ : ∃ D, us.length = D := ⟨_, rfl⟩
  rw [hD] at hD1 l1
  subst hD1
  obtain ⟨k, hk⟩ : ∃ k, n % 61 = k := ⟨_, rfl⟩
  have q1 : n.tmod 61 = k := by rw [Int.tmod_eq_emod_of_nonneg (by omega)]; exact hk
  have HCUT := Lib.hid hcut
  have HLU := Lib.hid hlu
  have H27 := Lib.hid h27
  have H52 := Lib.hid h52
  have H41 := Lib.hid h41
  have HBAD := Lib.hid hbad
  have HD := Lib.hid hD
  have H00 := Lib.hid h00
  clear hcut hlu h27 h52 h41 hbad hD h00
  clear hA hL hnil l1
  go_enter Try.func8, Try.ntmps8
  go_wp2_with (fail)
  refine (HCUT.out _ (Below.refl _ _)).mono ?_
  rintro e w1 ⟨va, rfl, hva, hb1⟩
  have b1 := below_at (Below.refl _ _) (Nat.le_refl _) hb1
  have ka_1 := HLU.out _ _ _ hva
  have kk := ka_1
  obtain ⟨A1, c1, hve, hq1', _, hA1⟩ := kk
  rw [HD.out] at hve hq1'
  subst hve
  obtain ⟨g, off, v, rfl, hg, hv0, hcv⟩ := hA1.at_ (i := 0) (by rw [HD.out]; omega)
  rw [Nat.add_zero] at hcv
  have hv1 : v = 0 := by have := H00.out; rw [hv0] at this; injection this
  subst hv1
  clear hv0 hA1
  go_wp2_with (fail)
  refine (H27.out _ _ ka_1).mono ?_
  rintro e w2 ⟨rfl, rfl⟩
  go_wp2_with (fail)
  refine (H52.out _ _ _ ka_1).mono ?_
  rintro e w3 ⟨rfl, hb3⟩
  have b3 := below_at b1 (Nat.le_refl _) hb3
  have ka_3 := ka_1.keep hb3
  go_wp2_with (fail)
  refine (lives_any _).mono ?_
  rintro e w4 ⟨rfl, hb4⟩
  have b4 := below_at b3 (Nat.le_refl _) hb4
  have ka_4 := ka_3.keep hb4
  go_wp2_with (fail)
  refine (H41.out _ _).mono ?_
  rintro e w5 ⟨rfl, hb5⟩
  have b5 := below_at b4 (Nat.le_refl _) hb5
  have ka_5 := ka_4.keep hb5
  go_wp2
  go_ret
  exact ⟨rfl, b5⟩

set_option maxHeartbeats 2000000 in
set_option maxRecDepth 100000 in
theorem powers_bad_multi_le (A : Option Addr) (c L : Nat) (n : Int) (xs : List Nat) (w : World) (hA : Nums .u32 w A xs) (hL : L = xs.length) (hc : L ≤ c) (hnil : A = none → c = 0) (hbad : chk (xs.take 6) ≠ 0) (hD2 : 2 ≤ (xs.take 6).length) (hn : n ≤ 60) : Calls Try.prog 8 #[.slice A L c, .int .i64 n] w (LivesPost w) := by
  have hcut := fun w' (h : Below w.heap.size w w') => cut_any A c L 6 xs w' (hA.keep h) hL hc hnil (by omega)
  have l1 : (xs.take 6).length ≤ 6 := by rw [List.length_take]; omega
  generalize xs.take 6 = us at *
  have hlu : ∀ B w' a, OwnLs B w' a us → Limbs w' a us := fun B w' a h => h.limbs (by omega)
  have h27 := fun a w h => refCheck_l a us w h
  have h52 := fun a k w h => pow_bad a k us w h hbad
  generalize chk us = r at *
  have hq : (r == 0) = false := by simp [hbad]
  have hq1 : (r != 0) = true := by simp [hbad]
  have h41 := fun b w => is_err b r w hbad
  obtain ⟨D, hD⟩ : ∃ D, us.length = D := ⟨_, rfl⟩
  rw [hD] at hD2 l1
  have hz0 : ((D : Int) == 0) = false := by simp; omega
  have hz1 : ((D : Int) == 1) = false := by simp; omega
  have HCUT := Lib.hid hcut
  have HLU := Lib.hid hlu
  have H27 := Lib.hid h27
  have H52 := Lib.hid h52
  have H41 := Lib.hid h41
  have HBAD := Lib.hid hbad
  have HD := Lib.hid hD
  clear hcut hlu h27 h52 h41 hbad hD
  clear hA hL hnil l1
  go_enter Try.func8, Try.ntmps8
  go_wp2_with (fail)
  refine (HCUT.out _ (Below.refl _ _)).mono ?_
  rintro e w1 ⟨va, rfl, hva, hb1⟩
  have b1 := below_at (Below.refl _ _) (Nat.le_refl _) hb1
  have ka_1 := HLU.out _ _ _ hva
  have kk := ka_1
  obtain ⟨A1, c1, hve, hq1', _, hA1⟩ := kk
  rw [HD.out] at hve hq1'
  subst hve
  go_wp2_with (fail)
  refine (H27.out _ _ ka_1).mono ?_
  rintro e w2 ⟨rfl, rfl⟩
  go_wp2_with (fail)
  refine (H52.out _ _ _ ka_1).mono ?_
  rintro e w3 ⟨rfl, hb3⟩
  have b3 := below_at b1 (Nat.le_refl _) hb3
  have ka_3 := ka_1.keep hb3
  go_wp2_with (fail)
  refine (lives_any _).mono ?_
  rintro e w4 ⟨rfl, hb4⟩
  have b4 := below_at b3 (Nat.le_refl _) hb4
  have ka_4 := ka_3.keep hb4
  go_wp2_with (fail)
  refine (H41.out _ _).mono ?_
  rintro e w5 ⟨rfl, hb5⟩
  have b5 := below_at b4 (Nat.le_refl _) hb5
  have ka_5 := ka_4.keep hb5
  go_wp2
  go_ret
  exact ⟨rfl, b5⟩

set_option maxHeartbeats 2000000 in
set_option maxRecDepth 100000 in
theorem powers_bad_multi_gt (A : Option Addr) (c L : Nat) (n : Int) (xs : List Nat) (w : World) (hA : Nums .u32 w A xs) (hL : L = xs.length) (hc : L ≤ c) (hnil : A = none → c = 0) (hbad : chk (xs.take 6) ≠ 0) (hD2 : 2 ≤ (xs.take 6).length) (hn : 60 < n) : Calls Try.prog 8 #[.slice A L c, .int .i64 n] w (LivesPost w) := by
  have hcut := fun w' (h : Below w.heap.size w w') => cut_any A c L 6 xs w' (hA.keep h) hL hc hnil (by omega)
  have l1 : (xs.take 6).length ≤ 6 := by rw [List.length_take]; omega
  generalize xs.take 6 = us at *
  have hlu : ∀ B w' a, OwnLs B w' a us → Limbs w' a us := fun B w' a h => h.limbs (by omega)
  have h27 := fun a w h => refCheck_l a us w h
  have h52 := fun a k w h => pow_bad a k us w h hbad
  generalize chk us = r at *
  have hq : (r == 0) = false := by simp [hbad]
  have hq1 : (r != 0) = true := by simp [hbad]
  have h41 := fun b w => is_err b r w hbad
  obtain ⟨D, hD⟩ : ∃ D, us.length = D := ⟨_, rfl⟩
  rw [hD] at hD2 l1
  have hz0 : ((D : Int) == 0) = false := by simp; omega
  have hz1 : ((D : Int) == 1) = false := by simp; omega
  obtain ⟨k, hk⟩ : ∃ k, n % 61 = k := ⟨_, rfl⟩
  have q1 : n.tmod 61 = k := by rw [Int.tmod_eq_emod_of_nonneg (by omega)]; exact hk
  have HCUT := Lib.hid hcut
  have HLU := Lib.hid hlu
  have H27 := Lib.hid h27
  have H52 := Lib.hid h52
  have H41 := Lib.hid h41
  have HBAD := Lib.hid hbad
  have HD := Lib.hid hD
  clear hcut hlu h27 h52 h41 hbad hD
  clear hA hL hnil l1
  go_enter Try.func8, Try.ntmps8
  go_wp2_with (fail)
  refine (HCUT.out _ (Below.refl _ _)).mono ?_
  rintro e w1 ⟨va, rfl, hva, hb1⟩
  have b1 := below_at (Below.refl _ _) (Nat.le_refl _) hb1
  have ka_1 := HLU.out _ _ _ hva
  have kk := ka_1
  obtain ⟨A1, c1, hve, hq1', _, hA1⟩ := kk
  rw [HD.out] at hve hq1'
  subst hve
  go_wp2_with (fail)
  refine (H27.out _ _ ka_1).mono ?_
  rintro e w2 ⟨rfl, rfl⟩
  go_wp2_with (fail)
  refine (H52.out _ _ _ ka_1).mono ?_
  rintro e w3 ⟨rfl, hb3⟩
  have b3 := below_at b1 (Nat.le_refl _) hb3
  have ka_3 := ka_1.keep hb3
  go_wp2_with (fail)
  refine (lives_any _).mono ?_
  rintro e w4 ⟨rfl, hb4⟩
  have b4 := below_at b3 (Nat.le_refl _) hb4
  have ka_4 := ka_3.keep hb4
  go_wp2_with (fail)
  refine (H41.out _ _).mono ?_
  rintro e w5 ⟨rfl, hb5⟩
  have b5 := below_at b4 (Nat.le_refl _) hb5
  have ka_5 := ka_4.keep hb5
  go_wp2
  go_ret
  exact ⟨rfl, b5⟩

set_option maxHeartbeats 2000000 in
set_option maxRecDepth 100000 in
theorem powers_zero_neg (A : Option Addr) (c L : Nat) (n : Int) (xs : List Nat) (w : World) (hA : Nums .u32 w A xs) (hL : L = xs.length) (hc : L ≤ c) (hnil : A = none → c = 0) (m : Nat) (hm : xs.take 6 = dig B32 m) (hm0 : m = 0) (hn : n < 0) : Calls Try.prog 8 #[.slice A L c, .int .i64 n] w (LivesPost w) := by
  have hcut := fun w' (h : Below w.heap.size w w') => cut_any A c L 6 xs w' (hA.keep h) hL hc hnil (by omega)
  have l1 : (xs.take 6).length ≤ 6 := by rw [List.length_take]; omega
  rw [hm] at hcut l1
  have lb : nbits m ≤ 192 := Nat.le_trans (bits_of_len l1) (by omega)
  have hlu : ∀ B w' a, OwnLs B w' a (dig B32 m) → Limbs w' a (dig B32 m) := fun B w' a h => h.limbs (by omega)
  have h27 := fun a w h => refCheck_l a (dig B32 m) w h
  rw [chk_dig (by omega)] at h27
  have h52 := fun a w' (h : Limbs w' a (dig B32 m)) => pow_arg a m n w' h.is (by omega) hn
  have h41 := fun b w => is_err b 1 w (by omega)
  obtain ⟨D, hD⟩ : ∃ D, (dig B32 m).length = D := ⟨_, rfl⟩
  have hd0 : D = 0 := by rw [← hD, hm0, dig_zero]; rfl
  subst hd0
  have HM0 := Lib.hid hm0
  clear hm0
  have HCUT := Lib.hid hcut
  have HLU := Lib.hid hlu
  have H27 := Lib.hid h27
  have H52 := Lib.hid h52
  have H41 := Lib.hid h41
  have HD := Lib.hid hD
  clear hcut hlu h27 h52 h41 hD
  clear hA hL hnil l1 hm lb
  go_enter Try.func8, Try.ntmps8
  go_wp2_with (fail)
  refine (HCUT.out _ (Below.refl _ _)).mono ?_
  rintro e w1 ⟨va, rfl, hva, hb1⟩
  have b1 := below_at (Below.refl _ _) (Nat.le_refl _) hb1
  have ka_1 := HLU.out _ _ _ hva
  have kk := ka_1
  obtain ⟨A1, c1, hve, hq1', _, hA1⟩ := kk
  rw [HD.out] at hve hq1'
  subst hve
  go_wp2_with (fail)
  refine (H27.out _ _ ka_1).mono ?_
  rintro e w2 ⟨rfl, rfl⟩
  go_wp2_with (fail)
  refine (H52.out _ _ ka_1).mono ?_
  rintro e w3 ⟨rfl, hb3⟩
  have b3 := below_at b1 (Nat.le_refl _) hb3
  have ka_3 := ka_1.keep hb3
  go_wp2_with (fail)
  refine (lives_any _).mono ?_
  rintro e w4 ⟨rfl, hb4⟩
  have b4 := below_at b3 (Nat.le_refl _) hb4
  have ka_4 := ka_3.keep hb4
  go_wp2_with (fail)
  refine (H41.out _ _).mono ?_
  rintro e w5 ⟨rfl, hb5⟩
  have b5 := below_at b4 (Nat.le_refl _) hb5
  have ka_5 := ka_4.keep hb5
  go_wp2
  go_ret
  exact ⟨rfl, b5⟩

set_option maxHeartbeats 2000000 in
set_option maxRecDepth 100000 in
theorem powers_zero_0 (A : Option Addr) (c L : Nat) (n : Int) (xs : List Nat) (w : World) (hA : Nums .u32 w A xs) (hL : L = xs.length) (hc : L ≤ c) (hnil : A = none → c = 0) (m : Nat) (hm : xs.take 6 = dig B32 m) (hm0 : m = 0) (hn : n = 0) : Calls Try.prog 8 #[.slice A L c, .int .i64 n] w (LivesPost w) := by
  have hcut := fun w' (h : Below w.heap.size w w') => cut_any A c L 6 xs w' (hA.keep h) hL hc hnil (by omega)
  have l1 : (xs.take 6).length ≤ 6 := by rw [List.length_take]; omega
  rw [hm] at hcut l1
  have lb : nbits m ≤ 192 := Nat.le_trans (bits_of_len l1) (by omega)
  have hlu : ∀ B w' a, OwnLs B w' a (dig B32 m) → Limbs w' a (dig B32 m) := fun B w' a h => h.limbs (by omega)
  have h27 := fun a w h => refCheck_l a (dig B32 m) w h
  rw [chk_dig (by omega)] at h27
  have h52 : ∀ a w', Limbs w' a (dig B32 m) → Calls Try.prog 52 #[a, .int .i64 0] w' (NatOk w' 1) := fun a w' h => pow_ok a m 0 w' h.is (by omega) (by omega) (by omega)
  have h34 := fun w => refOf_any 1 (by decide) w
  have hl1 : (dig B32 1).length ≤ 2 := len_u64 (by decide)
  have h41 : ∀ (B : Nat) (a : Value) (w' : World), N32 w' a 1 → ∀ b, OwnLs B w' b (dig B32 1) → Calls Try.prog 41 #[a, .int .i64 0, b, .int .i64 0] w' (LivesPost w') := fun B a w' h b kk => is_ok a b 1 w' h (kk.limbs (by omega)) (by omega)
  obtain ⟨D, hD⟩ : ∃ D, (dig B32 m).length = D := ⟨_, rfl⟩
  have hd0 : D = 0 := by rw [← hD, hm0, dig_zero]; rfl
  subst hd0
  subst hn
  have HM0 := Lib.hid hm0
  clear hm0
  have HCUT := Lib.hid hcut
  have HLU := Lib.hid hlu
  have H27 := Lib.hid h27
  have H52 := Lib.hid h52
  have H41 := Lib.hid h41
  have HD := Lib.hid hD
  have H34 := Lib.hid h34
  clear hcut hlu h27 h52 h41 hD h34
  clear hA hL hnil l1 hm lb hl1
  go_enter Try.func8, Try.ntmps8
  go_wp2_with (fail)
  refine (HCUT.out _ (Below.refl _ _)).mono ?_
  rintro e w1 ⟨va, rfl, hva, hb1⟩
  have b1 := below_at (Below.refl _ _) (Nat.le_refl _) hb1
  have ka_1 := HLU.out _ _ _ hva
  have kk := ka_1
  obtain ⟨A1, c1, hve, hq1', _, hA1⟩ := kk
  rw [HD.out] at hve hq1'
  subst hve
  go_wp2_with (fail)
  refine (H27.out _ _ ka_1).mono ?_
  rintro e w2 ⟨rfl, rfl⟩
  go_wp2_with (fail)
  refine (H52.out _ _ ka_1).mono ?_
  rintro e w3 ⟨vs, rfl, hvs, hb3⟩
  have b3 := below_at b1 (Nat.le_refl _) hb3
  have ks_3 := hvs.is
  go_wp2_with (fail)
  refine (lives_any _).mono ?_
  rintro e w4 ⟨rfl, hb4⟩
  have b4 := below_at b3 (Nat.le_refl _) hb4
  have ks_4 := ks_3.keep hb4
  go_wp2_with (fail)
  refine (H34.out _).mono ?_
  rintro e w5 ⟨vr, rfl, hvr, hb5⟩
  have b5 := below_at b4 (Nat.le_refl _) hb5
  have ks_5 := ks_4.keep hb5
  go_wp2_with (fail)
  refine (H41.out _ _ _ ks_5 _ hvr).mono ?_
  rintro e w6 ⟨rfl, hb6⟩
  have b6 := below_at b5 (Nat.le_refl _) hb6
  go_wp2
  go_ret
  exact ⟨rfl, b6⟩

set_option maxHeartbeats 2000000 in
set_option maxRecDepth 100000 in
theorem powers_zero_pos (A : Option Addr) (c L : Nat) (n : Int) (xs : List Nat) (w : World) (hA : Nums .u32 w A xs) (hL : L = xs.length) (hc : L ≤ c) (hnil : A = none → c = 0) (m : Nat) (hm : xs.take 6 = dig B32 m) (hm0 : m = 0) (k : Nat) (hk0 : 0 < k) (hk : k < 9223372036854775808) (hk6 : k ≤ 60) (hn : n = (k : Int)) : Calls Try.prog 8 #[.slice A L c, .int .i64 n] w (LivesPost w) := by
  have hcut := fun w' (h : Below w.heap.size w w') => cut_any A c L 6 xs w' (hA.keep h) hL hc hnil (by omega)
  have l1 : (xs.take 6).length ≤ 6 := by rw [List.length_take]; omega
  rw [hm] at hcut l1
  have lb : nbits m ≤ 192 := Nat.le_trans (bits_of_len l1) (by omega)
  have hlu : ∀ B w' a, OwnLs B w' a (dig B32 m) → Limbs w' a (dig B32 m) := fun B w' a h => h.limbs (by omega)
  have h27 := fun a w h => refCheck_l a (dig B32 m) w h
  rw [chk_dig (by omega)] at h27
  have h52 := fun a w' (h : Limbs w' a (dig B32 m)) => pow_01 a m k w' h.is (by omega) hk0 hk
  have h41 := fun a w' (h : N32 w' a m) b (kk : Limbs w' b (dig B32 m)) => is_ok a b m w' h kk (by omega)
  obtain ⟨D, hD⟩ : ∃ D, (dig B32 m).length = D := ⟨_, rfl⟩
  have hd0 : D = 0 := by rw [← hD, hm0, dig_zero]; rfl
  subst hd0
  subst hn
  have HK := Lib.hid hk
  clear hk
  have HM0 := Lib.hid hm0
  clear hm0
  have HCUT := Lib.hid hcut
  have HLU := Lib.hid hlu
  have H27 := Lib.hid h27
  have H52 := Lib.hid h52
  have H41 := Lib.hid h41
  have HD := Lib.hid hD
  clear hcut hlu h27 h52 h41 hD
  clear hA hL hnil l1 hm lb
  go_enter Try.func8, Try.ntmps8
  go_wp2_with (fail)
  refine (HCUT.out _ (Below.refl _ _)).mono ?_
  rintro e w1 ⟨va, rfl, hva, hb1⟩
  have b1 := below_at (Below.refl _ _) (Nat.le_refl _) hb1
  have ka_1 := HLU.out _ _ _ hva
  have kk := ka_1
  obtain ⟨A1, c1, hve, hq1', _, hA1⟩ := kk
  rw [HD.out] at hve hq1'
  subst hve
  go_wp2_with (fail)
  refine (H27.out _ _ ka_1).mono ?_
  rintro e w2 ⟨rfl, rfl⟩
  go_wp2_with (fail)
  refine (H52.out _ _ ka_1).mono ?_
  rintro e w3 ⟨vs, rfl, hvs, hb3⟩
  have b3 := below_at b1 (Nat.le_refl _) hb3
  have ka_3 := ka_1.keep hb3
  have ks_3 := hvs.is
  go_wp2_with (fail)
  refine (lives_any _).mono ?_
  rintro e w4 ⟨rfl, hb4⟩
  have b4 := below_at b3 (Nat.le_refl _) hb4
  have ka_4 := ka_3.keep hb4
  have ks_4 := ks_3.keep hb4
  go_wp2_with (fail)
  refine (H41.out _ _ ks_4 _ ka_4).mono ?_
  rintro e w5 ⟨rfl, hb5⟩
  have b5 := below_at b4 (Nat.le_refl _) hb5
  go_wp2
  go_ret
  exact ⟨rfl, b5⟩

set_option maxHeartbeats 2000000 in
set_option maxRecDepth 100000 in
theorem powers_zero_big (A : Option Addr) (c L : Nat) (n : Int) (xs : List Nat) (w : World) (hA : Nums .u32 w A xs) (hL : L = xs.length) (hc : L ≤ c) (hnil : A = none → c = 0) (m : Nat) (hm : xs.take 6 = dig B32 m) (hm0 : m = 0) (k : Nat) (hk0 : 0 < k) (hk : k < 9223372036854775808) (hk6 : 60 < k) (hn : n = (k : Int)) : Calls Try.prog 8 #[.slice A L c, .int .i64 n] w (LivesPost w) := by
  have hcut := fun w' (h : Below w.heap.size w w') => cut_any A c L 6 xs w' (hA.keep h) hL hc hnil (by omega)
  have l1 : (xs.take 6).length ≤ 6 := by rw [List.length_take]; omega
  rw [hm] at hcut l1
  have lb : nbits m ≤ 192 := Nat.le_trans (bits_of_len l1) (by omega)
  have hlu : ∀ B w' a, OwnLs B w' a (dig B32 m) → Limbs w' a (dig B32 m) := fun B w' a h => h.limbs (by omega)
  have h27 := fun a w h => refCheck_l a (dig B32 m) w h
  rw [chk_dig (by omega)] at h27
  have h52 := fun a w' (h : Limbs w' a (dig B32 m)) => pow_01 a m k w' h.is (by omega) hk0 hk
  have h41 := fun a w' (h : N32 w' a m) b (kk : Limbs w' b (dig B32 m)) => is_ok a b m w' h kk (by omega)
  obtain ⟨D, hD⟩ : ∃ D, (dig B32 m).length = D := ⟨_, rfl⟩
  have hd0 : D = 0 := by rw [← hD, hm0, dig_zero]; rfl
  subst hd0
  subst hn
  have HK := Lib.hid hk
  clear hk
  have HM0 := Lib.hid hm0
  clear hm0
  have HCUT := Lib.hid hcut
  have HLU := Lib.hid hlu
  have H27 := Lib.hid h27
  have H52 := Lib.hid h52
  have H41 := Lib.hid h41
  have HD := Lib.hid hD
  clear hcut hlu h27 h52 h41 hD
  clear hA hL hnil l1 hm lb
  go_enter Try.func8, Try.ntmps8
  go_wp2_with (fail)
  refine (HCUT.out _ (Below.refl _ _)).mono ?_
  rintro e w1 ⟨va, rfl, hva, hb1⟩
  have b1 := below_at (Below.refl _ _) (Nat.le_refl _) hb1
  have ka_1 := HLU.out _ _ _ hva
  have kk := ka_1
  obtain ⟨A1, c1, hve, hq1', _, hA1⟩ := kk
  rw [HD.out] at hve hq1'
  subst hve
  go_wp2_with (fail)
  refine (H27.out _ _ ka_1).mono ?_
  rintro e w2 ⟨rfl, rfl⟩
  go_wp2_with (fail)
  refine (H52.out _ _ ka_1).mono ?_
  rintro e w3 ⟨vs, rfl, hvs, hb3⟩
  have b3 := below_at b1 (Nat.le_refl _) hb3
  have ka_3 := ka_1.keep hb3
  have ks_3 := hvs.is
  go_wp2_with (fail)
  refine (lives_any _).mono ?_
  rintro e w4 ⟨rfl, hb4⟩
  have b4 := below_at b3 (Nat.le_refl _) hb4
  have ka_4 := ka_3.keep hb4
  have ks_4 := ks_3.keep hb4
  go_wp2_with (fail)
  refine (H41.out _ _ ks_4 _ ka_4).mono ?_
  rintro e w5 ⟨rfl, hb5⟩
  have b5 := below_at b4 (Nat.le_refl _) hb5
  go_wp2
  go_ret
  exact ⟨rfl, b5⟩

set_option maxHeartbeats 2000000 in
set_option maxRecDepth 100000 in
theorem powers_one_neg (A : Option Addr) (c L : Nat) (n : Int) (xs : List Nat) (w : World) (hA : Nums .u32 w A xs) (hL : L = xs.length) (hc : L ≤ c) (hnil : A = none → c = 0) (m : Nat) (hm : xs.take 6 = dig B32 m) (hm1 : m = 1) (hn : n < 0) : Calls Try.prog 8 #[.slice A L c, .int .i64 n] w (LivesPost w) := by
  have hcut := fun w' (h : Below w.heap.size w w') => cut_any A c L 6 xs w' (hA.keep h) hL hc hnil (by omega)
  have l1 : (xs.take 6).length ≤ 6 := by rw [List.length_take]; omega
  rw [hm] at hcut l1
  have lb : nbits m ≤ 192 := Nat.le_trans (bits_of_len l1) (by omega)
  have hlu : ∀ B w' a, OwnLs B w' a (dig B32 m) → Limbs w' a (dig B32 m) := fun B w' a h => h.limbs (by omega)
  have h27 := fun a w h => refCheck_l a (dig B32 m) w h
  rw [chk_dig (by omega)] at h27
  have h52 := fun a w' (h : Limbs w' a (dig B32 m)) => pow_arg a m n w' h.is (by omega) hn
  have h41 := fun b w => is_err b 1 w (by omega)
  obtain ⟨D, hD⟩ : ∃ D, (dig B32 m).length = D := ⟨_, rfl⟩
  have hd1 : D = 1 := by rw [← hD, hm1]; rw [dig1 b32_two (by omega) (by unfold B32; omega)]; rfl
  subst hd1
  have HM1 := Lib.hid hm1
  clear hm1
  have HCUT := Lib.hid hcut
  have HLU := Lib.hid hlu
  have H27 := Lib.hid h27
  have H52 := Lib.hid h52
  have H41 := Lib.hid h41
  have HD := Lib.hid hD
  clear hcut hlu h27 h52 h41 hD
  clear hA hL hnil l1 hm lb
  go_enter Try.func8, Try.ntmps8
  go_wp2_with (fail)
  refine (HCUT.out _ (Below.refl _ _)).mono ?_
  rintro e w1 ⟨va, rfl, hva, hb1⟩
  have b1 := below_at (Below.refl _ _) (Nat.le_refl _) hb1
  have ka_1 := HLU.out _ _ _ hva
  have kk := ka_1
  obtain ⟨A1, c1, hve, hq1', _, hA1⟩ := kk
  rw [HD.out] at hve hq1'
  subst hve
  obtain ⟨g, off, v, rfl, hg, hv0, hcv⟩ := hA1.at_ (i := 0) (by rw [HD.out]; omega)
  rw [Nat.add_zero] at hcv
  have hv1 : v = 1 := by have := dig_getElem? b32_two hv0; rw [HM1.out] at this; exact this
  subst hv1
  clear hv0 hA1
  go_wp2_with (fail)
  refine (H27.out _ _ ka_1).mono ?_
  rintro e w2 ⟨rfl, rfl⟩
  go_wp2_with (fail)
  refine (H52.out _ _ ka_1).mono ?_
  rintro e w3 ⟨rfl, hb3⟩
  have b3 := below_at b1 (Nat.le_refl _) hb3
  have ka_3 := ka_1.keep hb3
  go_wp2_with (fail)
  refine (lives_any _).mono ?_
  rintro e w4 ⟨rfl, hb4⟩
  have b4 := below_at b3 (Nat.le_refl _) hb4
  have ka_4 := ka_3.keep hb4
  go_wp2_with (fail)
  refine (H41.out _ _).mono ?_
  rintro e w5 ⟨rfl, hb5⟩
  have b5 := below_at b4 (Nat.le_refl _) hb5
  have ka_5 := ka_4.keep hb5
  go_wp2
  go_ret
  exact ⟨rfl, b5⟩

set_option maxHeartbeats 2000000 in
set_option maxRecDepth 100000 in
theorem powers_one_0 (A : Option Addr) (c L : Nat) (n : Int) (xs : List Nat) (w : World) (hA : Nums .u32 w A xs) (hL : L = xs.length) (hc : L ≤ c) (hnil : A = none → c = 0) (m : Nat) (hm : xs.take 6 = dig B32 m) (hm1 : m = 1) (hn : n = 0) : Calls Try.prog 8 #[.slice A L c, .int .i64 n] w (LivesPost w) := by
  have hcut := fun w' (h : Below w.heap.size w w') => cut_any A c L 6 xs w' (hA.keep h) hL hc hnil (by omega)
  have l1 : (xs.take 6).length ≤ 6 := by rw [List.length_take]; omega
  rw [hm] at hcut l1
  have lb : nbits m ≤ 192 := Nat.le_trans (bits_of_len l1) (by omega)
  have hlu : ∀ B w' a, OwnLs B w' a (dig B32 m) → Limbs w' a (dig B32 m) := fun B w' a h => h.limbs (by omega)
  have h27 := fun a w h => refCheck_l a (dig B32 m) w h
  rw [chk_dig (by omega)] at h27
  have h52 : ∀ a w', Limbs w' a (dig B32 m) → Calls Try.prog 52 #[a, .int .i64 0] w' (NatOk w' 1) := fun a w' h => pow_ok a m 0 w' h.is (by omega) (by omega) (by omega)
  have h34 := fun w => refOf_any 1 (by decide) w
  have hl1 : (dig B32 1).length ≤ 2 := len_u64 (by decide)
  have h41 : ∀ (B : Nat) (a : Value) (w' : World), N32 w' a 1 → ∀ b, OwnLs B w' b (dig B32 1) → Calls Try.prog 41 #[a, .int .i64 0, b, .int .i64 0] w' (LivesPost w') := fun B a w' h b kk => is_ok a b 1 w' h (kk.limbs (by omega)) (by omega)
  obtain ⟨D, hD⟩ : ∃ D, (dig B32 m).length = D := ⟨_, rfl⟩
  have hd1 : D = 1 := by rw [← hD, hm1]; rw [dig1 b32_two (by omega) (by unfold B32; omega)]; rfl
  subst hd1
  subst hn
  have HM1 := Lib.hid hm1
  clear hm1
  have HCUT := Lib.hid hcut
  have HLU := Lib.hid hlu
  have H27 := Lib.hid h27
  have H52 := Lib.hid h52
  have H41 := Lib.hid h41
  have HD := Lib.hid hD
  have H34 := Lib.hid h34
  clear hcut hlu h27 h52 h41 hD h34
  clear hA hL hnil l1 hm lb hl1
  go_enter Try.func8, Try.ntmps8
  go_wp2_with (fail)
  refine (HCUT.out _ (Below.refl _ _)).mono ?_
  rintro e w1 ⟨va, rfl, hva, hb1⟩
  have b1 := below_at (Below.refl _ _) (Nat.le_refl _) hb1
  have ka_1 := HLU.out _ _ _ hva
  have kk := ka_1
  obtain ⟨A1, c1, hve, hq1', _, hA1⟩ := kk
  rw [HD.out] at hve hq1'
  subst hve
  obtain ⟨g, off, v, rfl, hg, hv0, hcv⟩ := hA1.at_ (i := 0) (by rw [HD.out]; omega)
  rw [Nat.add_zero] at hcv
  have hv1 : v = 1 := by have := dig_getElem? b32_two hv0; rw [HM1.out] at this; exact this
  subst hv1
  clear hv0 hA1
  go_wp2_with (fail)
  refine (H27.out _ _ ka_1).mono ?_
  rintro e w2 ⟨rfl, rfl⟩
  go_wp2_with (fail)
  refine (H52.out _ _ ka_1).mono ?_
  rintro e w3 ⟨vs, rfl, hvs, hb3⟩
  have b3 := below_at b1 (Nat.le_refl _) hb3
  have ks_3 := hvs.is
  go_wp2_with (fail)
  refine (lives_any _).mono ?_
  rintro e w4 ⟨rfl, hb4⟩
  have b4 := below_at b3 (Nat.le_refl _) hb4
  have ks_4 := ks_3.keep hb4
  go_wp2_with (fail)
  refine (H34.out _).mono ?_
  rintro e w5 ⟨vr, rfl, hvr, hb5⟩
  have b5 := below_at b4 (Nat.le_refl _) hb5
  have ks_5 := ks_4.keep hb5
  go_wp2_with (fail)
  refine (H41.out _ _ _ ks_5 _ hvr).mono ?_
  rintro e w6 ⟨rfl, hb6⟩
  have b6 := below_at b5 (Nat.le_refl _) hb6
  go_wp2
  go_ret
  exact ⟨rfl, b6⟩

set_option maxHeartbeats 2000000 in
set_option maxRecDepth 100000 in
theorem powers_one_pos (A : Option Addr) (c L : Nat) (n : Int) (xs : List Nat) (w : World) (hA : Nums .u32 w A xs) (hL : L = xs.length) (hc : L ≤ c) (hnil : A = none → c = 0) (m : Nat) (hm : xs.take 6 = dig B32 m) (hm1 : m = 1) (k : Nat) (hk0 : 0 < k) (hk : k < 9223372036854775808) (hk6 : k ≤ 60) (hn : n = (k : Int)) : Calls Try.prog 8 #[.slice A L c, .int .i64 n] w (LivesPost w) := by
  have hcut := fun w' (h : Below w.heap.size w w') => cut_any A c L 6 xs w' (hA.keep h) hL hc hnil (by omega)
  have l1 : (xs.take 6).length ≤ 6 := by rw [List.length_take]; omega
  rw [hm] at hcut l1
  have lb : nbits m ≤ 192 := Nat.le_trans (bits_of_len l1) (by omega)
  have hlu : ∀ B w' a, OwnLs B w' a (dig B32 m) → Limbs w' a (dig B32 m) := fun B w' a h => h.limbs (by omega)
  have h27 := fun a w h => refCheck_l a (dig B32 m) w h
  rw [chk_dig (by omega)] at h27
  have h52 := fun a w' (h : Limbs w' a (dig B32 m)) => pow_01 a m k w' h.is (by omega) hk0 hk
  have h41 := fun a w' (h : N32 w' a m) b (kk : Limbs w' b (dig B32 m)) => is_ok a b m w' h kk (by omega)
  obtain ⟨D, hD⟩ : ∃ D, (dig B32 m).length = D := ⟨_, rfl⟩
  have hd1 : D = 1 := by rw [← hD, hm1]; rw [dig1 b32_two (by omega) (by unfold B32; omega)]; rfl
  subst hd1
  subst hn
  have HK := Lib.hid hk
  clear hk
  have HM1 := Lib.hid hm1
  clear hm1
  have HCUT := Lib.hid hcut
  have HLU := Lib.hid hlu
  have H27 := Lib.hid h27
  have H52 := Lib.hid h52
  have H41 := Lib.hid h41
  have HD := Lib.hid hD
  clear hcut hlu h27 h52 h41 hD
  clear hA hL hnil l1 hm lb
  go_enter Try.func8, Try.ntmps8
  go_wp2_with (fail)
  refine (HCUT.out _ (Below.refl _ _)).mono ?_
  rintro e w1 ⟨va, rfl, hva, hb1⟩
  have b1 := below_at (Below.refl _ _) (Nat.le_refl _) hb1
  have ka_1 := HLU.out _ _ _ hva
  have kk := ka_1
  obtain ⟨A1, c1, hve, hq1', _, hA1⟩ := kk
  rw [HD.out] at hve hq1'
  subst hve
  obtain ⟨g, off, v, rfl, hg, hv0, hcv⟩ := hA1.at_ (i := 0) (by rw [HD.out]; omega)
  rw [Nat.add_zero] at hcv
  have hv1 : v = 1 := by have := dig_getElem? b32_two hv0; rw [HM1.out] at this; exact this
  subst hv1
  clear hv0 hA1
  go_wp2_with (fail)
  refine (H27.out _ _ ka_1).mono ?_
  rintro e w2 ⟨rfl, rfl⟩
  go_wp2_with (fail)
  refine (H52.out _ _ ka_1).mono ?_
  rintro e w3 ⟨vs, rfl, hvs, hb3⟩
  have b3 := below_at b1 (Nat.le_refl _) hb3
  have ka_3 := ka_1.keep hb3
  have ks_3 := hvs.is
  go_wp2_with (fail)
  refine (lives_any _).mono ?_
  rintro e w4 ⟨rfl, hb4⟩
  have b4 := below_at b3 (Nat.le_refl _) hb4
  have ka_4 := ka_3.keep hb4
  have ks_4 := ks_3.keep hb4
  go_wp2_with (fail)
  refine (H41.out _ _ ks_4 _ ka_4).mono ?_
  rintro e w5 ⟨rfl, hb5⟩
  have b5 := below_at b4 (Nat.le_refl _) hb5
  go_wp2
  go_ret
  exact ⟨rfl, b5⟩

set_option maxHeartbeats 2000000 in
set_option maxRecDepth 100000 in
theorem powers_one_big (A : Option Addr) (c L : Nat) (n : Int) (xs : List Nat) (w : World) (hA : Nums .u32 w A xs) (hL : L = xs.length) (hc : L ≤ c) (hnil : A = none → c = 0) (m : Nat) (hm : xs.take 6 = dig B32 m) (hm1 : m = 1) (k : Nat) (hk0 : 0 < k) (hk : k < 9223372036854775808) (hk6 : 60 < k) (hn : n = (k : Int)) : Calls Try.prog 8 #[.slice A L c, .int .i64 n] w (LivesPost w) := by
  have hcut := fun w' (h : Below w.heap.size w w') => cut_any A c L 6 xs w' (hA.keep h) hL hc hnil (by omega)
  have l1 : (xs.take 6).length ≤ 6 := by rw [List.length_take]; omega
  rw [hm] at hcut l1
  have lb : nbits m ≤ 192 := Nat.le_trans (bits_of_len l1) (by omega)
  have hlu : ∀ B w' a, OwnLs B w' a (dig B32 m) → Limbs w' a (dig B32 m) := fun B w' a h => h.limbs (by omega)
  have h27 := fun a w h => refCheck_l a (dig B32 m) w h
  rw [chk_dig (by omega)] at h27
  have h52 := fun a w' (h : Limbs w' a (dig B32 m)) => pow_01 a m k w' h.is (by omega) hk0 hk
  have h41 := fun a w' (h : N32 w' a m) b (kk : Limbs w' b (dig B32 m)) => is_ok a b m w' h kk (by omega)
  obtain ⟨D, hD⟩ : ∃ D, (dig B32 m).length = D := ⟨_, rfl⟩
  have hd1 : D = 1 := by rw [← hD, hm1]; rw [dig1 b32_two (by omega) (by unfold B32; omega)]; rfl
  subst hd1
  subst hn
  have HK := Lib.hid hk
  clear hk
  have HM1 := Lib.hid hm1
  clear hm1
  have HCUT := Lib.hid hcut
  have HLU := Lib.hid hlu
  have H27 := Lib.hid h27
  have H52 := Lib.hid h52
  have H41 := Lib.hid h41
  have HD := Lib.hid hD
  clear hcut hlu h27 h52 h41 hD
  clear hA hL hnil l1 hm lb
  go_enter Try.func8, Try.ntmps8
  go_wp2_with (fail)
  refine (HCUT.out _ (Below.refl _ _)).mono ?_
  rintro e w1 ⟨va, rfl, hva, hb1⟩
  have b1 := below_at (Below.refl _ _) (Nat.le_refl _) hb1
  have ka_1 := HLU.out _ _ _ hva
  have kk := ka_1
  obtain ⟨A1, c1, hve, hq1', _, hA1⟩ := kk
  rw [HD.out] at hve hq1'
  subst hve
  obtain ⟨g, off, v, rfl, hg, hv0, hcv⟩ := hA1.at_ (i := 0) (by rw [HD.out]; omega)
  rw [Nat.add_zero] at hcv
  have hv1 : v = 1 := by have := dig_getElem? b32_two hv0; rw [HM1.out] at this; exact this
  subst hv1
  clear hv0 hA1
  go_wp2_with (fail)
  refine (H27.out _ _ ka_1).mono ?_
  rintro e w2 ⟨rfl, rfl⟩
  go_wp2_with (fail)
  refine (H52.out _ _ ka_1).mono ?_
  rintro e w3 ⟨vs, rfl, hvs, hb3⟩
  have b3 := below_at b1 (Nat.le_refl _) hb3
  have ka_3 := ka_1.keep hb3
  have ks_3 := hvs.is
  go_wp2_with (fail)
  refine (lives_any _).mono ?_
  rintro e w4 ⟨rfl, hb4⟩
  have b4 := below_at b3 (Nat.le_refl _) hb4
  have ka_4 := ka_3.keep hb4
  have ks_4 := ks_3.keep hb4
  go_wp2_with (fail)
  refine (H41.out _ _ ks_4 _ ka_4).mono ?_
  rintro e w5 ⟨rfl, hb5⟩
  have b5 := below_at b4 (Nat.le_refl _) hb5
  go_wp2
  go_ret
  exact ⟨rfl, b5⟩

set_option maxHeartbeats 2000000 in
set_option maxRecDepth 100000 in
theorem powers_single_neg (A : Option Addr) (c L : Nat) (n : Int) (xs : List Nat) (w : World) (hA : Nums .u32 w A xs) (hL : L = xs.length) (hc : L ≤ c) (hnil : A = none → c = 0) (m : Nat) (hm : xs.take 6 = dig B32 m) (hmm : 2 ≤ m) (hD1 : (dig B32 m).length = 1) (hn : n < 0) : Calls Try.prog 8 #[.slice A L c, .int .i64 n] w (LivesPost w) := by
  have hcut := fun w' (h : Below w.heap.size w w') => cut_any A c L 6 xs w' (hA.keep h) hL hc hnil (by omega)
  have l1 : (xs.take 6).length ≤ 6 := by rw [List.length_take]; omega
  rw [hm] at hcut l1
  have lb : nbits m ≤ 192 := Nat.le_trans (bits_of_len l1) (by omega)
  have hlu : ∀ B w' a, OwnLs B w' a (dig B32 m) → Limbs w' a (dig B32 m) := fun B w' a h => h.limbs (by omega)
  have h27 := fun a w h => refCheck_l a (dig B32 m) w h
  rw [chk_dig (by omega)] at h27
  have h52 := fun a w' (h : Limbs w' a (dig B32 m)) => pow_arg a m n w' h.is (by omega) hn
  have h41 := fun b w => is_err b 1 w (by omega)
  obtain ⟨D, hD⟩ : ∃ D, (dig B32 m).length = D := ⟨_, rfl⟩
  rw [hD] at hD1
  subst hD1
  have HCUT := Lib.hid hcut
  have HLU := Lib.hid hlu
  have H27 := Lib.hid h27
  have H52 := Lib.hid h52
  have H41 := Lib.hid h41
  have HD := Lib.hid hD
  clear hcut hlu h27 h52 h41 hD
  clear hA hL hnil l1 hm lb
  go_enter Try.func8, Try.ntmps8
  go_wp2_with (fail)
  refine (HCUT.out _ (Below.refl _ _)).mono ?_
  rintro e w1 ⟨va, rfl, hva, hb1⟩
  have b1 := below_at (Below.refl _ _) (Nat.le_refl _) hb1
  have ka_1 := HLU.out _ _ _ hva
  have kk := ka_1
  obtain ⟨A1, c1, hve, hq1', _, hA1⟩ := kk
  rw [HD.out] at hve hq1'
  subst hve
  obtain ⟨g, off, v, rfl, hg, hv0, hcv⟩ := hA1.at_ (i := 0) (by rw [HD.out]; omega)
  rw [Nat.add_zero] at hcv
  have hv1 : v = m := by
    have h1 := dig_getElem? b32_two hv0
    have h2 := dig_len_lt b32_two (n := m)
    rw [HD.out, Nat.pow_one] at h2
    rw [Nat.pow_zero, Nat.div_one, Nat.mod_eq_of_lt h2] at h1
    exact h1
  have hvt : ((v : Int) == 1) = false := by simp; omega
  clear hv0 hA1 hv1
  go_wp2_with (fail)
  refine (H27.out _ _ ka_1).mono ?_
  rintro e w2 ⟨rfl, rfl⟩
  go_wp2_with (fail)
  refine (H52.out _ _ ka_1).mono ?_
  rintro e w3 ⟨rfl, hb3⟩
  have b3 := below_at b1 (Nat.le_refl _) hb3
  have ka_3 := ka_1.keep hb3
  go_wp2_with (fail)
  refine (lives_any _).mono ?_
  rintro e w4 ⟨rfl, hb4⟩
  have b4 := below_at b3 (Nat.le_refl _) hb4
  have ka_4 := ka_3.keep hb4
  go_wp2_with (fail)
  refine (H41.out _ _).mono ?_
  rintro e w5 ⟨rfl, hb5⟩
  have b5 := below_at b4 (Nat.le_refl _) hb5
  have ka_5 := ka_4.keep hb5
  go_wp2
  go_ret
  exact ⟨rfl, b5⟩

set_option maxHeartbeats 2000000 in
set_option maxRecDepth 100000 in
theorem powers_single_0 (A : Option Addr) (c L : Nat) (n : Int) (xs : List Nat) (w : World) (hA : Nums .u32 w A xs) (hL : L = xs.length) (hc : L ≤ c) (hnil : A = none → c = 0) (m : Nat) (hm : xs.take 6 = dig B32 m) (hmm : 2 ≤ m) (hD1 : (dig B32 m).length = 1) (hn : n = 0) : Calls Try.prog 8 #[.slice A L c, .int .i64 n] w (LivesPost w) := by
  have hcut := fun w' (h : Below w.heap.size w w') => cut_any A c L 6 xs w' (hA.keep h) hL hc hnil (by omega)
  have l1 : (xs.take 6).length ≤ 6 := by rw [List.length_take]; omega
  rw [hm] at hcut l1
  have lb : nbits m ≤ 192 := Nat.le_trans (bits_of_len l1) (by omega)
  have hlu : ∀ B w' a, OwnLs B w' a (dig B32 m) → Limbs w' a (dig B32 m) := fun B w' a h => h.limbs (by omega)
  have h27 := fun a w h => refCheck_l a (dig B32 m) w h
  rw [chk_dig (by omega)] at h27
  have h52 : ∀ a w', Limbs w' a (dig B32 m) → Calls Try.prog 52 #[a, .int .i64 0] w' (NatOk w' 1) := fun a w' h => pow_ok a m 0 w' h.is (by omega) (by omega) (by omega)
  have h34 := fun w => refOf_any 1 (by decide) w
  have hl1 : (dig B32 1).length ≤ 2 := len_u64 (by decide)
  have h41 : ∀ (B : Nat) (a : Value) (w' : World), N32 w' a 1 → ∀ b, OwnLs B w' b (dig B32 1) → Calls Try.prog 41 #[a, .int .i64 0, b, .int .i64 0] w' (LivesPost w') := fun B a w' h b kk => is_ok a b 1 w' h (kk.limbs (by omega)) (by omega)
  obtain ⟨D, hD⟩ : ∃ D, (dig B32 m).length = D := ⟨_, rfl⟩
  rw [hD] at hD1
  subst hD1
  subst hn
  have HCUT := Lib.hid hcut
  have HLU := Lib.hid hlu
  have H27 := Lib.hid h27
  have H52 := Lib.hid h52
  have H41 := Lib.hid h41
  have HD := Lib.hid hD
  have H34 := Lib.hid h34
  clear hcut hlu h27 h52 h41 hD h34
  clear hA hL hnil l1 hm lb hl1
  go_enter Try.func8, Try.ntmps8
  go_wp2_with (fail)
  refine (HCUT.out _ (Below.refl _ _)).mono ?_
  rintro e w1 ⟨va, rfl, hva, hb1⟩
  have b1 := below_at (Below.refl _ _) (Nat.le_refl _) hb1
  have ka_1 := HLU.out _ _ _ hva
  have kk := ka_1
  obtain ⟨A1, c1, hve, hq1', _, hA1⟩ := kk
  rw [HD.out] at hve hq1'
  subst hve
  obtain ⟨g, off, v, rfl, hg, hv0, hcv⟩ := hA1.at_ (i := 0) (by rw [HD.out]; omega)
  rw [Nat.add_zero] at hcv
  have hv1 : v = m := by
    have h1 := dig_getElem? b32_two hv0
    have h2 := dig_len_lt b32_two (n := m)
    rw [HD.out, Nat.pow_one] at h2
    rw [Nat.pow_zero, Nat.div_one, Nat.mod_eq_of_lt h2] at h1
    exact h1
  have hvt : ((v : Int) == 1) = false := by simp; omega
  clear hv0 hA1 hv1
  go_wp2_with (fail)
  refine (H27.out _ _ ka_1).mono ?_
  rintro e w2 ⟨rfl, rfl⟩
  go_wp2_with (fail)
  refine (H52.out _ _ ka_1).mono ?_
  rintro e w3 ⟨vs, rfl, hvs, hb3⟩
  have b3 := below_at b1 (Nat.le_refl _) hb3
  have ks_3 := hvs.is
  go_wp2_with (fail)
  refine (lives_any _).mono ?_
  rintro e w4 ⟨rfl, hb4⟩
  have b4 := below_at b3 (Nat.le_refl _) hb4
  have ks_4 := ks_3.keep hb4
  go_wp2_with (fail)
  refine (H34.out _).mono ?_
  rintro e w5 ⟨vr, rfl, hvr, hb5⟩
  have b5 := below_at b4 (Nat.le_refl _) hb5
  have ks_5 := ks_4.keep hb5
  go_wp2_with (fail)
  refine (H41.out _ _ _ ks_5 _ hvr).mono ?_
  rintro e w6 ⟨rfl, hb6⟩
  have b6 := below_at b5 (Nat.le_refl _) hb6
  go_wp2
  go_ret
  exact ⟨rfl, b6⟩

set_option maxHeartbeats 2000000 in
set_option maxRecDepth 100000 in
theorem powers_single_pos (A : Option Addr) (c L : Nat) (n : Int) (xs : List Nat) (w : World) (hA : Nums .u32 w A xs) (hL : L = xs.length) (hc : L ≤ c) (hnil : A = none → c = 0) (m : Nat) (hm : xs.take 6 = dig B32 m) (hmm : 2 ≤ m) (hD1 : (dig B32 m).length = 1) (k : Nat) (hk0 : 0 < k) (hk : k ≤ 60) (hn : n = (k : Int)) : Calls Try.prog 8 #[.slice A L c, .int .i64 n] w (LivesPost w) := by
  have hcut := fun w' (h : Below w.heap.size w w') => cut_any A c L 6 xs w' (hA.keep h) hL hc hnil (by omega)
  have l1 : (xs.take 6).length ≤ 6 := by rw [List.length_take]; omega
  rw [hm] at hcut l1
  have lb : nbits m ≤ 192 := Nat.le_trans (bits_of_len l1) (by omega)
  have hlu : ∀ B w' a, OwnLs B w' a (dig B32 m) → Limbs w' a (dig B32 m) := fun B w' a h => h.limbs (by omega)
  have h27 := fun a w h => refCheck_l a (dig B32 m) w h
  rw [chk_dig (by omega)] at h27
  have hlp : ∀ j, j ≤ k → (dig B32 (m ^ j)).length ≤ 500 := fun j hj => by
    have h1 := nbits_pow_le m j
    have h2 := Nat.mul_le_mul (Nat.le_trans hj hk) lb
    exact len32_of_bits (Nat.le_trans h1 (by omega))
  have h52 := fun a w' (h : Limbs w' a (dig B32 m)) => pow_ok a m k w' h.is (by omega) (by omega) (by omega)
  have h53 := fun a w' (h : Limbs w' a (dig B32 m)) => refPow_any a m k w' h.is (by omega) (by omega) hlp
  have hlk := hlp k (Nat.le_refl _)
  have h41 := fun a w' (h : N32 w' a (m ^ k)) b (kk : N32 w' b (m ^ k)) => is_ok a b (m ^ k) w' h (Limbs.num kk (by omega)) (by omega)
  clear hlp hlk
  obtain ⟨D, hD⟩ : ∃ D, (dig B32 m).length = D := ⟨_, rfl⟩
  rw [hD] at hD1
  subst hD1
  subst hn
  have HCUT := Lib.hid hcut
  have HLU := Lib.hid hlu
  have H27 := Lib.hid h27
  have H52 := Lib.hid h52
  have H41 := Lib.hid h41
  have HD := Lib.hid hD
  have H53 := Lib.hid h53
  clear hcut hlu h27 h52 h41 hD h53
  clear hA hL hnil l1 hm lb
  go_enter Try.func8, Try.ntmps8
  go_wp2_with (fail)
  refine (HCUT.out _ (Below.refl _ _)).mono ?_
  rintro e w1 ⟨va, rfl, hva, hb1⟩
  have b1 := below_at (Below.refl _ _) (Nat.le_refl _) hb1
  have ka_1 := HLU.out _ _ _ hva
  have kk := ka_1
  obtain ⟨A1, c1, hve, hq1', _, hA1⟩ := kk
  rw [HD.out] at hve hq1'
  subst hve
  obtain ⟨g, off, v, rfl, hg, hv0, hcv⟩ := hA1.at_ (i := 0) (by rw [HD.out]; omega)
  rw [Nat.add_zero] at hcv
  have hv1 : v = m := by
    have h1 := dig_getElem? b32_two hv0
    have h2 := dig_len_lt b32_two (n := m)
    rw [HD.out, Nat.pow_one] at h2
    rw [Nat.pow_zero, Nat.div_one, Nat.mod_eq_of_lt h2] at h1
    exact h1
  have hvt : ((v : Int) == 1) = false := by simp; omega
  clear hv0 hA1 hv1
  go_wp2_with (fail)
  refine (H27.out _ _ ka_1).mono ?_
  rintro e w2 ⟨rfl, rfl⟩
  go_wp2_with (fail)
  refine (H52.out _ _ ka_1).mono ?_
  rintro e w3 ⟨vs, rfl, hvs, hb3⟩
  have b3 := below_at b1 (Nat.le_refl _) hb3
  have ka_3 := ka_1.keep hb3
  have ks_3 := hvs.is
  go_wp2_with (fail)
  refine (lives_any _).mono ?_
  rintro e w4 ⟨rfl, hb4⟩
  have b4 := below_at b3 (Nat.le_refl _) hb4
  have ka_4 := ka_3.keep hb4
  have ks_4 := ks_3.keep hb4
  go_wp2_with (fail)
  refine (H53.out _ _ ka_4).mono ?_
  rintro e w5 ⟨vr, rfl, hvr, hb5⟩
  have b5 := below_at b4 (Nat.le_refl _) hb5
  have ks_5 := ks_4.keep hb5
  go_wp2_with (fail)
  refine (H41.out _ _ ks_5 _ hvr).mono ?_
  rintro e w6 ⟨rfl, hb6⟩
  have b6 := below_at b5 (Nat.le_refl _) hb6
  go_wp2
  go_ret
  exact ⟨rfl, b6⟩

set_option maxHeartbeats 2000000 in
set_option maxRecDepth 100000 in
theorem powers_single_mod0 (A : Option Addr) (c L : Nat) (n : Int) (xs : List Nat) (w : World) (hA : Nums .u32 w A xs) (hL : L = xs.length) (hc : L ≤ c) (hnil : A = none → c = 0) (m : Nat) (hm : xs.take 6 = dig B32 m) (hmm : 2 ≤ m) (hD1 : (dig B32 m).length = 1) (hn : 60 < n) (hn2 : n % 61 = 0) : Calls Try.prog 8 #[.slice A L c, .int .i64 n] w (LivesPost w) := by
  have hcut := fun w' (h : Below w.heap.size w w') => cut_any A c L 6 xs w' (hA.keep h) hL hc hnil (by omega)
  have l1 : (xs.take 6).length ≤ 6 := by rw [List.length_take]; omega
  rw [hm] at hcut l1
  have lb : nbits m ≤ 192 := Nat.le_trans (bits_of_len l1) (by omega)
  have hlu : ∀ B w' a, OwnLs B w' a (dig B32 m) → Limbs w' a (dig B32 m) := fun B w' a h => h.limbs (by omega)
  have h27 := fun a w h => refCheck_l a (dig B32 m) w h
  rw [chk_dig (by omega)] at h27
  have h52 : ∀ a w', Limbs w' a (dig B32 m) → Calls Try.prog 52 #[a, .int .i64 0] w' (NatOk w' 1) := fun a w' h => pow_ok a m 0 w' h.is (by omega) (by omega) (by omega)
  have h34 := fun w => refOf_any 1 (by decide) w
  have hl1 : (dig B32 1).length ≤ 2 := len_u64 (by decide)
  have h41 : ∀ (B : Nat) (a : Value) (w' : World), N32 w' a 1 → ∀ b, OwnLs B w' b (dig B32 1) → Calls Try.prog 41 #[a, .int .i64 0, b, .int .i64 0] w' (LivesPost w') := fun B a w' h b kk => is_ok a b 1 w' h (kk.limbs (by omega)) (by omega)
  obtain ⟨D, hD⟩ : ∃ D, (dig B32 m).length = D := ⟨_, rfl⟩
  rw [hD] at hD1
  subst hD1
  have q1 : n.tmod 61 = 0 := by rw [Int.tmod_eq_emod_of_nonneg (by omega)]; exact hn2
  have HCUT := Lib.hid hcut
  have HLU := Lib.hid hlu
  have H27 := Lib.hid h27
  have H52 := Lib.hid h52
  have H41 := Lib.hid h41
  have HD := Lib.hid hD
  have H34 := Lib.hid h34
  clear hcut hlu h27 h52 h41 hD h34
  clear hA hL hnil l1 hm lb hl1
  go_enter Try.func8, Try.ntmps8
  go_wp2_with (fail)
  refine (HCUT.out _ (Below.refl _ _)).mono ?_
  rintro e w1 ⟨va, rfl, hva, hb1⟩
  have b1 := below_at (Below.refl _ _) (Nat.le_refl _) hb1
  have ka_1 := HLU.out _ _ _ hva
  have kk := ka_1
  obtain ⟨A1, c1, hve, hq1', _, hA1⟩ := kk
  rw [HD.out] at hve hq1'
  subst hve
  obtain ⟨g, off, v, rfl, hg, hv0, hcv⟩ := hA1.at_ (i := 0) (by rw [HD.out]; omega)
  rw [Nat.add_zero] at hcv
  have hv1 : v = m := by
    have h1 := dig_getElem? b32_two hv0
    have h2 := dig_len_lt b32_two (n := m)
    rw [HD.out, Nat.pow_one] at h2
    rw [Nat.pow_zero, Nat.div_one, Nat.mod_eq_of_lt h2] at h1
    exact h1
  have hvt : ((v : Int) == 1) = false := by simp; omega
  clear hv0 hA1 hv1
  go_wp2_with (fail)
  refine (H27.out _ _ ka_1).mono ?_
  rintro e w2 ⟨rfl, rfl⟩
  go_wp2_with (fail)
  refine (H52.out _ _ ka_1).mono ?_
  rintro e w3 ⟨vs, rfl, hvs, hb3⟩
  have b3 := below_at b1 (Nat.le_refl _) hb3
  have ks_3 := hvs.is
  go_wp2_with (fail)
  refine (lives_any _).mono ?_
  rintro e w4 ⟨rfl, hb4⟩
  have b4 := below_at b3 (Nat.le_refl _) hb4
  have ks_4 := ks_3.keep hb4
  go_wp2_with (fail)
  refine (H34.out _).mono ?_
  rintro e w5 ⟨vr, rfl, hvr, hb5⟩
  have b5 := below_at b4 (Nat.le_refl _) hb5
  have ks_5 := ks_4.keep hb5
  go_wp2_with (fail)
  refine (H41.out _ _ _ ks_5 _ hvr).mono ?_
  rintro e w6 ⟨rfl, hb6⟩
  have b6 := below_at b5 (Nat.le_refl _) hb6
  go_wp2
  go_ret
  exact ⟨rfl, b6⟩

set_option maxHeartbeats 2000000 in
set_option maxRecDepth 100000 in
theorem powers_single_modpos (A : Option Addr) (c L : Nat) (n : Int) (xs : List Nat) (w : World) (hA : Nums .u32 w A xs) (hL : L = xs.length) (hc : L ≤ c) (hnil : A = none → c = 0) (m : Nat) (hm : xs.take 6 = dig B32 m) (hmm : 2 ≤ m) (hD1 : (dig B32 m).length = 1) (k : Nat) (hk0 : 0 < k) (hk : k ≤ 60) (hn : 60 < n) (hn2 : n % 61 = (k : Int)) : Calls Try.prog 8 #[.slice A L c, .int .i64 n] w (LivesPost w) := by
  have hcut := fun w' (h : Below w.heap.size w w') => cut_any A c L 6 xs w' (hA.keep h) hL hc hnil (by omega)
  have l1 : (xs.take 6).length ≤ 6 := by rw [List.length_take]; omega
  rw [hm] at hcut l1
  have lb : nbits m ≤ 192 := Nat.le_trans (bits_of_len l1) (by omega)
  have hlu : ∀ B w' a, OwnLs B w' a (dig B32 m) → Limbs w' a (dig B32 m) := fun B w' a h => h.limbs (by omega)
  have h27 := fun a w h => refCheck_l a (dig B32 m) w h
  rw [chk_dig (by omega)] at h27
  have hlp : ∀ j, j ≤ k → (dig B32 (m ^ j)).length ≤ 500 := fun j hj => by
    have h1 := nbits_pow_le m j
    have h2 := Nat.mul_le_mul (Nat.le_trans hj hk) lb
    exact len32_of_bits (Nat.le_trans h1 (by omega))
  have h52 := fun a w' (h : Limbs w' a (dig B32 m)) => pow_ok a m k w' h.is (by omega) (by omega) (by omega)
  have h53 := fun a w' (h : Limbs w' a (dig B32 m)) => refPow_any a m k w' h.is (by omega) (by omega) hlp
  have hlk := hlp k (Nat.le_refl _)
  have h41 := fun a w' (h : N32 w' a (m ^ k)) b (kk : N32 w' b (m ^ k)) => is_ok a b (m ^ k) w' h (Limbs.num kk (by omega)) (by omega)
  clear hlp hlk
  obtain ⟨D, hD⟩ : ∃ D, (dig B32 m).length = D := ⟨_, rfl⟩
  rw [hD] at hD1
  subst hD1
  have q1 : n.tmod 61 = (k : Int) := by rw [Int.tmod_eq_emod_of_nonneg (by omega)]; exact hn2
  have HCUT := Lib.hid hcut
  have HLU := Lib.hid hlu
  have H27 := Lib.hid h27
  have H52 := Lib.hid h52
  have H41 := Lib.hid h41
  have HD := Lib.hid hD
  have H53 := Lib.hid h53
  clear hcut hlu h27 h52 h41 hD h53
  clear hA hL hnil l1 hm lb
  go_enter Try.func8, Try.ntmps8
  go_wp2_with (fail)
  refine (HCUT.out _ (Below.refl _ _)).mono ?_
  rintro e w1 ⟨va, rfl, hva, hb1⟩
  have b1 := below_at (Below.refl _ _) (Nat.le_refl _) hb1
  have ka_1 := HLU.out _ _ _ hva
  have kk := ka_1
  obtain ⟨A1, c1, hve, hq1', _, hA1⟩ := kk
  rw [HD.out] at hve hq1'
  subst hve
  obtain ⟨g, off, v, rfl, hg, hv0, hcv⟩ := hA1.at_ (i := 0) (by rw [HD.out]; omega)
  rw [Nat.add_zero] at hcv
  have hv1 : v = m := by
    have h1 := dig_getElem? b32_two hv0
    have h2 := dig_len_lt b32_two (n := m)
    rw [HD.out, Nat.pow_one] at h2
    rw [Nat.pow_zero, Nat.div_one, Nat.mod_eq_of_lt h2] at h1
    exact h1
  have hvt : ((v : Int) == 1) = false := by simp; omega
  clear hv0 hA1 hv1
  go_wp2_with (fail)
  refine (H27.out _ _ ka_1).mono ?_
  rintro e w2 ⟨rfl, rfl⟩
  go_wp2_with (fail)
  refine (H52.out _ _ ka_1).mono ?_
  rintro e w3 ⟨vs, rfl, hvs, hb3⟩
  have b3 := below_at b1 (Nat.le_refl _) hb3
  have ka_3 := ka_1.keep hb3
  have ks_3 := hvs.is
  go_wp2_with (fail)
  refine (lives_any _).mono ?_
  rintro e w4 ⟨rfl, hb4⟩
  have b4 := below_at b3 (Nat.le_refl _) hb4
  have ka_4 := ka_3.keep hb4
  have ks_4 := ks_3.keep hb4
  go_wp2_with (fail)
  refine (H53.out _ _ ka_4).mono ?_
  rintro e w5 ⟨vr, rfl, hvr, hb5⟩
  have b5 := below_at b4 (Nat.le_refl _) hb5
  have ks_5 := ks_4.keep hb5
  go_wp2_with (fail)
  refine (H41.out _ _ ks_5 _ hvr).mono ?_
  rintro e w6 ⟨rfl, hb6⟩
  have b6 := below_at b5 (Nat.le_refl _) hb6
  go_wp2
  go_ret
  exact ⟨rfl, b6⟩

set_option maxHeartbeats 2000000 in
set_option maxRecDepth 100000 in
theorem powers_multi_neg (A : Option Addr) (c L : Nat) (n : Int) (xs : List Nat) (w : World) (hA : Nums .u32 w A xs) (hL : L = xs.length) (hc : L ≤ c) (hnil : A = none → c = 0) (m : Nat) (hm : xs.take 6 = dig B32 m) (hmm : 2 ≤ m) (hD2 : 2 ≤ (dig B32 m).length) (hn : n < 0) : Calls Try.prog 8 #[.slice A L c, .int .i64 n] w (LivesPost w) := by
  have hcut := fun w' (h : Below w.heap.size w w') => cut_any A c L 6 xs w' (hA.keep h) hL hc hnil (by omega)
  have l1 : (xs.take 6).length ≤ 6 := by rw [List.length_take]; omega
  rw [hm] at hcut l1
  have lb : nbits m ≤ 192 := Nat.le_trans (bits_of_len l1) (by omega)
  have hlu : ∀ B w' a, OwnLs B w' a (dig B32 m) → Limbs w' a (dig B32 m) := fun B w' a h => h.limbs (by omega)
  have h27 := fun a w h => refCheck_l a (dig B32 m) w h
  rw [chk_dig (by omega)] at h27
  have h52 := fun a w' (h : Limbs w' a (dig B32 m)) => pow_arg a m n w' h.is (by omega) hn
  have h41 := fun b w => is_err b 1 w (by omega)
  obtain ⟨D, hD⟩ : ∃ D, (dig B32 m).length = D := ⟨_, rfl⟩
  rw [hD] at hD2
  have hz0 : ((D : Int) == 0) = false := by simp; omega
  have hz1 : ((D : Int) == 1) = false := by simp; omega
  have HCUT := Lib.hid hcut
  have HLU := Lib.hid hlu
  have H27 := Lib.hid h27
  have H52 := Lib.hid h52
  have H41 := Lib.hid h41
  have HD := Lib.hid hD
  clear hcut hlu h27 h52 h41 hD
  clear hA hL hnil l1 hm lb
  go_enter Try.func8, Try.ntmps8
  go_wp2_with (fail)
  refine (HCUT.out _ (Below.refl _ _)).mono ?_
  rintro e w1 ⟨va, rfl, hva, hb1⟩
  have b1 := below_at (Below.refl _ _) (Nat.le_refl _) hb1
  have ka_1 := HLU.out _ _ _ hva
  have kk := ka_1
  obtain ⟨A1, c1, hve, hq1', _, hA1⟩ := kk
  rw [HD.out] at hve hq1'
  subst hve
  go_wp2_with (fail)
  refine (H27.out _ _ ka_1).mono ?_
  rintro e w2 ⟨rfl, rfl⟩
  go_wp2_with (fail)
  refine (H52.out _ _ ka_1).mono ?_
  rintro e w3 ⟨rfl, hb3⟩
  have b3 := below_at b1 (Nat.le_refl _) hb3
  have ka_3 := ka_1.keep hb3
  go_wp2_with (fail)
  refine (lives_any _).mono ?_
  rintro e w4 ⟨rfl, hb4⟩
  have b4 := below_at b3 (Nat.le_refl _) hb4
  have ka_4 := ka_3.keep hb4
  go_wp2_with (fail)
  refine (H41.out _ _).mono ?_
  rintro e w5 ⟨rfl, hb5⟩
  have b5 := below_at b4 (Nat.le_refl _) hb5
  have ka_5 := ka_4.keep hb5
  go_wp2
  go_ret
  exact ⟨rfl, b5⟩

set_option maxHeartbeats 2000000 in
set_option maxRecDepth 100000 in
theorem powers_multi_0 (A : Option Addr) (c L : Nat) (n : Int) (xs : List Nat) (w : World) (hA : Nums .u32 w A xs) (hL : L = xs.length) (hc : L ≤ c) (hnil : A = none → c = 0) (m : Nat) (hm : xs.take 6 = dig B32 m) (hmm : 2 ≤ m) (hD2 : 2 ≤ (dig B32 m).length) (hn : n = 0) : Calls Try.prog 8 #[.slice A L c, .int .i64 n] w (LivesPost w) := by
  have hcut := fun w' (h : Below w.heap.size w w') => cut_any A c L 6 xs w' (hA.keep h) hL hc hnil (by omega)
  have l1 : (xs.take 6).length ≤ 6 := by rw [List.length_take]; omega
  rw [hm] at hcut l1
  have lb : nbits m ≤ 192 := Nat.le_trans (bits_of_len l1) (by omega)
  have hlu : ∀ B w' a, OwnLs B w' a (dig B32 m) → Limbs w' a (dig B32 m) := fun B w' a h => h.limbs (by omega)
  have h27 := fun a w h => refCheck_l a (dig B32 m) w h
  rw [chk_dig (by omega)] at h27
  have h52 : ∀ a w', Limbs w' a (dig B32 m) → Calls Try.prog 52 #[a, .int .i64 0] w' (NatOk w' 1) := fun a w' h => pow_ok a m 0 w' h.is (by omega) (by omega) (by omega)
  have h34 := fun w => refOf_any 1 (by decide) w
  have hl1 : (dig B32 1).length ≤ 2 := len_u64 (by decide)
  have h41 : ∀ (B : Nat) (a : Value) (w' : World), N32 w' a 1 → ∀ b, OwnLs B w' b (dig B32 1) → Calls Try.prog 41 #[a, .int .i64 0, b, .int .i64 0] w' (LivesPost w') := fun B a w' h b kk => is_ok a b 1 w' h (kk.limbs (by omega)) (by omega)
  obtain ⟨D, hD⟩ : ∃ D, (dig B32 m).length = D := ⟨_, rfl⟩
  rw [hD] at hD2
  have hz0 : ((D : Int) == 0) = false := by simp; omega
  have hz1 : ((D : Int) == 1) = false := by simp; omega
  subst hn
  have HCUT := Lib.hid hcut
  have HLU := Lib.hid hlu
  have H27 := Lib.hid h27
  have H52 := Lib.hid h52
  have H41 := Lib.hid h41
  have HD := Lib.hid hD
  have H34 := Lib.hid h34
  clear hcut hlu h27 h52 h41 hD h34
  clear hA hL hnil l1 hm lb hl1
  go_enter Try.func8, Try.ntmps8
  go_wp2_with (fail)
  refine (HCUT.out _ (Below.refl _ _)).mono ?_
  rintro e w1 ⟨va, rfl, hva, hb1⟩
  have b1 := below_at (Below.refl _ _) (Nat.le_refl _) hb1
  have ka_1 := HLU.out _ _ _ hva
  have kk := ka_1
  obtain ⟨A1, c1, hve, hq1', _, hA1⟩ := kk
  rw [HD.out] at hve hq1'
  subst hve
  go_wp2_with (fail)
  refine (H27.out _ _ ka_1).mono ?_
  rintro e w2 ⟨rfl, rfl⟩
  go_wp2_with (fail)
  refine (H52.out _ _ ka_1).mono ?_
  rintro e w3 ⟨vs, rfl, hvs, hb3⟩
  have b3 := below_at b1 (Nat.le_refl _) hb3
  have ks_3 := hvs.is
  go_wp2_with (fail)
  refine (lives_any _).mono ?_
  rintro e w4 ⟨rfl, hb4⟩
  have b4 := below_at b3 (Nat.le_refl _) hb4
  have ks_4 := ks_3.keep hb4
  go_wp2_with (fail)
  refine (H34.out _).mono ?_
  rintro e w5 ⟨vr, rfl, hvr, hb5⟩
  have b5 := below_at b4 (Nat.le_refl _) hb5
  have ks_5 := ks_4.keep hb5
  go_wp2_with (fail)
  refine (H41.out _ _ _ ks_5 _ hvr).mono ?_
  rintro e w6 ⟨rfl, hb6⟩
  have b6 := below_at b5 (Nat.le_refl _) hb6
  go_wp2
  go_ret
  exact ⟨rfl, b6⟩

set_option maxHeartbeats 2000000 in
set_option maxRecDepth 100000 in
theorem powers_multi_pos (A : Option Addr) (c L : Nat) (n : Int) (xs : List Nat) (w : World) (hA : Nums .u32 w A xs) (hL : L = xs.length) (hc : L ≤ c) (hnil : A = none → c = 0) (m : Nat) (hm : xs.take 6 = dig B32 m) (hmm : 2 ≤ m) (hD2 : 2 ≤ (dig B32 m).length) (k : Nat) (hk0 : 0 < k) (hk : k ≤ 60) (hn : n = (k : Int)) : Calls Try.prog 8 #[.slice A L c, .int .i64 n] w (LivesPost w) := by
  have hcut := fun w' (h : Below w.heap.size w w') => cut_any A c L 6 xs w' (hA.keep h) hL hc hnil (by omega)
  have l1 : (xs.take 6).length ≤ 6 := by rw [List.length_take]; omega
  rw [hm] at hcut l1
  have lb : nbits m ≤ 192 := Nat.le_trans (bits_of_len l1) (by omega)
  have hlu : ∀ B w' a, OwnLs B w' a (dig B32 m) → Limbs w' a (dig B32 m) := fun B w' a h => h.limbs (by omega)
  have h27 := fun a w h => refCheck_l a (dig B32 m) w h
  rw [chk_dig (by omega)] at h27
  have hlp : ∀ j, j ≤ k → (dig B32 (m ^ j)).length ≤ 500 := fun j hj => by
    have h1 := nbits_pow_le m j
    have h2 := Nat.mul_le_mul (Nat.le_trans hj hk) lb
    exact len32_of_bits (Nat.le_trans h1 (by omega))
  have h52 := fun a w' (h : Limbs w' a (dig B32 m)) => pow_ok a m k w' h.is (by omega) (by omega) (by omega)
  have h53 := fun a w' (h : Limbs w' a (dig B32 m)) => refPow_any a m k w' h.is (by omega) (by omega) hlp
  have hlk := hlp k (Nat.le_refl _)
  have h41 := fun a w' (h : N32 w' a (m ^ k)) b (kk : N32 w' b (m ^ k)) => is_ok a b (m ^ k) w' h (Limbs.num kk (by omega)) (by omega)
  clear hlp hlk
  obtain ⟨D, hD⟩ : ∃ D, (dig B32 m).length = D := ⟨_, rfl⟩
  rw [hD] at hD2
  have hz0 : ((D : Int) == 0) = false := by simp; omega
  have hz1 : ((D : Int) == 1) = false := by simp; omega
  subst hn
  have HCUT := Lib.hid hcut
  have HLU := Lib.hid hlu
  have H27 := Lib.hid h27
  have H52 := Lib.hid h52
  have H41 := Lib.hid h41
  have HD := Lib.hid hD
  have H53 := Lib.hid h53
  clear hcut hlu h27 h52 h41 hD h53
  clear hA hL hnil l1 hm lb
  go_enter Try.func8, Try.ntmps8
  go_wp2_with (fail)
  refine (HCUT.out _ (Below.refl _ _)).mono ?_
  rintro e w1 ⟨va, rfl, hva, hb1⟩
  have b1 := below_at (Below.refl _ _) (Nat.le_refl _) hb1
  have ka_1 := HLU.out _ _ _ hva
  have kk := ka_1
  obtain ⟨A1, c1, hve, hq1', _, hA1⟩ := kk
  rw [HD.out] at hve hq1'
  subst hve
  go_wp2_with (fail)
  refine (H27.out _ _ ka_1).mono ?_
  rintro e w2 ⟨rfl, rfl⟩
  go_wp2_with (fail)
  refine (H52.out _ _ ka_1).mono ?_
  rintro e w3 ⟨vs, rfl, hvs, hb3⟩
  have b3 := below_at b1 (Nat.le_refl _) hb3
  have ka_3 := ka_1.keep hb3
  have ks_3 := hvs.is
  go_wp2_with (fail)
  refine (lives_any _).mono ?_
  rintro e w4 ⟨rfl, hb4⟩
  have b4 := below_at b3 (Nat.le_refl _) hb4
  have ka_4 := ka_3.keep hb4
  have ks_4 := ks_3.keep hb4
  go_wp2_with (fail)
  refine (H53.out _ _ ka_4).mono ?_
  rintro e w5 ⟨vr, rfl, hvr, hb5⟩
  have b5 := below_at b4 (Nat.le_refl _) hb5
  have ks_5 := ks_4.keep hb5
  go_wp2_with (fail)
  refine (H41.out _ _ ks_5 _ hvr).mono ?_
  rintro e w6 ⟨rfl, hb6⟩
  have b6 := below_at b5 (Nat.le_refl _) hb6
  go_wp2
  go_ret
  exact ⟨rfl, b6⟩

set_option maxHeartbeats 2000000 in
set_option maxRecDepth 100000 in
theorem powers_multi_mod0 (A : Option Addr) (c L : Nat) (n : Int) (xs : List Nat) (w : World) (hA : Nums .u32 w A xs) (hL : L = xs.length) (hc : L ≤ c) (hnil : A = none → c = 0) (m : Nat) (hm : xs.take 6 = dig B32 m) (hmm : 2 ≤ m) (hD2 : 2 ≤ (dig B32 m).length) (hn : 60 < n) (hn2 : n % 61 = 0) : Calls Try.prog 8 #[.slice A L c, .int .i64 n] w (LivesPost w) := by
  have hcut := fun w' (h : Below w.heap.size w w') => cut_any A c L 6 xs w' (hA.keep h) hL hc hnil (by omega)
  have l1 : (xs.take 6).length ≤ 6 := by rw [List.length_take]; omega
  rw [hm] at hcut l1
  have lb : nbits m ≤ 192 := Nat.le_trans (bits_of_len l1) (by omega)
  have hlu : ∀ B w' a, OwnLs B w' a (dig B32 m) → Limbs w' a (dig B32 m) := fun B w' a h => h.limbs (by omega)
  have h27 := fun a w h => refCheck_l a (dig B32 m) w h
  rw [chk_dig (by omega)] at h27
  have h52 : ∀ a w', Limbs w' a (dig B32 m) → Calls Try.prog 52 #[a, .int .i64 0] w' (NatOk w' 1) := fun a w' h => pow_ok a m 0 w' h.is (by omega) (by omega) (by omega)
  have h34 := fun w => refOf_any 1 (by decide) w
  have hl1 : (dig B32 1).length ≤ 2 := len_u64 (by decide)
  have h41 : ∀ (B : Nat) (a : Value) (w' : World), N32 w' a 1 → ∀ b, OwnLs B w' b (dig B32 1) → Calls Try.prog 41 #[a, .int .i64 0, b, .int .i64 0] w' (LivesPost w') := fun B a w' h b kk => is_ok a b 1 w' h (kk.limbs (by omega)) (by omega)
  obtain ⟨D, hD⟩ : ∃ D, (dig B32 m).length = D := ⟨_, rfl⟩
  rw [hD] at hD2
  have hz0 : ((D : Int) == 0) = false := by simp; omega
  have hz1 : ((D : Int) == 1) = false := by simp; omega
  have q1 : n.tmod 61 = 0 := by rw [Int.tmod_eq_emod_of_nonneg (by omega)]; exact hn2
  have HCUT := Lib.hid hcut
  have HLU := Lib.hid hlu
  have H27 := Lib.hid h27
  have H52 := Lib.hid h52
  have H41 := Lib.hid h41
  have HD := Lib.hid hD
  have H34 := Lib.hid h34
  clear hcut hlu h27 h52 h41 hD h34
  clear hA hL hnil l1 hm lb hl1
  go_enter Try.func8, Try.ntmps8
  go_wp2_with (fail)
  refine (HCUT.out _ (Below.refl _ _)).mono ?_
  rintro e w1 ⟨va, rfl, hva, hb1⟩
  have b1 := below_at (Below.refl _ _) (Nat.le_refl _) hb1
  have ka_1 := HLU.out _ _ _ hva
  have kk := ka_1
  obtain ⟨A1, c1, hve, hq1', _, hA1⟩ := kk
  rw [HD.out] at hve hq1'
  subst hve
  go_wp2_with (fail)
  refine (H27.out _ _ ka_1).mono ?_
  rintro e w2 ⟨rfl, rfl⟩
  go_wp2_with (fail)
  refine (H52.out _ _ ka_1).mono ?_
  rintro e w3 ⟨vs, rfl, hvs, hb3⟩
  have b3 := below_at b1 (Nat.le_refl _) hb3
  have ks_3 := hvs.is
  go_wp2_with (fail)
  refine (lives_any _).mono ?_
  rintro e w4 ⟨rfl, hb4⟩
  have b4 := below_at b3 (Nat.le_refl _) hb4
  have ks_4 := ks_3.keep hb4
  go_wp2_with (fail)
  refine (H34.out _).mono ?_
  rintro e w5 ⟨vr, rfl, hvr, hb5⟩
  have b5 := below_at b4 (Nat.le_refl _) hb5
  have ks_5 := ks_4.keep hb5
  go_wp2_with (fail)
  refine (H41.out _ _ _ ks_5 _ hvr).mono ?_
  rintro e w6 ⟨rfl, hb6⟩
  have b6 := below_at b5 (Nat.le_refl _) hb6
  go_wp2
  go_ret
  exact ⟨rfl, b6⟩

set_option maxHeartbeats 2000000 in
set_option maxRecDepth 100000 in
theorem powers_multi_modpos (A : Option Addr) (c L : Nat) (n : Int) (xs : List Nat) (w : World) (hA : Nums .u32 w A xs) (hL : L = xs.length) (hc : L ≤ c) (hnil : A = none → c = 0) (m : Nat) (hm : xs.take 6 = dig B32 m) (hmm : 2 ≤ m) (hD2 : 2 ≤ (dig B32 m).length) (k : Nat) (hk0 : 0 < k) (hk : k ≤ 60) (hn : 60 < n) (hn2 : n % 61 = (k : Int)) : Calls Try.prog 8 #[.slice A L c, .int .i64 n] w (LivesPost w) := by
  have hcut := fun w' (h : Below w.heap.size w w') => cut_any A c L 6 xs w' (hA.keep h) hL hc hnil (by omega)
  have l1 : (xs.take 6).length ≤ 6 := by rw [List.length_take]; omega
  rw [hm] at hcut l1
  have lb : nbits m ≤ 192 := Nat.le_trans (bits_of_len l1) (by omega)
  have hlu : ∀ B w' a, OwnLs B w' a (dig B32 m) → Limbs w' a (dig B32 m) := fun B w' a h => h.limbs (by omega)
  have h27 := fun a w h => refCheck_l a (dig B32 m) w h
  rw [chk_dig (by omega)] at h27
  have hlp : ∀ j, j ≤ k → (dig B32 (m ^ j)).length ≤ 500 := fun j hj => by
    have h1 := nbits_pow_le m j
    have h2 := Nat.mul_le_mul (Nat.le_trans hj hk) lb
    exact len32_of_bits (Nat.le_trans h1 (by omega))
  have h52 := fun a w' (h : Limbs w' a (dig B32 m)) => pow_ok a m k w' h.is (by omega) (by omega) (by omega)
  have h53 := fun a w' (h : Limbs w' a (dig B32 m)) => refPow_any a m k w' h.is (by omega) (by omega) hlp
  have hlk := hlp k (Nat.le_refl _)
  have h41 := fun a w' (h : N32 w' a (m ^ k)) b (kk : N32 w' b (m ^ k)) => is_ok a b (m ^ k) w' h (Limbs.num kk (by omega)) (by omega)
  clear hlp hlk
  obtain ⟨D, hD⟩ : ∃ D, (dig B32 m).length = D := ⟨_, rfl⟩
  rw [hD] at hD2
  have hz0 : ((D : Int) == 0) = false := by simp; omega
  have hz1 : ((D : Int) == 1) = false := by simp; omega
  have q1 : n.tmod 61 = (k : Int) := by rw [Int.tmod_eq_emod_of_nonneg (by omega)]; exact hn2
  have HCUT := Lib.hid hcut
  have HLU := Lib.hid hlu
  have H27 := Lib.hid h27
  have H52 := Lib.hid h52
  have H41 := Lib.hid h41
  have HD := Lib.hid hD
  have H53 := Lib.hid h53
  clear hcut hlu h27 h52 h41 hD h53
  clear hA hL hnil l1 hm lb
  go_enter Try.func8, Try.ntmps8
  go_wp2_with (fail)
  refine (HCUT.out _ (Below.refl _ _)).mono ?_
  rintro e w1 ⟨va, rfl, hva, hb1⟩
  have b1 := below_at (Below.refl _ _) (Nat.le_refl _) hb1
  have ka_1 := HLU.out _ _ _ hva
  have kk := ka_1
  obtain ⟨A1, c1, hve, hq1', _, hA1⟩ := kk
  rw [HD.out] at hve hq1'
  subst hve
  go_wp2_with (fail)
  refine (H27.out _ _ ka_1).mono ?_
  rintro e w2 ⟨rfl, rfl⟩
  go_wp2_with (fail)
  refine (H52.out _ _ ka_1).mono ?_
  rintro e w3 ⟨vs, rfl, hvs, hb3⟩
  have b3 := below_at b1 (Nat.le_refl _) hb3
  have ka_3 := ka_1.keep hb3
  have ks_3 := hvs.is
  go_wp2_with (fail)
  refine (lives_any _).mono ?_
  rintro e w4 ⟨rfl, hb4⟩
  have b4 := below_at b3 (Nat.le_refl _) hb4
  have ka_4 := ka_3.keep hb4
  have ks_4 := ks_3.keep hb4
  go_wp2_with (fail)
  refine (H53.out _ _ ka_4).mono ?_
  rintro e w5 ⟨vr, rfl, hvr, hb5⟩
  have b5 := below_at b4 (Nat.le_refl _) hb5
  have ks_5 := ks_4.keep hb5
  go_wp2_with (fail)
  refine (H41.out _ _ ks_5 _ hvr).mono ?_
  rintro e w6 ⟨rfl, hb6⟩
  have b6 := below_at b5 (Nat.le_refl _) hb6
  go_wp2
  go_ret
  exact ⟨rfl, b6⟩

/-- The law NatPowers, for whatever limbs and whatever exponent. -/
theorem powers_walk (A : Option Addr) (c L : Nat) (n : Int) (xs : List Nat) (w : World) (hA : Nums .u32 w A xs) (hL : L = xs.length) (hc : L ≤ c) (hnil : A = none → c = 0) (hlow : Low B32 xs) (hi : n < 9223372036854775808) : Calls Try.prog 8 #[.slice A L c, .int .i64 n] w (LivesPost w) := by
  by_cases hb : chk (xs.take 6) = 0
  · have hm := chk_zero (hlow.take 6) hb
    generalize val B32 (xs.take 6) = m at hm
    rcases Nat.lt_or_ge m 2 with h2 | h2
    · rcases Int.lt_trichotomy n 0 with h | h | h
      · rcases Nat.eq_zero_or_pos m with h0 | h0
        · exact powers_zero_neg A c L n xs w hA hL hc hnil m hm h0 h
        · exact powers_one_neg A c L n xs w hA hL hc hnil m hm (by omega) h
      · rcases Nat.eq_zero_or_pos m with h0 | h0
        · exact powers_zero_0 A c L n xs w hA hL hc hnil m hm h0 h
        · exact powers_one_0 A c L n xs w hA hL hc hnil m hm (by omega) h
      · rcases Nat.eq_zero_or_pos m with h0 | h0
        · rcases Int.lt_or_le 60 n with h3 | h3
          · exact powers_zero_big A c L n xs w hA hL hc hnil m hm h0 n.toNat (by omega) (by omega) (by omega) (by omega)
          · exact powers_zero_pos A c L n xs w hA hL hc hnil m hm h0 n.toNat (by omega) (by omega) (by omega) (by omega)
        · rcases Int.lt_or_le 60 n with h3 | h3
          · exact powers_one_big A c L n xs w hA hL hc hnil m hm (by omega) n.toNat (by omega) (by omega) (by omega) (by omega)
          · exact powers_one_pos A c L n xs w hA hL hc hnil m hm (by omega) n.toNat (by omega) (by omega) (by omega) (by omega)
    · have hlen : 1 ≤ (dig B32 m).length := by
        rcases Nat.eq_zero_or_pos (dig B32 m).length with h0 | h0
        · have := (dig_nil_iff b32_two).1 (List.eq_nil_of_length_eq_zero h0); omega
        · exact h0
      rcases Nat.lt_or_ge (dig B32 m).length 2 with h1 | h1
      · have h1' : (dig B32 m).length = 1 := by omega
        rcases Int.lt_trichotomy n 0 with h | h | h
        · exact powers_single_neg A c L n xs w hA hL hc hnil m hm h2 h1' h
        · exact powers_single_0 A c L n xs w hA hL hc hnil m hm h2 h1' h
        · rcases Int.lt_or_le 60 n with h3 | h3
          · by_cases h4 : n % 61 = 0
            · exact powers_single_mod0 A c L n xs w hA hL hc hnil m hm h2 h1' h3 h4
            · exact powers_single_modpos A c L n xs w hA hL hc hnil m hm h2 h1' (n % 61).toNat (by omega) (by omega) h3 (by omega)
          · exact powers_single_pos A c L n xs w hA hL hc hnil m hm h2 h1' n.toNat (by omega) (by omega) (by omega)
      · rcases Int.lt_trichotomy n 0 with h | h | h
        · exact powers_multi_neg A c L n xs w hA hL hc hnil m hm h2 h1 h
        · exact powers_multi_0 A c L n xs w hA hL hc hnil m hm h2 h1 h
        · rcases Int.lt_or_le 60 n with h3 | h3
          · by_cases h4 : n % 61 = 0
            · exact powers_multi_mod0 A c L n xs w hA hL hc hnil m hm h2 h1 h3 h4
            · exact powers_multi_modpos A c L n xs w hA hL hc hnil m hm h2 h1 (n % 61).toNat (by omega) (by omega) h3 (by omega)
          · exact powers_multi_pos A c L n xs w hA hL hc hnil m hm h2 h1 n.toNat (by omega) (by omega) (by omega)
  · have hne : 0 < (xs.take 6).length := by
      rcases Nat.eq_zero_or_pos (xs.take 6).length with h0 | h0
      · exfalso; apply hb; unfold chk; rw [if_neg (by omega), if_neg (by omega)]
      · exact h0
    have hl6 : (xs.take 6).length ≤ 6 := by rw [List.length_take]; omega
    rcases Nat.lt_or_ge (xs.take 6).length 2 with h1 | h1
    · have h1' : (xs.take 6).length = 1 := by omega
      have h00 : (xs.take 6)[0]? = some 0 := by
        rw [List.getElem?_eq_getElem hne]
        congr 1
        apply Classical.byContradiction
        intro h3
        apply hb
        unfold chk
        rw [if_neg (by omega), if_neg]
        rintro ⟨_, h4⟩
        rw [h1', List.getD_eq_getElem?_getD, List.getElem?_eq_getElem (by omega)] at h4
        exact h3 h4
      rcases Int.lt_or_le 60 n with h3 | h3
      · exact powers_bad_single_gt A c L n xs w hA hL hc hnil hb h1' h00 h3
      · exact powers_bad_single_le A c L n xs w hA hL hc hnil hb h1' h00 h3
    · rcases Int.lt_or_le 60 n with h3 | h3
      · exact powers_bad_multi_gt A c L n xs w hA hL hc hnil hb h1 h3
      · exact powers_bad_multi_le A c L n xs w hA hL hc hnil hb h1 h3
end Go.Proofs.Ytaegkhdkhgemmaa

namespace Go.Proofs.Ytaegkhdkhgemmaa
open Go.RowKit Num

/-- The length in a slot: for a loop's measure. -/
def lenOf : Value → Nat | .slice _ n _ => n | _ => 0

theorem limbs_cut {w : World} {A : Option Addr} {c : Nat} {xs : List Nat} (h : Limbs w (.slice A xs.length c) xs) : ∀ i, 0 < xs.length → i < xs.length → ∃ g off v, A = some ⟨g, off, none⟩ ∧ g < w.heap.size ∧ xs[i]? = some v ∧ w.cell? ⟨g, off + i, none⟩ = some (.int .u32 (v : Int)) := by
  intro i _ hi
  obtain ⟨A', c', e, _, _, hn⟩ := h
  injection e with e1 e2 e3
  subst e1
  exact hn.at_ hi

set_option maxHeartbeats 1000000 in
set_option maxRecDepth 100000 in
/-- whole: cut, then without the zeros at the end. -/
theorem whole_any (A : Option Addr) (c L n : Nat) (xs : List Nat) (w : World) (hA : Nums .u32 w A xs) (hlow : Low B32 xs) (hL : L = xs.length) (hc : L ≤ c) (hnil : A = none → c = 0) (hn : n ≤ 1000) :
    Calls Try.prog 69 #[.slice A L c, .int .i64 (n : Int)] w fun e w' => ∃ v, e = .returned v ∧ N32 w' v (val B32 (xs.take n)) ∧ Below w.heap.size w w' := by
  have hcut := cut_any A c L n xs w hA hL hc hnil hn
  have hlow' := hlow.take n
  have hlen : (xs.take n).length ≤ 1000 := by rw [List.length_take]; omega
  generalize xs.take n = ys at *
  obtain ⟨r, hr⟩ : ∃ r, val B32 ys = r := ⟨_, rfl⟩
  have fin : ∀ k, k ≤ ys.length → ZeroFrom ys k → (∀ v, 0 < k → ys[k - 1]? = some v → v ≠ 0) → ys.take k = dig B32 r := fun k hk hz hn => by rw [← hr]; exact trim_val b32_two hlow' hk hz hn
  have FIN := Lib.hid fin
  have HC := Lib.hid hcut
  have HR := Lib.hid hr
  rw [hr]
  clear hcut hA hL hnil fin hr
  go_enter Try.func69, Try.ntmps69
  go_wp2_with (go_at_call 26
               refine HC.out.mono ?_
               rintro e w1 ⟨v1, rfl, hv1, hb1⟩
               obtain ⟨A1, c1, he1, hc1, hn1⟩ := own_reads hv1
               have HV1 := Lib.hid hv1
               clear hv1
               subst he1)
  go_loop [0] (fun t => ∃ k : Nat, k ≤ ys.length ∧ t = .slice A1 k c1 ∧ ZeroFrom ys k) (fun t => lenOf t)
  case atStart => exact ⟨ys.length, Nat.le_refl _, rfl, fun i v hv hi => by have := (List.getElem?_eq_some_iff.1 hv).1; omega⟩
  case round =>
    obtain ⟨k, hk, rfl, hz⟩ := hrel
    have hex : (∃ v, 0 < k ∧ ys[k - 1]? = some v ∧ v = 0) ∨ (∀ v, 0 < k → ys[k - 1]? = some v → v ≠ 0) := by
      by_cases hh : ∃ v, 0 < k ∧ ys[k - 1]? = some v ∧ v = 0
      · exact .inl hh
      · exact .inr fun v h1 h2 h3 => hh ⟨v, h1, h2, h3⟩
    rcases hex with ⟨v, hp, hv, hv0⟩ | hfin
    · obtain ⟨g, off, v', rfl, hg, hv', hc2⟩ := hn1.at_ (i := k - 1) (by omega)
      have e : v' = v := by rw [hv] at hv'; injection hv' with hv'; exact hv'.symm
      subst e
      have hq : ((v' : Int) == 0) = true := by simp [hv0]
      have HV := Lib.hid hv
      have H0 := Lib.hid hv0
      clear hv hv' hv0 hn1
      go_wp2
      go_round
      case rel =>
        refine ⟨k - 1, by omega, rfl, fun i u hu hi => ?_⟩
        by_cases e : i = k - 1
        · have := HV.out; rw [e] at hu; rw [hu] at this; injection this with this; rw [this]; exact H0.out
        · exact hz i u hu (by omega)
      case measure => simp [lenOf]; omega
    · have htk := FIN.out k hk hz hfin
      have hlen2 : (dig B32 r).length = k := by rw [← htk, List.length_take]; omega
      have hnum : Nums .u32 w1 A1 (dig B32 r) := by rw [← htk]; exact hn1.take k
      have hres : N32 w1 (.slice A1 k c1) r := ⟨A1, c1, by rw [hlen2], by rw [hlen2]; omega, hnum⟩
      have HRES := Lib.hid hres
      clear htk hlen2 hnum hres
      by_cases hp : 0 < k
      · obtain ⟨g, off, v, rfl, hg, hv, hc2⟩ := hn1.at_ (i := k - 1) (by omega)
        have hq : ((v : Int) == 0) = false := by have := hfin v hp hv; simp; omega
        have HV := Lib.hid hv
        clear hv hn1 hfin
        go_wp2
        go_ret
        exact ⟨_, rfl, HRES.out, hb1⟩
      · clear hn1 hfin
        go_wp2
        go_ret
        exact ⟨_, rfl, HRES.out, hb1⟩
end Go.Proofs.Ytaegkhdkhgemmaa

namespace Go.Proofs.Ytaegkhdkhgemmaa
open Go.RowKit Num

/-- A number is returned; nothing that was there has turned. -/
def NumRet (w : World) (n : Nat) (e : Ending) (w' : World) : Prop := ∃ v, e = .returned v ∧ N32 w' v n ∧ Below w.heap.size w w'

theorem len_add {m n K : Nat} (hm : (dig B32 m).length ≤ K) (hn : (dig B32 n).length ≤ K) : (dig B32 (m + n)).length ≤ K + 1 := by
  have h1 := Nat.lt_of_lt_of_le (dig_len_lt b32_two (n := m)) (Nat.pow_le_pow_right b32_pos hm)
  have h2 := Nat.lt_of_lt_of_le (dig_len_lt b32_two (n := n)) (Nat.pow_le_pow_right b32_pos hn)
  exact dig_len_le b32_two (two_pow_lt b32_two h1 h2)
theorem len_mul {m n K J : Nat} (hm : (dig B32 m).length ≤ K) (hn : (dig B32 n).length ≤ J) : (dig B32 (m * n)).length ≤ K + J := by
  have h1 := Nat.lt_of_lt_of_le (dig_len_lt b32_two (n := m)) (Nat.pow_le_pow_right b32_pos hm)
  have h2 := Nat.lt_of_lt_of_le (dig_len_lt b32_two (n := n)) (Nat.pow_le_pow_right b32_pos hn)
  refine dig_len_le b32_two ?_
  rw [Nat.pow_add]
  exact Nat.mul_lt_mul_of_lt_of_lt h1 h2

set_option maxHeartbeats 400000 in
theorem add_n (a b : Value) (m n : Nat) (w : World) (ha : N32 w a m) (hb : N32 w b n) (hm : (dig B32 m).length ≤ 1000) (hn : (dig B32 n).length ≤ 1000) : Calls Try.prog 71 #[a, b] w (NumRet w (m + n)) := by
  have h := add_ok a b m n w ha hb (by omega) (by omega) (Nat.le_trans (bits_of_len (len_add hm hn)) (by omega))
  have H := Lib.hid h
  clear h ha hb
  go_enter Try.func71, Try.ntmps71
  go_wp2_with (go_at_call 37; refine H.out.mono ?_; rintro e w1 ⟨v, rfl, hv, hb1⟩)
  go_ret
  exact ⟨_, rfl, hv.is, hb1⟩
set_option maxHeartbeats 400000 in
theorem sub_n (a b : Value) (m n : Nat) (w : World) (ha : N32 w a m) (hb : N32 w b n) (hm : (dig B32 m).length ≤ 1000) (hn : (dig B32 n).length ≤ 1000) (hle : n ≤ m) : Calls Try.prog 73 #[a, b] w (NumRet w (m - n)) := by
  have h := sub_ok a b m n w ha hb (by omega) (by omega) hle
  have H := Lib.hid h
  clear h ha hb hle
  go_enter Try.func73, Try.ntmps73
  go_wp2_with (go_at_call 38; refine H.out.mono ?_; rintro e w1 ⟨v, rfl, hv, hb1⟩)
  go_ret
  exact ⟨_, rfl, hv.is, hb1⟩
set_option maxHeartbeats 400000 in
theorem mul_n (a b : Value) (m n : Nat) (w : World) (ha : N32 w a m) (hb : N32 w b n) (hm : (dig B32 m).length ≤ 1000) (hn : (dig B32 n).length ≤ 1000) (hs : (dig B32 m).length ≤ 158 ∨ (dig B32 n).length ≤ 158) : Calls Try.prog 72 #[a, b] w (NumRet w (m * n)) := by
  have lm := words_le (n := m) (K := 500) hm
  have ln := words_le (n := n) (K := 500) hn
  have hsh : (dig B64 m).length ≤ 79 ∨ (dig B64 n).length ≤ 79 := by
    rcases hs with h | h
    · exact .inl (words_le (K := 79) h)
    · exact .inr (words_le (K := 79) h)
  have h := mul_at (N := 500) a b m n w (mulAt_short (by omega) (by omega) hsh) (by omega) ha hb (by omega) (by omega) (by omega) (by omega) (Nat.le_trans (bits_of_len (len_mul hm hn)) (by omega))
  have H := Lib.hid h
  clear h ha hb hs hsh
  go_enter Try.func72, Try.ntmps72
  go_wp2_with (go_at_call 45; refine H.out.mono ?_; rintro e w1 ⟨v, rfl, hv, hb1⟩)
  go_ret
  exact ⟨_, rfl, hv.is, hb1⟩
set_option maxHeartbeats 400000 in
theorem same_n (a b : Value) (n : Nat) (w : World) (ha : N32 w a n) (hb : N32 w b n) (hl : (dig B32 n).length ≤ 1000) : Calls Try.prog 70 #[a, b] w (LivesPost w) := by
  have hs := same_nums a b _ _ w (Limbs.num ha (by omega)) (Limbs.num hb (by omega))
  rw [decide_eq_true rfl] at hs
  have H := Lib.hid hs
  clear hs ha hb
  go_enter Try.func70, Try.ntmps70
  go_wp2_with (go_at_call 32; refine H.out.mono ?_; rintro e w1 ⟨rfl, hb1⟩)
  go_ret
  exact ⟨rfl, hb1⟩

theorem whole_len {xs : List Nat} (h : Low B32 xs) (n : Nat) : (dig B32 (val B32 (xs.take n))).length ≤ n := by
  refine Nat.le_trans (trim_le b32_two (h.take n)) ?_
  rw [List.length_take]; omega

set_option maxHeartbeats 4000000 in
set_option maxRecDepth 100000 in
/-- The law NatRing, for whatever limbs. -/
theorem ring_walk (A A1 A2 : Option Addr) (c c1 c2 L L1 L2 : Nat) (xs ys zs : List Nat) (w : World) (hA : Nums .u32 w A xs) (hA1 : Nums .u32 w A1 ys) (hA2 : Nums .u32 w A2 zs) (hx : Low B32 xs) (hy : Low B32 ys) (hz : Low B32 zs)
    (hL : L = xs.length) (hL1 : L1 = ys.length) (hL2 : L2 = zs.length) (hc : L ≤ c) (hc1 : L1 ≤ c1) (hc2 : L2 ≤ c2) (hnil : A = none → c = 0) (hnil1 : A1 = none → c1 = 0) (hnil2 : A2 = none → c2 = 0) :
    Calls Try.prog 15 #[.slice A L c, .slice A1 L1 c1, .slice A2 L2 c2] w (LivesPost w) := by
  have hw0 := fun w' (h : Below w.heap.size w w') => whole_any A c L 80 xs w' (hA.keep h) hx hL hc hnil (by omega)
  have hw1 := fun w' (h : Below w.heap.size w w') => whole_any A1 c1 L1 80 ys w' (hA1.keep h) hy hL1 hc1 hnil1 (by omega)
  have hw2 := fun w' (h : Below w.heap.size w w') => whole_any A2 c2 L2 80 zs w' (hA2.keep h) hz hL2 hc2 hnil2 (by omega)
  have lp := whole_len hx 80
  have lq := whole_len hy 80
  have lr := whole_len hz 80
  generalize val B32 (xs.take 80) = p at *
  generalize val B32 (ys.take 80) = q at *
  generalize val B32 (zs.take 80) = r at *
  have lpq := len_add lp lq
  have lqr := len_add lq lr
  have lpqr : (dig B32 (p + q + r)).length ≤ 82 := len_add lpq (Nat.le_trans lr (by omega))
  have mpq := len_mul lp lq
  have mqr := len_mul lq lr
  have mpr := len_mul lp lr
  have mpqr : (dig B32 (p * q * r)).length ≤ 240 := len_mul mpq lr
  have mps := len_mul lp lqr
  have hapq := fun a b w h k => add_n a b p q w h k (by omega) (by omega)
  have haqp := fun a b w h k => add_n a b q p w h k (by omega) (by omega)
  have hapqr := fun a b w h k => add_n a b (p + q) r w h k (by omega) (by omega)
  have haqr := fun a b w h k => add_n a b q r w h k (by omega) (by omega)
  have hapqr2 := fun a b w h k => add_n a b p (q + r) w h k (by omega) (by omega)
  have hmpq := fun a b w h k => mul_n a b p q w h k (by omega) (by omega) (.inl (by omega))
  have hmqp := fun a b w h k => mul_n a b q p w h k (by omega) (by omega) (.inl (by omega))
  have hmpqr := fun a b w h k => mul_n a b (p * q) r w h k (by omega) (by omega) (.inr (by omega))
  have hmqr := fun a b w h k => mul_n a b q r w h k (by omega) (by omega) (.inl (by omega))
  have hmpqr2 := fun a b w h k => mul_n a b p (q * r) w h k (by omega) (by omega) (.inl (by omega))
  have hmps := fun a b w h k => mul_n a b p (q + r) w h k (by omega) (by omega) (.inl (by omega))
  have hmpr := fun a b w h k => mul_n a b p r w h k (by omega) (by omega) (.inl (by omega))
  have hadd := fun a b w h k => add_n a b (p * q) (p * r) w h k (by omega) (by omega)
  have hsub := fun a b w h k => sub_n a b (p + q) q w h k (by omega) (by omega) (by omega)
  have hs1 := fun a b w h k => same_n a b (p + q) w h k (by omega)
  have hs2 := fun a b w h k => same_n a b (p + q + r) w h k (by omega)
  have hs3 := fun a b w h k => same_n a b (p * q) w h k (by omega)
  have hs4 := fun a b w h k => same_n a b (p * q * r) w h k (by omega)
  have hs5 := fun a b w h k => same_n a b (p * (q + r)) w h k (by omega)
  have hs6 := fun a b w h k => same_n a b p w h k (by omega)
  rw [Nat.add_comm q p] at haqp
  rw [← Nat.add_assoc] at hapqr2
  rw [Nat.mul_comm q p] at hmqp
  rw [← Nat.mul_assoc] at hmpqr2
  rw [← Nat.mul_add] at hadd
  rw [Nat.add_sub_cancel] at hsub
  have HW0 := Lib.hid hw0
  have HW1 := Lib.hid hw1
  have HW2 := Lib.hid hw2
  have HAPQ := Lib.hid hapq
  have HAQP := Lib.hid haqp
  have HAPQR := Lib.hid hapqr
  have HAQR := Lib.hid haqr
  have HAPQR2 := Lib.hid hapqr2
  have HMPQ := Lib.hid hmpq
  have HMQP := Lib.hid hmqp
  have HMPQR := Lib.hid hmpqr
  have HMQR := Lib.hid hmqr
  have HMPQR2 := Lib.hid hmpqr2
  have HMPS := Lib.hid hmps
  have HMPR := Lib.hid hmpr
  have HADD := Lib.hid hadd
  have HSUB := Lib.hid hsub
  have HS1 := Lib.hid hs1
  have HS2 := Lib.hid hs2
  have HS3 := Lib.hid hs3
  have HS4 := Lib.hid hs4
  have HS5 := Lib.hid hs5
  have HS6 := Lib.hid hs6
  clear hw0 hw1 hw2 hapq haqp hapqr haqr hapqr2 hmpq hmqp hmpqr hmqr hmpqr2 hmps hmpr hadd hsub hs1 hs2 hs3 hs4 hs5 hs6 lp lq lr lpq lqr lpqr mpq mqr mpr mpqr mps hA hA1 hA2 hx hy hz hL hL1 hL2 hc hc1 hc2 hnil hnil1 hnil2
  go_enter Try.func15, Try.ntmps15
  go_wp2_with (fail)
  refine (HW0.out _ (Below.refl _ _)).mono ?_
  rintro e w1 ⟨va, rfl, g1, hb1⟩
  have b1 := hb1
  go_wp2_with (fail)
  refine (HW1.out _ b1).mono ?_
  rintro e w2 ⟨vb, rfl, g2, hb2⟩
  have b2 := below_at b1 (Nat.le_refl _) hb2
  have va_2 := g1.keep hb2
  go_wp2_with (fail)
  refine (HW2.out _ b2).mono ?_
  rintro e w3 ⟨vc, rfl, g3, hb3⟩
  have b3 := below_at b2 (Nat.le_refl _) hb3
  have va_3 := va_2.keep hb3
  have vb_3 := g2.keep hb3
  go_wp2_with (fail)
  refine (HAPQ.out _ _ _ va_3 vb_3).mono ?_
  rintro e w4 ⟨v1, rfl, g4, hb4⟩
  have b4 := below_at b3 (Nat.le_refl _) hb4
  have va_4 := va_3.keep hb4
  have vb_4 := vb_3.keep hb4
  have vc_4 := g3.keep hb4
  go_wp2_with (fail)
  refine (HAQP.out _ _ _ vb_4 va_4).mono ?_
  rintro e w5 ⟨v2, rfl, g5, hb5⟩
  have b5 := below_at b4 (Nat.le_refl _) hb5
  have va_5 := va_4.keep hb5
  have vb_5 := vb_4.keep hb5
  have vc_5 := vc_4.keep hb5
  have v1_5 := g4.keep hb5
  go_wp2_with (fail)
  refine (HS1.out _ _ _ v1_5 g5).mono ?_
  rintro e w6 ⟨rfl, hb6⟩
  have b6 := below_at b5 (Nat.le_refl _) hb6
  have va_6 := va_5.keep hb6
  have vb_6 := vb_5.keep hb6
  have vc_6 := vc_5.keep hb6
  have v1_6 := v1_5.keep hb6
  have v2_6 := g5.keep hb6
  go_wp2_with (fail)
  refine (HAPQ.out _ _ _ va_6 vb_6).mono ?_
  rintro e w7 ⟨v3, rfl, g7, hb7⟩
  have b7 := below_at b6 (Nat.le_refl _) hb7
  have va_7 := va_6.keep hb7
  have vb_7 := vb_6.keep hb7
  have vc_7 := vc_6.keep hb7
  go_wp2_with (fail)
  refine (HAPQR.out _ _ _ g7 vc_7).mono ?_
  rintro e w8 ⟨v4, rfl, g8, hb8⟩
  have b8 := below_at b7 (Nat.le_refl _) hb8
  have va_8 := va_7.keep hb8
  have vb_8 := vb_7.keep hb8
  have vc_8 := vc_7.keep hb8
  have v3_8 := g7.keep hb8
  go_wp2_with (fail)
  refine (HAQR.out _ _ _ vb_8 vc_8).mono ?_
  rintro e w9 ⟨v5, rfl, g9, hb9⟩
  have b9 := below_at b8 (Nat.le_refl _) hb9
  have va_9 := va_8.keep hb9
  have vb_9 := vb_8.keep hb9
  have vc_9 := vc_8.keep hb9
  have v3_9 := v3_8.keep hb9
  have v4_9 := g8.keep hb9
  go_wp2_with (fail)
  refine (HAPQR2.out _ _ _ va_9 g9).mono ?_
  rintro e w10 ⟨v6, rfl, g10, hb10⟩
  have b10 := below_at b9 (Nat.le_refl _) hb10
  have va_10 := va_9.keep hb10
  have vb_10 := vb_9.keep hb10
  have vc_10 := vc_9.keep hb10
  have v3_10 := v3_9.keep hb10
  have v4_10 := v4_9.keep hb10
  have v5_10 := g9.keep hb10
  go_wp2_with (fail)
  refine (HS2.out _ _ _ v4_10 g10).mono ?_
  rintro e w11 ⟨rfl, hb11⟩
  have b11 := below_at b10 (Nat.le_refl _) hb11
  have va_11 := va_10.keep hb11
  have vb_11 := vb_10.keep hb11
  have vc_11 := vc_10.keep hb11
  have v3_11 := v3_10.keep hb11
  have v4_11 := v4_10.keep hb11
  have v5_11 := v5_10.keep hb11
  have v6_11 := g10.keep hb11
  go_wp2_with (fail)
  refine (HMPQ.out _ _ _ va_11 vb_11).mono ?_
  rintro e w12 ⟨v7, rfl, g12, hb12⟩
  have b12 := below_at b11 (Nat.le_refl _) hb12
  have va_12 := va_11.keep hb12
  have vb_12 := vb_11.keep hb12
  have vc_12 := vc_11.keep hb12
  go_wp2_with (fail)
  refine (HMQP.out _ _ _ vb_12 va_12).mono ?_
  rintro e w13 ⟨v8, rfl, g13, hb13⟩
  have b13 := below_at b12 (Nat.le_refl _) hb13
  have va_13 := va_12.keep hb13
  have vb_13 := vb_12.keep hb13
  have vc_13 := vc_12.keep hb13
  have v7_13 := g12.keep hb13
  go_wp2_with (fail)
  refine (HS3.out _ _ _ v7_13 g13).mono ?_
  rintro e w14 ⟨rfl, hb14⟩
  have b14 := below_at b13 (Nat.le_refl _) hb14
  have va_14 := va_13.keep hb14
  have vb_14 := vb_13.keep hb14
  have vc_14 := vc_13.keep hb14
  have v7_14 := v7_13.keep hb14
  have v8_14 := g13.keep hb14
  go_wp2_with (fail)
  refine (HMPQ.out _ _ _ va_14 vb_14).mono ?_
  rintro e w15 ⟨v9, rfl, g15, hb15⟩
  have b15 := below_at b14 (Nat.le_refl _) hb15
  have va_15 := va_14.keep hb15
  have vb_15 := vb_14.keep hb15
  have vc_15 := vc_14.keep hb15
  go_wp2_with (fail)
  refine (HMPQR.out _ _ _ g15 vc_15).mono ?_
  rintro e w16 ⟨v10, rfl, g16, hb16⟩
  have b16 := below_at b15 (Nat.le_refl _) hb16
  have va_16 := va_15.keep hb16
  have vb_16 := vb_15.keep hb16
  have vc_16 := vc_15.keep hb16
  have v9_16 := g15.keep hb16
  go_wp2_with (fail)
  refine (HMQR.out _ _ _ vb_16 vc_16).mono ?_
  rintro e w17 ⟨v11, rfl, g17, hb17⟩
  have b17 := below_at b16 (Nat.le_refl _) hb17
  have va_17 := va_16.keep hb17
  have vb_17 := vb_16.keep hb17
  have vc_17 := vc_16.keep hb17
  have v9_17 := v9_16.keep hb17
  have v10_17 := g16.keep hb17
  go_wp2_with (fail)
  refine (HMPQR2.out _ _ _ va_17 g17).mono ?_
  rintro e w18 ⟨v12, rfl, g18, hb18⟩
  have b18 := below_at b17 (Nat.le_refl _) hb18
  have va_18 := va_17.keep hb18
  have vb_18 := vb_17.keep hb18
  have vc_18 := vc_17.keep hb18
  have v9_18 := v9_17.keep hb18
  have v10_18 := v10_17.keep hb18
  have v11_18 := g17.keep hb18
  go_wp2_with (fail)
  refine (HS4.out _ _ _ v10_18 g18).mono ?_
  rintro e w19 ⟨rfl, hb19⟩
  have b19 := below_at b18 (Nat.le_refl _) hb19
  have va_19 := va_18.keep hb19
  have vb_19 := vb_18.keep hb19
  have vc_19 := vc_18.keep hb19
  have v9_19 := v9_18.keep hb19
  have v10_19 := v10_18.keep hb19
  have v11_19 := v11_18.keep hb19
  have v12_19 := g18.keep hb19
  go_wp2_with (fail)
  refine (HAQR.out _ _ _ vb_19 vc_19).mono ?_
  rintro e w20 ⟨v13, rfl, g20, hb20⟩
  have b20 := below_at b19 (Nat.le_refl _) hb20
  have va_20 := va_19.keep hb20
  have vb_20 := vb_19.keep hb20
  have vc_20 := vc_19.keep hb20
  go_wp2_with (fail)
  refine (HMPS.out _ _ _ va_20 g20).mono ?_
  rintro e w21 ⟨v14, rfl, g21, hb21⟩
  have b21 := below_at b20 (Nat.le_refl _) hb21
  have va_21 := va_20.keep hb21
  have vb_21 := vb_20.keep hb21
  have vc_21 := vc_20.keep hb21
  have v13_21 := g20.keep hb21
  go_wp2_with (fail)
  refine (HMPQ.out _ _ _ va_21 vb_21).mono ?_
  rintro e w22 ⟨v15, rfl, g22, hb22⟩
  have b22 := below_at b21 (Nat.le_refl _) hb22
  have va_22 := va_21.keep hb22
  have vb_22 := vb_21.keep hb22
  have vc_22 := vc_21.keep hb22
  have v13_22 := v13_21.keep hb22
  have v14_22 := g21.keep hb22
  go_wp2_with (fail)
  refine (HMPR.out _ _ _ va_22 vc_22).mono ?_
  rintro e w23 ⟨v16, rfl, g23, hb23⟩
  have b23 := below_at b22 (Nat.le_refl _) hb23
  have va_23 := va_22.keep hb23
  have vb_23 := vb_22.keep hb23
  have vc_23 := vc_22.keep hb23
  have v13_23 := v13_22.keep hb23
  have v14_23 := v14_22.keep hb23
  have v15_23 := g22.keep hb23
  go_wp2_with (fail)
  refine (HADD.out _ _ _ v15_23 g23).mono ?_
  rintro e w24 ⟨v17, rfl, g24, hb24⟩
  have b24 := below_at b23 (Nat.le_refl _) hb24
  have va_24 := va_23.keep hb24
  have vb_24 := vb_23.keep hb24
  have vc_24 := vc_23.keep hb24
  have v13_24 := v13_23.keep hb24
  have v14_24 := v14_23.keep hb24
  have v15_24 := v15_23.keep hb24
  have v16_24 := g23.keep hb24
  go_wp2_with (fail)
  refine (HS5.out _ _ _ v14_24 g24).mono ?_
  rintro e w25 ⟨rfl, hb25⟩
  have b25 := below_at b24 (Nat.le_refl _) hb25
  have va_25 := va_24.keep hb25
  have vb_25 := vb_24.keep hb25
  have vc_25 := vc_24.keep hb25
  have v13_25 := v13_24.keep hb25
  have v14_25 := v14_24.keep hb25
  have v15_25 := v15_24.keep hb25
  have v16_25 := v16_24.keep hb25
  have v17_25 := g24.keep hb25
  go_wp2_with (fail)
  refine (HAPQ.out _ _ _ va_25 vb_25).mono ?_
  rintro e w26 ⟨v18, rfl, g26, hb26⟩
  have b26 := below_at b25 (Nat.le_refl _) hb26
  have va_26 := va_25.keep hb26
  have vb_26 := vb_25.keep hb26
  have vc_26 := vc_25.keep hb26
  go_wp2_with (fail)
  refine (HSUB.out _ _ _ g26 vb_26).mono ?_
  rintro e w27 ⟨v19, rfl, g27, hb27⟩
  have b27 := below_at b26 (Nat.le_refl _) hb27
  have va_27 := va_26.keep hb27
  have vb_27 := vb_26.keep hb27
  have vc_27 := vc_26.keep hb27
  have v18_27 := g26.keep hb27
  go_wp2_with (fail)
  refine (HS6.out _ _ _ g27 va_27).mono ?_
  rintro e w28 ⟨rfl, hb28⟩
  have b28 := below_at b27 (Nat.le_refl _) hb28
  have va_28 := va_27.keep hb28
  have vb_28 := vb_27.keep hb28
  have vc_28 := vc_27.keep hb28
  have v18_28 := v18_27.keep hb28
  have v19_28 := g27.keep hb28
  go_wp2_with (fail)
  refine (lives_any _).mono ?_
  rintro e w29 ⟨rfl, hb29⟩
  have b29 := below_at b28 (Nat.le_refl _) hb29
  have va_29 := va_28.keep hb29
  have vb_29 := vb_28.keep hb29
  have vc_29 := vc_28.keep hb29
  go_wp2
  go_ret
  exact ⟨rfl, b29⟩
end Go.Proofs.Ytaegkhdkhgemmaa

namespace Go.Proofs.Ytaegkhdkhgemmaa
open Go.RowKit Num

set_option maxHeartbeats 400000 in
theorem mul_l (a b : Value) (m n : Nat) (w : World) (ha : N32 w a m) (hb : N32 w b n) (hm : (dig B32 m).length ≤ 1000) (hn : (dig B32 n).length ≤ 1000) : Calls Try.prog 72 #[a, b] w (NumRet w (m * n)) := by
  have lm := words_le (n := m) (K := 500) hm
  have ln := words_le (n := n) (K := 500) hn
  have h := mul_at (N := 500) a b m n w (mulAt_all (by omega) (by omega)) (by omega) ha hb (by omega) (by omega) (by omega) (by omega) (Nat.le_trans (bits_of_len (len_mul hm hn)) (by omega))
  have H := Lib.hid h
  clear h ha hb
  go_enter Try.func72, Try.ntmps72
  go_wp2_with (go_at_call 45; refine H.out.mono ?_; rintro e w1 ⟨v, rfl, hv, hb1⟩)
  go_ret
  exact ⟨_, rfl, hv.is, hb1⟩
theorem dig32_mono {b m n : Nat} (hb : 2 ≤ b) (h : m ≤ n) : (dig b m).length ≤ (dig b n).length := dig_len_le hb (Nat.lt_of_le_of_lt h (dig_len_lt hb))

set_option maxHeartbeats 4000000 in
set_option maxRecDepth 100000 in
/-- The law NatSquares, for whatever limbs. -/
theorem squares_walk (A A1 : Option Addr) (c c1 L L1 : Nat) (xs ys : List Nat) (w : World) (hA : Nums .u32 w A xs) (hA1 : Nums .u32 w A1 ys) (hx : Low B32 xs) (hy : Low B32 ys)
    (hL : L = xs.length) (hL1 : L1 = ys.length) (hc : L ≤ c) (hc1 : L1 ≤ c1) (hnil : A = none → c = 0) (hnil1 : A1 = none → c1 = 0) :
    Calls Try.prog 16 #[.slice A L c, .slice A1 L1 c1] w (LivesPost w) := by
  have hw0 := fun w' (h : Below w.heap.size w w') => whole_any A c L 400 xs w' (hA.keep h) hx hL hc hnil (by omega)
  have hw1 := fun w' (h : Below w.heap.size w w') => whole_any A1 c1 L1 400 ys w' (hA1.keep h) hy hL1 hc1 hnil1 (by omega)
  have lp := whole_len hx 400
  have lq := whole_len hy 400
  generalize val B32 (xs.take 400) = p at *
  generalize val B32 (ys.take 400) = q at *
  have hcm := fun a b w h k => cmp_ok a b p q w h k (by omega) (by omega)
  obtain ⟨cv, hcv⟩ : ∃ cv, cmpN p q = cv := ⟨_, rfl⟩
  rw [hcv] at hcm
  have hcase : (cv < 0 ∧ p ≤ q) ∨ (¬ cv < 0 ∧ q ≤ p) := by
    rcases Nat.lt_trichotomy p q with h | h | h
    · rw [cmpN_lt h] at hcv; exact .inl ⟨by omega, Nat.le_of_lt h⟩
    · subst h; rw [cmpN_eq] at hcv; exact .inr ⟨by omega, Nat.le_refl _⟩
    · rw [cmpN_gt h] at hcv; exact .inr ⟨by omega, Nat.le_of_lt h⟩
  have HW0 := Lib.hid hw0
  have HW1 := Lib.hid hw1
  have HC := Lib.hid hcm
  clear hw0 hw1 hcm hcv hA hA1 hx hy hL hL1 hc hc1 hnil hnil1
  rcases hcase with ⟨hneg, hle⟩ | ⟨hneg, hle⟩
  · have lmm := len_mul lq lq
    have lnn := len_mul lp lp
    have lad : (dig B32 (q + p)).length ≤ 401 := len_add (by omega) (by omega)
    have lsb : (dig B32 (q - p)).length ≤ 400 := Nat.le_trans (dig32_mono b32_two (Nat.sub_le _ _)) lq
    have lpr := len_mul lad lsb
    have hmm := fun a b w h k => mul_l a b q q w h k (by omega) (by omega)
    have hnn := fun a b w h k => mul_l a b p p w h k (by omega) (by omega)
    have hsq := fun a b w h k => sub_n a b (q * q) (p * p) w h k (by omega) (by omega) (Nat.mul_le_mul hle hle)
    have had := fun a b w h k => add_n a b q p w h k (by omega) (by omega)
    have hsb := fun a b w h k => sub_n a b q p w h k (by omega) (by omega) hle
    have hml := fun a b w h k => mul_l a b (q + p) (q - p) w h k (by omega) (by omega)
    have hsm := fun a b w h k => same_n a b ((q + p) * (q - p)) w h k (by omega)
    rw [Nat.mul_self_sub_mul_self_eq] at hsq
    have HMMM := Lib.hid hmm
    have HM16 := Lib.hid hnn
    have HSQ := Lib.hid hsq
    have HADD := Lib.hid had
    have HSUB := Lib.hid hsb
    have HMUL := Lib.hid hml
    have HSAME := Lib.hid hsm
    clear hmm hnn hsq had hsb hml hsm lmm lnn lad lsb lpr hle lp lq
    go_enter Try.func16, Try.ntmps16
    go_wp2_with (fail)
    refine (HW0.out _ (Below.refl _ _)).mono ?_
    rintro e x1 ⟨va, rfl, g1, hb1⟩
    have b1 := hb1
    go_wp2_with (fail)
    refine (HW1.out _ b1).mono ?_
    rintro e x2 ⟨vb, rfl, g2, hb2⟩
    have b2 := below_at b1 (Nat.le_refl _) hb2
    have va_2 := g1.keep hb2
    go_wp2_with (fail)
    refine (HC.out _ _ _ va_2 g2).mono ?_
    rintro e x3 ⟨rfl, hb3⟩
    have b3 := below_at b2 (Nat.le_refl _) hb3
    have va_3 := va_2.keep hb3
    have vb_3 := g2.keep hb3
    go_wp2_with (fail)
    refine (lives_any _).mono ?_
    rintro e x4 ⟨rfl, hb4⟩
    have b4 := below_at b3 (Nat.le_refl _) hb4
    have kva := va_3.keep hb4
    have kvb := vb_3.keep hb4
    go_wp2_with (fail)
    refine (HMMM.out _ _ _ kvb kvb).mono ?_
    rintro e x5 ⟨u1, rfl, g5, hb5⟩
    have b5 := below_at b4 (Nat.le_refl _) hb5
    have vb_5 := kvb.keep hb5
    have va_5 := kva.keep hb5
    go_wp2_with (fail)
    refine (HM16.out _ _ _ va_5 va_5).mono ?_
    rintro e x6 ⟨u2, rfl, g6, hb6⟩
    have b6 := below_at b5 (Nat.le_refl _) hb6
    have vb_6 := vb_5.keep hb6
    have va_6 := va_5.keep hb6
    have u1_6 := g5.keep hb6
    go_wp2_with (fail)
    refine (HSQ.out _ _ _ u1_6 g6).mono ?_
    rintro e x7 ⟨u3, rfl, g7, hb7⟩
    have b7 := below_at b6 (Nat.le_refl _) hb7
    have vb_7 := vb_6.keep hb7
    have va_7 := va_6.keep hb7
    have u1_7 := u1_6.keep hb7
    have u2_7 := g6.keep hb7
    go_wp2_with (fail)
    refine (HADD.out _ _ _ vb_7 va_7).mono ?_
    rintro e x8 ⟨u4, rfl, g8, hb8⟩
    have b8 := below_at b7 (Nat.le_refl _) hb8
    have vb_8 := vb_7.keep hb8
    have va_8 := va_7.keep hb8
    have u1_8 := u1_7.keep hb8
    have u2_8 := u2_7.keep hb8
    have u3_8 := g7.keep hb8
    go_wp2_with (fail)
    refine (HSUB.out _ _ _ vb_8 va_8).mono ?_
    rintro e x9 ⟨u5, rfl, g9, hb9⟩
    have b9 := below_at b8 (Nat.le_refl _) hb9
    have vb_9 := vb_8.keep hb9
    have va_9 := va_8.keep hb9
    have u1_9 := u1_8.keep hb9
    have u2_9 := u2_8.keep hb9
    have u3_9 := u3_8.keep hb9
    have u4_9 := g8.keep hb9
    go_wp2_with (fail)
    refine (HMUL.out _ _ _ u4_9 g9).mono ?_
    rintro e x10 ⟨u6, rfl, g10, hb10⟩
    have b10 := below_at b9 (Nat.le_refl _) hb10
    have vb_10 := vb_9.keep hb10
    have va_10 := va_9.keep hb10
    have u1_10 := u1_9.keep hb10
    have u2_10 := u2_9.keep hb10
    have u3_10 := u3_9.keep hb10
    have u4_10 := u4_9.keep hb10
    have u5_10 := g9.keep hb10
    go_wp2_with (fail)
    refine (HSAME.out _ _ _ u3_10 g10).mono ?_
    rintro e x11 ⟨rfl, hb11⟩
    have b11 := below_at b10 (Nat.le_refl _) hb11
    go_wp2_with (fail)
    go_ret
    exact ⟨rfl, b11⟩
  · have lmm := len_mul lp lp
    have lnn := len_mul lq lq
    have lad : (dig B32 (p + q)).length ≤ 401 := len_add (by omega) (by omega)
    have lsb : (dig B32 (p - q)).length ≤ 400 := Nat.le_trans (dig32_mono b32_two (Nat.sub_le _ _)) lp
    have lpr := len_mul lad lsb
    have hmm := fun a b w h k => mul_l a b p p w h k (by omega) (by omega)
    have hnn := fun a b w h k => mul_l a b q q w h k (by omega) (by omega)
    have hsq := fun a b w h k => sub_n a b (p * p) (q * q) w h k (by omega) (by omega) (Nat.mul_le_mul hle hle)
    have had := fun a b w h k => add_n a b p q w h k (by omega) (by omega)
    have hsb := fun a b w h k => sub_n a b p q w h k (by omega) (by omega) hle
    have hml := fun a b w h k => mul_l a b (p + q) (p - q) w h k (by omega) (by omega)
    have hsm := fun a b w h k => same_n a b ((p + q) * (p - q)) w h k (by omega)
    rw [Nat.mul_self_sub_mul_self_eq] at hsq
    have HMMM := Lib.hid hmm
    have HM16 := Lib.hid hnn
    have HSQ := Lib.hid hsq
    have HADD := Lib.hid had
    have HSUB := Lib.hid hsb
    have HMUL := Lib.hid hml
    have HSAME := Lib.hid hsm
    clear hmm hnn hsq had hsb hml hsm lmm lnn lad lsb lpr hle lp lq
    go_enter Try.func16, Try.ntmps16
    go_wp2_with (fail)
    refine (HW0.out _ (Below.refl _ _)).mono ?_
    rintro e x1 ⟨va, rfl, g1, hb1⟩
    have b1 := hb1
    go_wp2_with (fail)
    refine (HW1.out _ b1).mono ?_
    rintro e x2 ⟨vb, rfl, g2, hb2⟩
    have b2 := below_at b1 (Nat.le_refl _) hb2
    have va_2 := g1.keep hb2
    go_wp2_with (fail)
    refine (HC.out _ _ _ va_2 g2).mono ?_
    rintro e x3 ⟨rfl, hb3⟩
    have b3 := below_at b2 (Nat.le_refl _) hb3
    have va_3 := va_2.keep hb3
    have vb_3 := g2.keep hb3
    go_wp2_with (fail)
    refine (lives_any _).mono ?_
    rintro e x4 ⟨rfl, hb4⟩
    have b4 := below_at b3 (Nat.le_refl _) hb4
    have kva := va_3.keep hb4
    have kvb := vb_3.keep hb4
    go_wp2_with (fail)
    refine (HMMM.out _ _ _ kva kva).mono ?_
    rintro e x5 ⟨u1, rfl, g5, hb5⟩
    have b5 := below_at b4 (Nat.le_refl _) hb5
    have va_5 := kva.keep hb5
    have vb_5 := kvb.keep hb5
    go_wp2_with (fail)
    refine (HM16.out _ _ _ vb_5 vb_5).mono ?_
    rintro e x6 ⟨u2, rfl, g6, hb6⟩
    have b6 := below_at b5 (Nat.le_refl _) hb6
    have va_6 := va_5.keep hb6
    have vb_6 := vb_5.keep hb6
    have u1_6 := g5.keep hb6
    go_wp2_with (fail)
    refine (HSQ.out _ _ _ u1_6 g6).mono ?_
    rintro e x7 ⟨u3, rfl, g7, hb7⟩
    have b7 := below_at b6 (Nat.le_refl _) hb7
    have va_7 := va_6.keep hb7
    have vb_7 := vb_6.keep hb7
    have u1_7 := u1_6.keep hb7
    have u2_7 := g6.keep hb7
    go_wp2_with (fail)
    refine (HADD.out _ _ _ va_7 vb_7).mono ?_
    rintro e x8 ⟨u4, rfl, g8, hb8⟩
    have b8 := below_at b7 (Nat.le_refl _) hb8
    have va_8 := va_7.keep hb8
    have vb_8 := vb_7.keep hb8
    have u1_8 := u1_7.keep hb8
    have u2_8 := u2_7.keep hb8
    have u3_8 := g7.keep hb8
    go_wp2_with (fail)
    refine (HSUB.out _ _ _ va_8 vb_8).mono ?_
    rintro e x9 ⟨u5, rfl, g9, hb9⟩
    have b9 := below_at b8 (Nat.le_refl _) hb9
    have va_9 := va_8.keep hb9
    have vb_9 := vb_8.keep hb9
    have u1_9 := u1_8.keep hb9
    have u2_9 := u2_8.keep hb9
    have u3_9 := u3_8.keep hb9
    have u4_9 := g8.keep hb9
    go_wp2_with (fail)
    refine (HMUL.out _ _ _ u4_9 g9).mono ?_
    rintro e x10 ⟨u6, rfl, g10, hb10⟩
    have b10 := below_at b9 (Nat.le_refl _) hb10
    have va_10 := va_9.keep hb10
    have vb_10 := vb_9.keep hb10
    have u1_10 := u1_9.keep hb10
    have u2_10 := u2_9.keep hb10
    have u3_10 := u3_9.keep hb10
    have u4_10 := u4_9.keep hb10
    have u5_10 := g9.keep hb10
    go_wp2_with (fail)
    refine (HSAME.out _ _ _ u3_10 g10).mono ?_
    rintro e x11 ⟨rfl, hb11⟩
    have b11 := below_at b10 (Nat.le_refl _) hb11
    go_wp2_with (fail)
    go_ret
    exact ⟨rfl, b11⟩
end Go.Proofs.Ytaegkhdkhgemmaa
