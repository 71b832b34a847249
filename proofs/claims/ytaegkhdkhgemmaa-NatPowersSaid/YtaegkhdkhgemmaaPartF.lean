/- Part of the proof of NatPowers: PowersW. -/
import Derived.Test.YtaegkhdkhgemmaaPartE
namespace Go.Proofs.Ytaegkhdkhgemmaa
open Go.RowKit Num

set_option maxHeartbeats 1000000 in
set_option maxRecDepth 100000 in
theorem pow_bad (a : Value) (n : Int) (xs : List Nat) (w : World) (ha : Limbs w a xs) (h0 : chk xs ≠ 0) : Calls Try.prog 52 #[a, .int .i64 n] w (NatErr w (chk xs)) := by
  have hc := checkAll_any w.heap.size 1 1 _ _ (nats1 ha) rfl (by omega)
  rw [chkAll1] at hc
  generalize chk xs = r at *
  have hbA := below_new w (.cells #[a] 23)
  have hq : (r != 0) = true := by simp [h0]
  have HC := Lib.hid hc
  have H0 := Lib.hid h0
  obtain ⟨A, c, rfl, _⟩ := ha
  clear hc h0
  generalize xs.length = L at *
  go_enter Try.func52, Try.ntmps52
  go_wp2_with (go_at_call 75; refine HC.out.mono ?_; rintro e w1 ⟨rfl, rfl⟩)
  go_ret2
  exact ⟨rfl, hbA⟩

set_option maxHeartbeats 1000000 in
set_option maxRecDepth 100000 in
theorem pow_arg (a : Value) (m : Nat) (n : Int) (w : World) (ha : N32 w a m) (hl : (dig B32 m).length ≤ 262144) (hn : n < 0) : Calls Try.prog 52 #[a, .int .i64 n] w (NatErr w 1) := by
  have hc := checkAll_any w.heap.size 1 1 _ _ (nats1 (Limbs.num ha (by omega))) rfl (by omega)
  rw [chkAll1, chk_dig hl] at hc
  have hbA := below_new w (.cells #[a] 23)
  have HC := Lib.hid hc
  obtain ⟨A, c, rfl, _⟩ := ha
  clear hc
  generalize (dig B32 m).length = L at *
  go_enter Try.func52, Try.ntmps52
  go_wp2_with (go_at_call 75; refine HC.out.mono ?_; rintro e w1 ⟨rfl, rfl⟩)
  go_ret2
  exact ⟨rfl, hbA⟩

set_option maxHeartbeats 1000000 in
set_option maxRecDepth 100000 in
theorem pow_s (a : Value) (m n : Nat) (w : World) (ha : N32 w a m) (hl : (dig B32 m).length ≤ 262144) (hn : n < 9223372036854775808) (hs : nbits m ≤ 1) (hp : ∀ j, j ≤ n → nbits (m ^ j) ≤ 8388608) : Calls Try.prog 52 #[a, .int .i64 (n : Int)] w (NatOk w (m ^ n)) := by
  have hc := checkAll_any w.heap.size 1 1 _ _ (nats1 (Limbs.num ha (by omega))) rfl (by omega)
  rw [chkAll1, chk_dig hl] at hc
  have hbA := below_new w (.cells #[a] 23)
  have HC := Lib.hid hc
  have hf := fromNat_any a m _ (ha.keep hbA) (by omega)
  have lm := words_le (n := m) (K := 131072) hl
  have hbt := fun v w' (h : W64 w' v m) => bits_call v m w' h (by omega)
  have hpw := fun v w' (h : W64 w' v m) => power_any (mulSpec_all 131072 (by omega)) v m n w' h hn lm (fun j hj => len_of_bits (hp j hj))
  have hft := fun v w' (h : W64 w' v (m ^ n)) => fit_ok v (m ^ n) w' h (hp n (Nat.le_refl _))
  have h2 := len_bits_le (n := m) (k := 131072) lm
  have HF := Lib.hid hf
  have HBT := Lib.hid hbt
  have HPW := Lib.hid hpw
  have HFT := Lib.hid hft
  obtain ⟨A, c, rfl, _⟩ := ha
  clear hc hf hbt hpw hft lm hp hn
  generalize nbits m = r at *
  have hle : r ≤ 1 := hs
  clear hs
  generalize (dig B32 m).length = L at *
  go_enter Try.func52, Try.ntmps52
  go_wp2_with (fail)
  refine (HC.out).mono ?_
  rintro e w1 ⟨rfl, rfl⟩
  go_wp2_with (fail)
  refine (HF.out).mono ?_
  rintro e w2 ⟨v1, rfl, hv1, hb2⟩
  have b2 := below_at hbA (Nat.le_refl _) hb2
  have k1_2 := hv1.is
  go_wp2_with (fail)
  refine (HBT.out _ _ k1_2).mono ?_
  rintro e w3 ⟨rfl, rfl⟩
  go_wp2_with (fail)
  refine (HPW.out _ _ k1_2).mono ?_
  rintro e w4 ⟨v2, rfl, hv2, hb4⟩
  have b4 := below_at b2 (Nat.le_refl _) hb4
  have k1_4 := k1_2.keep hb4
  have k2_4 := hv2.is
  go_wp2_with (fail)
  refine (HFT.out _ _ k2_4).mono ?_
  rintro e w5 ⟨v3, rfl, hv3, hb5⟩
  have b5 := below_at b4 (Nat.le_refl _) hb5
  have k1_5 := k1_4.keep hb5
  have k2_5 := k2_4.keep hb5
  go_wp2
  go_ret2
  exact ⟨_, rfl, hv3.mono b4.size, b5⟩

set_option maxHeartbeats 1000000 in
set_option maxRecDepth 100000 in
theorem pow_b (a : Value) (m n : Nat) (w : World) (ha : N32 w a m) (hl : (dig B32 m).length ≤ 262144) (hn : n < 9223372036854775808) (hs : 1 < nbits m) (hs2 : n ≤ 8388607 / (nbits m - 1)) (hp : ∀ j, j ≤ n → nbits (m ^ j) ≤ 8388608) : Calls Try.prog 52 #[a, .int .i64 (n : Int)] w (NatOk w (m ^ n)) := by
  have hc := checkAll_any w.heap.size 1 1 _ _ (nats1 (Limbs.num ha (by omega))) rfl (by omega)
  rw [chkAll1, chk_dig hl] at hc
  have hbA := below_new w (.cells #[a] 23)
  have HC := Lib.hid hc
  have hf := fromNat_any a m _ (ha.keep hbA) (by omega)
  have lm := words_le (n := m) (K := 131072) hl
  have hbt := fun v w' (h : W64 w' v m) => bits_call v m w' h (by omega)
  have hpw := fun v w' (h : W64 w' v m) => power_any (mulSpec_all 131072 (by omega)) v m n w' h hn lm (fun j hj => len_of_bits (hp j hj))
  have hft := fun v w' (h : W64 w' v (m ^ n)) => fit_ok v (m ^ n) w' h (hp n (Nat.le_refl _))
  have h2 := len_bits_le (n := m) (k := 131072) lm
  have HF := Lib.hid hf
  have HBT := Lib.hid hbt
  have HPW := Lib.hid hpw
  have HFT := Lib.hid hft
  obtain ⟨A, c, rfl, _⟩ := ha
  clear hc hf hbt hpw hft lm hp hn
  generalize nbits m = r at *
  obtain ⟨d, hd⟩ : ∃ d, r = d + 1 := ⟨r - 1, by omega⟩
  subst hd
  obtain ⟨q, hq⟩ : ∃ q, 8388607 / (d + 1 - 1) = q := ⟨_, rfl⟩
  rw [hq] at hs2
  rw [Nat.add_sub_cancel] at hq
  have hd1 : ((d + 1 : Nat) : Int) - 1 = (d : Int) := by omega
  have q1 : (8388607 : Int) / (d : Int) = (q : Int) := by rw [← hq]; exact (Int.natCast_ediv _ _).symm
  have q2 : (8388607 : Int).tdiv (d : Int) = (q : Int) := by rw [Int.tdiv_eq_ediv_of_nonneg (by omega)]; exact q1
  have q3 : ((d : Int) == 0) = false := by simp; omega
  have hqb : q ≤ 8388607 := by rw [← hq]; exact Nat.div_le_self _ _
  clear hq
  generalize (dig B32 m).length = L at *
  go_enter Try.func52, Try.ntmps52
  go_wp2_with (fail)
  refine (HC.out).mono ?_
  rintro e w1 ⟨rfl, rfl⟩
  go_wp2_with (fail)
  refine (HF.out).mono ?_
  rintro e w2 ⟨v1, rfl, hv1, hb2⟩
  have b2 := below_at hbA (Nat.le_refl _) hb2
  have k1_2 := hv1.is
  go_wp2_with (fail)
  refine (HBT.out _ _ k1_2).mono ?_
  rintro e w3 ⟨rfl, rfl⟩
  go_wp2_with (fail)
  refine (HPW.out _ _ k1_2).mono ?_
  rintro e w4 ⟨v2, rfl, hv2, hb4⟩
  have b4 := below_at b2 (Nat.le_refl _) hb4
  have k1_4 := k1_2.keep hb4
  have k2_4 := hv2.is
  go_wp2_with (fail)
  refine (HFT.out _ _ k2_4).mono ?_
  rintro e w5 ⟨v3, rfl, hv3, hb5⟩
  have b5 := below_at b4 (Nat.le_refl _) hb5
  have k1_5 := k1_4.keep hb5
  have k2_5 := k2_4.keep hb5
  go_wp2
  go_ret2
  exact ⟨_, rfl, hv3.mono b4.size, b5⟩

theorem nbits_pow_le (m j : Nat) : nbits (m ^ j) ≤ j * nbits m + 1 := by
  refine nbits_le ?_
  have h1 : m ^ j ≤ (2 ^ nbits m) ^ j := Nat.pow_le_pow_left (Nat.le_of_lt (nbits_lt m)) j
  rw [← Nat.pow_mul, Nat.mul_comm] at h1
  exact Nat.lt_of_le_of_lt h1 (Nat.pow_lt_pow_right (by omega) (by omega))
/-- Powers that stay short. -/
theorem pow_ok (a : Value) (m n : Nat) (w : World) (ha : N32 w a m) (hl : (dig B32 m).length ≤ 262144) (hn : n ≤ 1000) (hb : nbits m ≤ 8000) : Calls Try.prog 52 #[a, .int .i64 (n : Int)] w (NatOk w (m ^ n)) := by
  have hp : ∀ j, j ≤ n → nbits (m ^ j) ≤ 8388608 := fun j hj => Nat.le_trans (nbits_pow_le m j) (by have := Nat.mul_le_mul (Nat.le_trans hj hn) hb; omega)
  rcases Nat.lt_or_ge 1 (nbits m) with h | h
  · refine pow_b a m n w ha hl (by omega) h ?_ hp
    refine (Nat.le_div_iff_mul_le (by omega)).2 ?_
    have := Nat.mul_le_mul hn (show nbits m - 1 ≤ 8000 by omega)
    omega
  · exact pow_s a m n w ha hl (by omega) h hp
theorem len32_of_bits {n k : Nat} (h : nbits n ≤ 32 * k) : (dig B32 n).length ≤ k := dig_len_le b32_two (by
  have e : B32 ^ k = 2 ^ (32 * k) := by rw [Nat.pow_mul]; rfl
  rw [e]; exact lt_of_nbits h)
/-- Powers of 0 and of 1. -/
theorem pow_01 (a : Value) (m n : Nat) (w : World) (ha : N32 w a m) (hm : m ≤ 1) (h0 : 0 < n) (hn : n < 9223372036854775808) : Calls Try.prog 52 #[a, .int .i64 (n : Int)] w (NatOk w m) := by
  have e : ∀ j, 0 < j → m ^ j = m := fun j hj => by
    rcases Nat.eq_zero_or_pos m with h | h
    · subst h; exact Nat.zero_pow hj
    · obtain rfl : m = 1 := by omega
      exact Nat.one_pow j
  have hb : nbits m ≤ 1 := nbits_le (by omega)
  have := pow_s a m n w ha (Nat.le_trans (small32 (k := m) (by unfold B32; omega)) (by omega)) hn hb (fun j _ => by
    rcases Nat.eq_zero_or_pos j with hj | hj
    · subst hj; exact Nat.le_trans (nbits_le (k := 1) (by rw [Nat.pow_zero]; omega)) (by omega)
    · rw [e j hj]; omega)
  rw [e n h0] at this
  exact this

set_option maxHeartbeats 2000000 in
set_option maxRecDepth 100000 in
theorem powers_bad_single_le (A : Option Addr) (c L : Nat) (n : Int) (xs : List Nat) (w : World) (hA : Nums .u32 w A xs) (hL : L = xs.length) (hc : L ≤ c) (hnil : A = none → c = 0) (hbad : chk (xs.take 6) ≠ 0) (hD1 : (xs.take 6).length = 1) (h00 : (xs.take 6)[0]? = some 0) (hn : n ≤ 60) : Calls Try.prog 8 #[.slice A L c, .int .i64 n] w (LivesPost w) := by
  have hcut := fun w' (h : Below w.heap.size w w') => cut_any A c L 6 xs w' (hA.keep h) hL hc hnil (by omega)
  have l1 : (xs.take 6).length ≤ 6 := by rw [List.length_take]; omega
  generalize xs.take 6 = us at *
  have hlu : ∀ B w' a, OwnLs B w' a us → Limbs w' a us := fun B w' a h => h.limbs (by omega)
  have h27 := fun a w h => refCheck_l a us w h
  have h52 := fun a k w h => pow_bad a k us w h hbad
  generalize chk us = r at *
  have hq : (r == 0) = false := by simp [hbad]
  have hq1 : (r != 0) = true := by simp [hbad]
  have h41 := fun b w => is_err b r w hbad
  obtain ⟨D, hD⟩ : ∃ D, us.length = D := ⟨_, rfl⟩
  rw [hD] at hD1 l1
  subst hD1
  have HCUT := Lib.hid hcut
  have HLU := Lib.hid hlu
  have H27 := Lib.hid h27
  have H52 := Lib.hid h52
  have H41 := Lib.hid h41
  have HBAD := Lib.hid hbad
  have HD := Lib.hid hD
  have H00 := Lib.hid h00
  clear hcut hlu h27 h52 h41 hbad hD h00
  clear hA hL hnil l1
  go_enter Try.func8, Try.ntmps8
  go_wp2_with (fail)
  refine (HCUT.out _ (Below.refl _ _)).mono ?_
  rintro e w1 ⟨va, rfl, hva, hb1⟩
  have b1 := below_at (Below.refl _ _) (Nat.le_refl _) hb1
  have ka_1 := HLU.out _ _ _ hva
  have kk := ka_1
  obtain ⟨A1, c1, hve, hq1', _, hA1⟩ := kk
  rw [HD.out] at hve hq1'
  subst hve
  obtain ⟨g, off, v, rfl, hg, hv0, hcv⟩ := hA1.at_ (i := 0) (by rw [HD.out]; omega)
  rw [Nat.add_zero] at hcv
  have hv1 : v = 0 := by have := H00.out; rw [hv0] at this; injection this
  subst hv1
  clear hv0 hA1
  go_wp2_with (fail)
  refine (H27.out _ _ ka_1).mono ?_
  rintro e w2 ⟨rfl, rfl⟩
  go_wp2_with (fail)
  refine (H52.out _ _ _ ka_1).mono ?_
  rintro e w3 ⟨rfl, hb3⟩
  have b3 := below_at b1 (Nat.le_refl _) hb3
  have ka_3 := ka_1.keep hb3
  go_wp2_with (fail)
  refine (lives_any _).mono ?_
  rintro e w4 ⟨rfl, hb4⟩
  have b4 := below_at b3 (Nat.le_refl _) hb4
  have ka_4 := ka_3.keep hb4
  go_wp2_with (fail)
  refine (H41.out _ _).mono ?_
  rintro e w5 ⟨rfl, hb5⟩
  have b5 := below_at b4 (Nat.le_refl _) hb5
  have ka_5 := ka_4.keep hb5
  go_wp2
  go_ret
  exact ⟨rfl, b5⟩

set_option maxHeartbeats 2000000 in
set_option maxRecDepth 100000 in
theorem powers_bad_single_gt (A : Option Addr) (c L : Nat) (n : Int) (xs : List Nat) (w : World) (hA : Nums .u32 w A xs) (hL : L = xs.length) (hc : L ≤ c) (hnil : A = none → c = 0) (hbad : chk (xs.take 6) ≠ 0) (hD1 : (xs.take 6).length = 1) (h00 : (xs.take 6)[0]? = some 0) (hn : 60 < n) : Calls Try.prog 8 #[.slice A L c, .int .i64 n] w (LivesPost w) := by
  have hcut := fun w' (h : Below w.heap.size w w') => cut_any A c L 6 xs w' (hA.keep h) hL hc hnil (by omega)
  have l1 : (xs.take 6).length ≤ 6 := by rw [List.length_take]; omega
  generalize xs.take 6 = us at *
  have hlu : ∀ B w' a, OwnLs B w' a us → Limbs w' a us := fun B w' a h => h.limbs (by omega)
  have h27 := fun a w h => refCheck_l a us w h
  have h52 := fun a k w h => pow_bad a k us w h hbad
  generalize chk us = r at *
  have hq : (r == 0) = false := by simp [hbad]
  have hq1 : (r != 0) = true := by simp [hbad]
  have h41 := fun b w => is_err b r w hbad
  obtain ⟨D, hD⟩ : ∃ D, us.length = D := ⟨_, rfl⟩
  rw [hD] at hD1 l1
  subst hD1
  obtain ⟨k, hk⟩ : ∃ k, n % 61 = k := ⟨_, rfl⟩
  have q1 : n.tmod 61 = k := by rw [Int.tmod_eq_emod_of_nonneg (by omega)]; exact hk
  have HCUT := Lib.hid hcut
  have HLU := Lib.hid hlu
  have H27 := Lib.hid h27
  have H52 := Lib.hid h52
  have H41 := Lib.hid h41
  have HBAD := Lib.hid hbad
  have HD := Lib.hid hD
  have H00 := Lib.hid h00
  clear hcut hlu h27 h52 h41 hbad hD h00
  clear hA hL hnil l1
  go_enter Try.func8, Try.ntmps8
  go_wp2_with (fail)
  refine (HCUT.out _ (Below.refl _ _)).mono ?_
  rintro e w1 ⟨va, rfl, hva, hb1⟩
  have b1 := below_at (Below.refl _ _) (Nat.le_refl _) hb1
  have ka_1 := HLU.out _ _ _ hva
  have kk := ka_1
  obtain ⟨A1, c1, hve, hq1', _, hA1⟩ := kk
  rw [HD.out] at hve hq1'
  subst hve
  obtain ⟨g, off, v, rfl, hg, hv0, hcv⟩ := hA1.at_ (i := 0) (by rw [HD.out]; omega)
  rw [Nat.add_zero] at hcv
  have hv1 : v = 0 := by have := H00.out; rw [hv0] at this; injection this
  subst hv1
  clear hv0 hA1
  go_wp2_with (fail)
  refine (H27.out _ _ ka_1).mono ?_
  rintro e w2 ⟨rfl, rfl⟩
  go_wp2_with (fail)
  refine (H52.out _ _ _ ka_1).mono ?_
  rintro e w3 ⟨rfl, hb3⟩
  have b3 := below_at b1 (Nat.le_refl _) hb3
  have ka_3 := ka_1.keep hb3
  go_wp2_with (fail)
  refine (lives_any _).mono ?_
  rintro e w4 ⟨rfl, hb4⟩
  have b4 := below_at b3 (Nat.le_refl _) hb4
  have ka_4 := ka_3.keep hb4
  go_wp2_with (fail)
  refine (H41.out _ _).mono ?_
  rintro e w5 ⟨rfl, hb5⟩
  have b5 := below_at b4 (Nat.le_refl _) hb5
  have ka_5 := ka_4.keep hb5
  go_wp2
  go_ret
  exact ⟨rfl, b5⟩

set_option maxHeartbeats 2000000 in
set_option maxRecDepth 100000 in
theorem powers_bad_multi_le (A : Option Addr) (c L : Nat) (n : Int) (xs : List Nat) (w : World) (hA : Nums .u32 w A xs) (hL : L = xs.length) (hc : L ≤ c) (hnil : A = none → c = 0) (hbad : chk (xs.take 6) ≠ 0) (hD2 : 2 ≤ (xs.take 6).length) (hn : n ≤ 60) : Calls Try.prog 8 #[.slice A L c, .int .i64 n] w (LivesPost w) := by
  have hcut := fun w' (h : Below w.heap.size w w') => cut_any A c L 6 xs w' (hA.keep h) hL hc hnil (by omega)
  have l1 : (xs.take 6).length ≤ 6 := by rw [List.length_take]; omega
  generalize xs.take 6 = us at *
  have hlu : ∀ B w' a, OwnLs B w' a us → Limbs w' a us := fun B w' a h => h.limbs (by omega)
  have h27 := fun a w h => refCheck_l a us w h
  have h52 := fun a k w h => pow_bad a k us w h hbad
  generalize chk us = r at *
  have hq : (r == 0) = false := by simp [hbad]
  have hq1 : (r != 0) = true := by simp [hbad]
  have h41 := fun b w => is_err b r w hbad
  obtain ⟨D, hD⟩ : ∃ D, us.length = D := ⟨_, rfl⟩
  rw [hD] at hD2 l1
  have hz0 : ((D : Int) == 0) = false := by simp; omega
  have hz1 : ((D : Int) == 1) = false := by simp; omega
  have HCUT := Lib.hid hcut
  have HLU := Lib.hid hlu
  have H27 := Lib.hid h27
  have H52 := Lib.hid h52
  have H41 := Lib.hid h41
  have HBAD := Lib.hid hbad
  have HD := Lib.hid hD
  clear hcut hlu h27 h52 h41 hbad hD
  clear hA hL hnil l1
  go_enter Try.func8, Try.ntmps8
  go_wp2_with (fail)
  refine (HCUT.out _ (Below.refl _ _)).mono ?_
  rintro e w1 ⟨va, rfl, hva, hb1⟩
  have b1 := below_at (Below.refl _ _) (Nat.le_refl _) hb1
  have ka_1 := HLU.out _ _ _ hva
  have kk := ka_1
  obtain ⟨A1, c1, hve, hq1', _, hA1⟩ := kk
  rw [HD.out] at hve hq1'
  subst hve
  go_wp2_with (fail)
  refine (H27.out _ _ ka_1).mono ?_
  rintro e w2 ⟨rfl, rfl⟩
  go_wp2_with (fail)
  refine (H52.out _ _ _ ka_1).mono ?_
  rintro e w3 ⟨rfl, hb3⟩
  have b3 := below_at b1 (Nat.le_refl _) hb3
  have ka_3 := ka_1.keep hb3
  go_wp2_with (fail)
  refine (lives_any _).mono ?_
  rintro e w4 ⟨rfl, hb4⟩
  have b4 := below_at b3 (Nat.le_refl _) hb4
  have ka_4 := ka_3.keep hb4
  go_wp2_with (fail)
  refine (H41.out _ _).mono ?_
  rintro e w5 ⟨rfl, hb5⟩
  have b5 := below_at b4 (Nat.le_refl _) hb5
  have ka_5 := ka_4.keep hb5
  go_wp2
  go_ret
  exact ⟨rfl, b5⟩

set_option maxHeartbeats 2000000 in
set_option maxRecDepth 100000 in
theorem powers_bad_multi_gt (A : Option Addr) (c L : Nat) (n : Int) (xs : List Nat) (w : World) (hA : Nums .u32 w A xs) (hL : L = xs.length) (hc : L ≤ c) (hnil : A = none → c = 0) (hbad : chk (xs.take 6) ≠ 0) (hD2 : 2 ≤ (xs.take 6).length) (hn : 60 < n) : Calls Try.prog 8 #[.slice A L c, .int .i64 n] w (LivesPost w) := by
  have hcut := fun w' (h : Below w.heap.size w w') => cut_any A c L 6 xs w' (hA.keep h) hL hc hnil (by omega)
  have l1 : (xs.take 6).length ≤ 6 := by rw [List.length_take]; omega
  generalize xs.take 6 = us at *
  have hlu : ∀ B w' a, OwnLs B w' a us → Limbs w' a us := fun B w' a h => h.limbs (by omega)
  have h27 := fun a w h => refCheck_l a us w h
  have h52 := fun a k w h => pow_bad a k us w h hbad
  generalize chk us = r at *
  have hq : (r == 0) = false := by simp [hbad]
  have hq1 : (r != 0) = true := by simp [hbad]
  have h41 := fun b w => is_err b r w hbad
  obtain ⟨D, hD⟩ : ∃ D, us.length = D := ⟨_, rfl⟩
  rw [hD] at hD2 l1
  have hz0 : ((D : Int) == 0) = false := by simp; omega
  have hz1 : ((D : Int) == 1) = false := by simp; omega
  obtain ⟨k, hk⟩ : ∃ k, n % 61 = k := ⟨_, rfl⟩
  have q1 : n.tmod 61 = k := by rw [Int.tmod_eq_emod_of_nonneg (by omega)]; exact hk
  have HCUT := Lib.hid hcut
  have HLU := Lib.hid hlu
  have H27 := Lib.hid h27
  have H52 := Lib.hid h52
  have H41 := Lib.hid h41
  have HBAD := Lib.hid hbad
  have HD := Lib.hid hD
  clear hcut hlu h27 h52 h41 hbad hD
  clear hA hL hnil l1
  go_enter Try.func8, Try.ntmps8
  go_wp2_with (fail)
  refine (HCUT.out _ (Below.refl _ _)).mono ?_
  rintro e w1 ⟨va, rfl, hva, hb1⟩
  have b1 := below_at (Below.refl _ _) (Nat.le_refl _) hb1
  have ka_1 := HLU.out _ _ _ hva
  have kk := ka_1
  obtain ⟨A1, c1, hve, hq1', _, hA1⟩ := kk
  rw [HD.out] at hve hq1'
  subst hve
  go_wp2_with (fail)
  refine (H27.out _ _ ka_1).mono ?_
  rintro e w2 ⟨rfl, rfl⟩
  go_wp2_with (fail)
  refine (H52.out _ _ _ ka_1).mono ?_
  rintro e w3 ⟨rfl, hb3⟩
  have b3 := below_at b1 (Nat.le_refl _) hb3
  have ka_3 := ka_1.keep hb3
  go_wp2_with (fail)
  refine (lives_any _).mono ?_
  rintro e w4 ⟨rfl, hb4⟩
  have b4 := below_at b3 (Nat.le_refl _) hb4
  have ka_4 := ka_3.keep hb4
  go_wp2_with (fail)
  refine (H41.out _ _).mono ?_
  rintro e w5 ⟨rfl, hb5⟩
  have b5 := below_at b4 (Nat.le_refl _) hb5
  have ka_5 := ka_4.keep hb5
  go_wp2
  go_ret
  exact ⟨rfl, b5⟩

set_option maxHeartbeats 2000000 in
set_option maxRecDepth 100000 in
theorem powers_zero_neg (A : Option Addr) (c L : Nat) (n : Int) (xs : List Nat) (w : World) (hA : Nums .u32 w A xs) (hL : L = xs.length) (hc : L ≤ c) (hnil : A = none → c = 0) (m : Nat) (hm : xs.take 6 = dig B32 m) (hm0 : m = 0) (hn : n < 0) : Calls Try.prog 8 #[.slice A L c, .int .i64 n] w (LivesPost w) := by
  have hcut := fun w' (h : Below w.heap.size w w') => cut_any A c L 6 xs w' (hA.keep h) hL hc hnil (by omega)
  have l1 : (xs.take 6).length ≤ 6 := by rw [List.length_take]; omega
  rw [hm] at hcut l1
  have lb : nbits m ≤ 192 := Nat.le_trans (bits_of_len l1) (by omega)
  have hlu : ∀ B w' a, OwnLs B w' a (dig B32 m) → Limbs w' a (dig B32 m) := fun B w' a h => h.limbs (by omega)
  have h27 := fun a w h => refCheck_l a (dig B32 m) w h
  rw [chk_dig (by omega)] at h27
  have h52 := fun a w' (h : Limbs w' a (dig B32 m)) => pow_arg a m n w' h.is (by omega) hn
  have h41 := fun b w => is_err b 1 w (by omega)
  obtain ⟨D, hD⟩ : ∃ D, (dig B32 m).length = D := ⟨_, rfl⟩
  have hd0 : D = 0 := by rw [← hD, hm0, dig_zero]; rfl
  subst hd0
  have HM0 := Lib.hid hm0
  clear hm0
  have HCUT := Lib.hid hcut
  have HLU := Lib.hid hlu
  have H27 := Lib.hid h27
  have H52 := Lib.hid h52
  have H41 := Lib.hid h41
  have HD := Lib.hid hD
  clear hcut hlu h27 h52 h41 hD
  clear hA hL hnil l1 hm lb
  go_enter Try.func8, Try.ntmps8
  go_wp2_with (fail)
  refine (HCUT.out _ (Below.refl _ _)).mono ?_
  rintro e w1 ⟨va, rfl, hva, hb1⟩
  have b1 := below_at (Below.refl _ _) (Nat.le_refl _) hb1
  have ka_1 := HLU.out _ _ _ hva
  have kk := ka_1
  obtain ⟨A1, c1, hve, hq1', _, hA1⟩ := kk
  rw [HD.out] at hve hq1'
  subst hve
  go_wp2_with (fail)
  refine (H27.out _ _ ka_1).mono ?_
  rintro e w2 ⟨rfl, rfl⟩
  go_wp2_with (fail)
  refine (H52.out _ _ ka_1).mono ?_
  rintro e w3 ⟨rfl, hb3⟩
  have b3 := below_at b1 (Nat.le_refl _) hb3
  have ka_3 := ka_1.keep hb3
  go_wp2_with (fail)
  refine (lives_any _).mono ?_
  rintro e w4 ⟨rfl, hb4⟩
  have b4 := below_at b3 (Nat.le_refl _) hb4
  have ka_4 := ka_3.keep hb4
  go_wp2_with (fail)
  refine (H41.out _ _).mono ?_
  rintro e w5 ⟨rfl, hb5⟩
  have b5 := below_at b4 (Nat.le_refl _) hb5
  have ka_5 := ka_4.keep hb5
  go_wp2
  go_ret
  exact ⟨rfl, b5⟩

set_option maxHeartbeats 2000000 in
set_option maxRecDepth 100000 in
theorem powers_zero_0 (A : Option Addr) (c L : Nat) (n : Int) (xs : List Nat) (w : World) (hA : Nums .u32 w A xs) (hL : L = xs.length) (hc : L ≤ c) (hnil : A = none → c = 0) (m : Nat) (hm : xs.take 6 = dig B32 m) (hm0 : m = 0) (hn : n = 0) : Calls Try.prog 8 #[.slice A L c, .int .i64 n] w (LivesPost w) := by
  have hcut := fun w' (h : Below w.heap.size w w') => cut_any A c L 6 xs w' (hA.keep h) hL hc hnil (by omega)
  have l1 : (xs.take 6).length ≤ 6 := by rw [List.length_take]; omega
  rw [hm] at hcut l1
  have lb : nbits m ≤ 192 := Nat.le_trans (bits_of_len l1) (by omega)
  have hlu : ∀ B w' a, OwnLs B w' a (dig B32 m) → Limbs w' a (dig B32 m) := fun B w' a h => h.limbs (by omega)
  have h27 := fun a w h => refCheck_l a (dig B32 m) w h
  rw [chk_dig (by omega)] at h27
  have h52 : ∀ a w', Limbs w' a (dig B32 m) → Calls Try.prog 52 #[a, .int .i64 0] w' (NatOk w' 1) := fun a w' h => pow_ok a m 0 w' h.is (by omega) (by omega) (by omega)
  have h34 := fun w => refOf_any 1 (by decide) w
  have hl1 : (dig B32 1).length ≤ 2 := len_u64 (by decide)
  have h41 : ∀ (B : Nat) (a : Value) (w' : World), N32 w' a 1 → ∀ b, OwnLs B w' b (dig B32 1) → Calls Try.prog 41 #[a, .int .i64 0, b, .int .i64 0] w' (LivesPost w') := fun B a w' h b kk => is_ok a b 1 w' h (kk.limbs (by omega)) (by omega)
  obtain ⟨D, hD⟩ : ∃ D, (dig B32 m).length = D := ⟨_, rfl⟩
  have hd0 : D = 0 := by rw [← hD, hm0, dig_zero]; rfl
  subst hd0
  subst hn
  have HM0 := Lib.hid hm0
  clear hm0
  have HCUT := Lib.hid hcut
  have HLU := Lib.hid hlu
  have H27 := Lib.hid h27
  have H52 := Lib.hid h52
  have H41 := Lib.hid h41
  have HD := Lib.hid hD
  have H34 := Lib.hid h34
  clear hcut hlu h27 h52 h41 hD h34
  clear hA hL hnil l1 hm lb hl1
  go_enter Try.func8, Try.ntmps8
  go_wp2_with (fail)
  refine (HCUT.out _ (Below.refl _ _)).mono ?_
  rintro e w1 ⟨va, rfl, hva, hb1⟩
  have b1 := below_at (Below.refl _ _) (Nat.le_refl _) hb1
  have ka_1 := HLU.out _ _ _ hva
  have kk := ka_1
  obtain ⟨A1, c1, hve, hq1', _, hA1⟩ := kk
  rw [HD.out] at hve hq1'
  subst hve
  go_wp2_with (fail)
  refine (H27.out _ _ ka_1).mono ?_
  rintro e w2 ⟨rfl, rfl⟩
  go_wp2_with (fail)
  refine (H52.out _ _ ka_1).mono ?_
  rintro e w3 ⟨vs, rfl, hvs, hb3⟩
  have b3 := below_at b1 (Nat.le_refl _) hb3
  have ks_3 := hvs.is
  go_wp2_with (fail)
  refine (lives_any _).mono ?_
  rintro e w4 ⟨rfl, hb4⟩
  have b4 := below_at b3 (Nat.le_refl _) hb4
  have ks_4 := ks_3.keep hb4
  go_wp2_with (fail)
  refine (H34.out _).mono ?_
  rintro e w5 ⟨vr, rfl, hvr, hb5⟩
  have b5 := below_at b4 (Nat.le_refl _) hb5
  have ks_5 := ks_4.keep hb5
  go_wp2_with (fail)
  refine (H41.out _ _ _ ks_5 _ hvr).mono ?_
  rintro e w6 ⟨rfl, hb6⟩
  have b6 := below_at b5 (Nat.le_refl _) hb6
  go_wp2
  go_ret
  exact ⟨rfl, b6⟩

set_option maxHeartbeats 2000000 in
set_option maxRecDepth 100000 in
theorem powers_zero_pos (A : Option Addr) (c L : Nat) (n : Int) (xs : List Nat) (w : World) (hA : Nums .u32 w A xs) (hL : L = xs.length) (hc : L ≤ c) (hnil : A = none → c = 0) (m : Nat) (hm : xs.take 6 = dig B32 m) (hm0 : m = 0) (k : Nat) (hk0 : 0 < k) (hk : k < 9223372036854775808) (hk6 : k ≤ 60) (hn : n = (k : Int)) : Calls Try.prog 8 #[.slice A L c, .int .i64 n] w (LivesPost w) := by
  have hcut := fun w' (h : Below w.heap.size w w') => cut_any A c L 6 xs w' (hA.keep h) hL hc hnil (by omega)
  have l1 : (xs.take 6).length ≤ 6 := by rw [List.length_take]; omega
  rw [hm] at hcut l1
  have lb : nbits m ≤ 192 := Nat.le_trans (bits_of_len l1) (by omega)
  have hlu : ∀ B w' a, OwnLs B w' a (dig B32 m) → Limbs w' a (dig B32 m) := fun B w' a h => h.limbs (by omega)
  have h27 := fun a w h => refCheck_l a (dig B32 m) w h
  rw [chk_dig (by omega)] at h27
  have h52 := fun a w' (h : Limbs w' a (dig B32 m)) => pow_01 a m k w' h.is (by omega) hk0 hk
  have h41 := fun a w' (h : N32 w' a m) b (kk : Limbs w' b (dig B32 m)) => is_ok a b m w' h kk (by omega)
  obtain ⟨D, hD⟩ : ∃ D, (dig B32 m).length = D := ⟨_, rfl⟩
  have hd0 : D = 0 := by rw [← hD, hm0, dig_zero]; rfl
  subst hd0
  subst hn
  have HK := Lib.hid hk
  clear hk
  have HM0 := Lib.hid hm0
  clear hm0
  have HCUT := Lib.hid hcut
  have HLU := Lib.hid hlu
  have H27 := Lib.hid h27
  have H52 := Lib.hid h52
  have H41 := Lib.hid h41
  have HD := Lib.hid hD
  clear hcut hlu h27 h52 h41 hD
  clear hA hL hnil l1 hm lb
  go_enter Try.func8, Try.ntmps8
  go_wp2_with (fail)
  refine (HCUT.out _ (Below.refl _ _)).mono ?_
  rintro e w1 ⟨va, rfl, hva, hb1⟩
  have b1 := below_at (Below.refl _ _) (Nat.le_refl _) hb1
  have ka_1 := HLU.out _ _ _ hva
  have kk := ka_1
  obtain ⟨A1, c1, hve, hq1', _, hA1⟩ := kk
  rw [HD.out] at hve hq1'
  subst hve
  go_wp2_with (fail)
  refine (H27.out _ _ ka_1).mono ?_
  rintro e w2 ⟨rfl, rfl⟩
  go_wp2_with (fail)
  refine (H52.out _ _ ka_1).mono ?_
  rintro e w3 ⟨vs, rfl, hvs, hb3⟩
  have b3 := below_at b1 (Nat.le_refl _) hb3
  have ka_3 := ka_1.keep hb3
  have ks_3 := hvs.is
  go_wp2_with (fail)
  refine (lives_any _).mono ?_
  rintro e w4 ⟨rfl, hb4⟩
  have b4 := below_at b3 (Nat.le_refl _) hb4
  have ka_4 := ka_3.keep hb4
  have ks_4 := ks_3.keep hb4
  go_wp2_with (fail)
  refine (H41.out _ _ ks_4 _ ka_4).mono ?_
  rintro e w5 ⟨rfl, hb5⟩
  have b5 := below_at b4 (Nat.le_refl _) hb5
  go_wp2
  go_ret
  exact ⟨rfl, b5⟩

set_option maxHeartbeats 2000000 in
set_option maxRecDepth 100000 in
theorem powers_zero_big (A : Option Addr) (c L : Nat) (n : Int) (xs : List Nat) (w : World) (hA : Nums .u32 w A xs) (hL : L = xs.length) (hc : L ≤ c) (hnil : A = none → c = 0) (m : Nat) (hm : xs.take 6 = dig B32 m) (hm0 : m = 0) (k : Nat) (hk0 : 0 < k) (hk : k < 9223372036854775808) (hk6 : 60 < k) (hn : n = (k : Int)) : Calls Try.prog 8 #[.slice A L c, .int .i64 n] w (LivesPost w) := by
  have hcut := fun w' (h : Below w.heap.size w w') => cut_any A c L 6 xs w' (hA.keep h) hL hc hnil (by omega)
  have l1 : (xs.take 6).length ≤ 6 := by rw [List.length_take]; omega
  rw [hm] at hcut l1
  have lb : nbits m ≤ 192 := Nat.le_trans (bits_of_len l1) (by omega)
  have hlu : ∀ B w' a, OwnLs B w' a (dig B32 m) → Limbs w' a (dig B32 m) := fun B w' a h => h.limbs (by omega)
  have h27 := fun a w h => refCheck_l a (dig B32 m) w h
  rw [chk_dig (by omega)] at h27
  have h52 := fun a w' (h : Limbs w' a (dig B32 m)) => pow_01 a m k w' h.is (by omega) hk0 hk
  have h41 := fun a w' (h : N32 w' a m) b (kk : Limbs w' b (dig B32 m)) => is_ok a b m w' h kk (by omega)
  obtain ⟨D, hD⟩ : ∃ D, (dig B32 m).length = D := ⟨_, rfl⟩
  have hd0 : D = 0 := by rw [← hD, hm0, dig_zero]; rfl
  subst hd0
  subst hn
  have HK := Lib.hid hk
  clear hk
  have HM0 := Lib.hid hm0
  clear hm0
  have HCUT := Lib.hid hcut
  have HLU := Lib.hid hlu
  have H27 := Lib.hid h27
  have H52 := Lib.hid h52
  have H41 := Lib.hid h41
  have HD := Lib.hid hD
  clear hcut hlu h27 h52 h41 hD
  clear hA hL hnil l1 hm lb
  go_enter Try.func8, Try.ntmps8
  go_wp2_with (fail)
  refine (HCUT.out _ (Below.refl _ _)).mono ?_
  rintro e w1 ⟨va, rfl, hva, hb1⟩
  have b1 := below_at (Below.refl _ _) (Nat.le_refl _) hb1
  have ka_1 := HLU.out _ _ _ hva
  have kk := ka_1
  obtain ⟨A1, c1, hve, hq1', _, hA1⟩ := kk
  rw [HD.out] at hve hq1'
  subst hve
  go_wp2_with (fail)
  refine (H27.out _ _ ka_1).mono ?_
  rintro e w2 ⟨rfl, rfl⟩
  go_wp2_with (fail)
  refine (H52.out _ _ ka_1).mono ?_
  rintro e w3 ⟨vs, rfl, hvs, hb3⟩
  have b3 := below_at b1 (Nat.le_refl _) hb3
  have ka_3 := ka_1.keep hb3
  have ks_3 := hvs.is
  go_wp2_with (fail)
  refine (lives_any _).mono ?_
  rintro e w4 ⟨rfl, hb4⟩
  have b4 := below_at b3 (Nat.le_refl _) hb4
  have ka_4 := ka_3.keep hb4
  have ks_4 := ks_3.keep hb4
  go_wp2_with (fail)
  refine (H41.out _ _ ks_4 _ ka_4).mono ?_
  rintro e w5 ⟨rfl, hb5⟩
  have b5 := below_at b4 (Nat.le_refl _) hb5
  go_wp2
  go_ret
  exact ⟨rfl, b5⟩

set_option maxHeartbeats 2000000 in
set_option maxRecDepth 100000 in
theorem powers_one_neg (A : Option Addr) (c L : Nat) (n : Int) (xs : List Nat) (w : World) (hA : Nums .u32 w A xs) (hL : L = xs.length) (hc : L ≤ c) (hnil : A = none → c = 0) (m : Nat) (hm : xs.take 6 = dig B32 m) (hm1 : m = 1) (hn : n < 0) : Calls Try.prog 8 #[.slice A L c, .int .i64 n] w (LivesPost w) := by
  have hcut := fun w' (h : Below w.heap.size w w') => cut_any A c L 6 xs w' (hA.keep h) hL hc hnil (by omega)
  have l1 : (xs.take 6).length ≤ 6 := by rw [List.length_take]; omega
  rw [hm] at hcut l1
  have lb : nbits m ≤ 192 := Nat.le_trans (bits_of_len l1) (by omega)
  have hlu : ∀ B w' a, OwnLs B w' a (dig B32 m) → Limbs w' a (dig B32 m) := fun B w' a h => h.limbs (by omega)
  have h27 := fun a w h => refCheck_l a (dig B32 m) w h
  rw [chk_dig (by omega)] at h27
  have h52 := fun a w' (h : Limbs w' a (dig B32 m)) => pow_arg a m n w' h.is (by omega) hn
  have h41 := fun b w => is_err b 1 w (by omega)
  obtain ⟨D, hD⟩ : ∃ D, (dig B32 m).length = D := ⟨_, rfl⟩
  have hd1 : D = 1 := by rw [← hD, hm1]; rw [dig1 b32_two (by omega) (by unfold B32; omega)]; rfl
  subst hd1
  have HM1 := Lib.hid hm1
  clear hm1
  have HCUT := Lib.hid hcut
  have HLU := Lib.hid hlu
  have H27 := Lib.hid h27
  have H52 := Lib.hid h52
  have H41 := Lib.hid h41
  have HD := Lib.hid hD
  clear hcut hlu h27 h52 h41 hD
  clear hA hL hnil l1 hm lb
  go_enter Try.func8, Try.ntmps8
  go_wp2_with (fail)
  refine (HCUT.out _ (Below.refl _ _)).mono ?_
  rintro e w1 ⟨va, rfl, hva, hb1⟩
  have b1 := below_at (Below.refl _ _) (Nat.le_refl _) hb1
  have ka_1 := HLU.out _ _ _ hva
  have kk := ka_1
  obtain ⟨A1, c1, hve, hq1', _, hA1⟩ := kk
  rw [HD.out] at hve hq1'
  subst hve
  obtain ⟨g, off, v, rfl, hg, hv0, hcv⟩ := hA1.at_ (i := 0) (by rw [HD.out]; omega)
  rw [Nat.add_zero] at hcv
  have hv1 : v = 1 := by have := dig_getElem? b32_two hv0; rw [HM1.out] at this; exact this
  subst hv1
  clear hv0 hA1
  go_wp2_with (fail)
  refine (H27.out _ _ ka_1).mono ?_
  rintro e w2 ⟨rfl, rfl⟩
  go_wp2_with (fail)
  refine (H52.out _ _ ka_1).mono ?_
  rintro e w3 ⟨rfl, hb3⟩
  have b3 := below_at b1 (Nat.le_refl _) hb3
  have ka_3 := ka_1.keep hb3
  go_wp2_with (fail)
  refine (lives_any _).mono ?_
  rintro e w4 ⟨rfl, hb4⟩
  have b4 := below_at b3 (Nat.le_refl _) hb4
  have ka_4 := ka_3.keep hb4
  go_wp2_with (fail)
  refine (H41.out _ _).mono ?_
  rintro e w5 ⟨rfl, hb5⟩
  have b5 := below_at b4 (Nat.le_refl _) hb5
  have ka_5 := ka_4.keep hb5
  go_wp2
  go_ret
  exact ⟨rfl, b5⟩

set_option maxHeartbeats 2000000 in
set_option maxRecDepth 100000 in
theorem powers_one_0 (A : Option Addr) (c L : Nat) (n : Int) (xs : List Nat) (w : World) (hA : Nums .u32 w A xs) (hL : L = xs.length) (hc : L ≤ c) (hnil : A = none → c = 0) (m : Nat) (hm : xs.take 6 = dig B32 m) (hm1 : m = 1) (hn : n = 0) : Calls Try.prog 8 #[.slice A L c, .int .i64 n] w (LivesPost w) := by
  have hcut := fun w' (h : Below w.heap.size w w') => cut_any A c L 6 xs w' (hA.keep h) hL hc hnil (by omega)
  have l1 : (xs.take 6).length ≤ 6 := by rw [List.length_take]; omega
  rw [hm] at hcut l1
  have lb : nbits m ≤ 192 := Nat.le_trans (bits_of_len l1) (by omega)
  have hlu : ∀ B w' a, OwnLs B w' a (dig B32 m) → Limbs w' a (dig B32 m) := fun B w' a h => h.limbs (by omega)
  have h27 := fun a w h => refCheck_l a (dig B32 m) w h
  rw [chk_dig (by omega)] at h27
  have h52 : ∀ a w', Limbs w' a (dig B32 m) → Calls Try.prog 52 #[a, .int .i64 0] w' (NatOk w' 1) := fun a w' h => pow_ok a m 0 w' h.is (by omega) (by omega) (by omega)
  have h34 := fun w => refOf_any 1 (by decide) w
  have hl1 : (dig B32 1).length ≤ 2 := len_u64 (by decide)
  have h41 : ∀ (B : Nat) (a : Value) (w' : World), N32 w' a 1 → ∀ b, OwnLs B w' b (dig B32 1) → Calls Try.prog 41 #[a, .int .i64 0, b, .int .i64 0] w' (LivesPost w') := fun B a w' h b kk => is_ok a b 1 w' h (kk.limbs (by omega)) (by omega)
  obtain ⟨D, hD⟩ : ∃ D, (dig B32 m).length = D := ⟨_, rfl⟩
  have hd1 : D = 1 := by rw [← hD, hm1]; rw [dig1 b32_two (by omega) (by unfold B32; omega)]; rfl
  subst hd1
  subst hn
  have HM1 := Lib.hid hm1
  clear hm1
  have HCUT := Lib.hid hcut
  have HLU := Lib.hid hlu
  have H27 := Lib.hid h27
  have H52 := Lib.hid h52
  have H41 := Lib.hid h41
  have HD := Lib.hid hD
  have H34 := Lib.hid h34
  clear hcut hlu h27 h52 h41 hD h34
  clear hA hL hnil l1 hm lb hl1
  go_enter Try.func8, Try.ntmps8
  go_wp2_with (fail)
  refine (HCUT.out _ (Below.refl _ _)).mono ?_
  rintro e w1 ⟨va, rfl, hva, hb1⟩
  have b1 := below_at (Below.refl _ _) (Nat.le_refl _) hb1
  have ka_1 := HLU.out _ _ _ hva
  have kk := ka_1
  obtain ⟨A1, c1, hve, hq1', _, hA1⟩ := kk
  rw [HD.out] at hve hq1'
  subst hve
  obtain ⟨g, off, v, rfl, hg, hv0, hcv⟩ := hA1.at_ (i := 0) (by rw [HD.out]; omega)
  rw [Nat.add_zero] at hcv
  have hv1 : v = 1 := by have := dig_getElem? b32_two hv0; rw [HM1.out] at this; exact this
  subst hv1
  clear hv0 hA1
  go_wp2_with (fail)
  refine (H27.out _ _ ka_1).mono ?_
  rintro e w2 ⟨rfl, rfl⟩
  go_wp2_with (fail)
  refine (H52.out _ _ ka_1).mono ?_
  rintro e w3 ⟨vs, rfl, hvs, hb3⟩
  have b3 := below_at b1 (Nat.le_refl _) hb3
  have ks_3 := hvs.is
  go_wp2_with (fail)
  refine (lives_any _).mono ?_
  rintro e w4 ⟨rfl, hb4⟩
  have b4 := below_at b3 (Nat.le_refl _) hb4
  have ks_4 := ks_3.keep hb4
  go_wp2_with (fail)
  refine (H34.out _).mono ?_
  rintro e w5 ⟨vr, rfl, hvr, hb5⟩
  have b5 := below_at b4 (Nat.le_refl _) hb5
  have ks_5 := ks_4.keep hb5
  go_wp2_with (fail)
  refine (H41.out _ _ _ ks_5 _ hvr).mono ?_
  rintro e w6 ⟨rfl, hb6⟩
  have b6 := below_at b5 (Nat.le_refl _) hb6
  go_wp2
  go_ret
  exact ⟨rfl, b6⟩

set_option maxHeartbeats 2000000 in
set_option maxRecDepth 100000 in
theorem powers_one_pos (A : Option Addr) (c L : Nat) (n : Int) (xs : List Nat) (w : World) (hA : Nums .u32 w A xs) (hL : L = xs.length) (hc : L ≤ c) (hnil : A = none → c = 0) (m : Nat) (hm : xs.take 6 = dig B32 m) (hm1 : m = 1) (k : Nat) (hk0 : 0 < k) (hk : k < 9223372036854775808) (hk6 : k ≤ 60) (hn : n = (k : Int)) : Calls Try.prog 8 #[.slice A L c, .int .i64 n] w (LivesPost w) := by
  have hcut := fun w' (h : Below w.heap.size w w') => cut_any A c L 6 xs w' (hA.keep h) hL hc hnil (by omega)
  have l1 : (xs.take 6).length ≤ 6 := by rw [List.length_take]; omega
  rw [hm] at hcut l1
  have lb : nbits m ≤ 192 := Nat.le_trans (bits_of_len l1) (by omega)
  have hlu : ∀ B w' a, OwnLs B w' a (dig B32 m) → Limbs w' a (dig B32 m) := fun B w' a h => h.limbs (by omega)
  have h27 := fun a w h => refCheck_l a (dig B32 m) w h
  rw [chk_dig (by omega)] at h27
  have h52 := fun a w' (h : Limbs w' a (dig B32 m)) => pow_01 a m k w' h.is (by omega) hk0 hk
  have h41 := fun a w' (h : N32 w' a m) b (kk : Limbs w' b (dig B32 m)) => is_ok a b m w' h kk (by omega)
  obtain ⟨D, hD⟩ : ∃ D, (dig B32 m).length = D := ⟨_, rfl⟩
  have hd1 : D = 1 := by rw [← hD, hm1]; rw [dig1 b32_two (by omega) (by unfold B32; omega)]; rfl
  subst hd1
  subst hn
  have HK := Lib.hid hk
  clear hk
  have HM1 := Lib.hid hm1
  clear hm1
  have HCUT := Lib.hid hcut
  have HLU := Lib.hid hlu
  have H27 := Lib.hid h27
  have H52 := Lib.hid h52
  have H41 := Lib.hid h41
  have HD := Lib.hid hD
  clear hcut hlu h27 h52 h41 hD
  clear hA hL hnil l1 hm lb
  go_enter Try.func8, Try.ntmps8
  go_wp2_with (fail)
  refine (HCUT.out _ (Below.refl _ _)).mono ?_
  rintro e w1 ⟨va, rfl, hva, hb1⟩
  have b1 := below_at (Below.refl _ _) (Nat.le_refl _) hb1
  have ka_1 := HLU.out _ _ _ hva
  have kk := ka_1
  obtain ⟨A1, c1, hve, hq1', _, hA1⟩ := kk
  rw [HD.out] at hve hq1'
  subst hve
  obtain ⟨g, off, v, rfl, hg, hv0, hcv⟩ := hA1.at_ (i := 0) (by rw [HD.out]; omega)
  rw [Nat.add_zero] at hcv
  have hv1 : v = 1 := by have := dig_getElem? b32_two hv0; rw [HM1.out] at this; exact this
  subst hv1
  clear hv0 hA1
  go_wp2_with (fail)
  refine (H27.out _ _ ka_1).mono ?_
  rintro e w2 ⟨rfl, rfl⟩
  go_wp2_with (fail)
  refine (H52.out _ _ ka_1).mono ?_
  rintro e w3 ⟨vs, rfl, hvs, hb3⟩
  have b3 := below_at b1 (Nat.le_refl _) hb3
  have ka_3 := ka_1.keep hb3
  have ks_3 := hvs.is
  go_wp2_with (fail)
  refine (lives_any _).mono ?_
  rintro e w4 ⟨rfl, hb4⟩
  have b4 := below_at b3 (Nat.le_refl _) hb4
  have ka_4 := ka_3.keep hb4
  have ks_4 := ks_3.keep hb4
  go_wp2_with (fail)
  refine (H41.out _ _ ks_4 _ ka_4).mono ?_
  rintro e w5 ⟨rfl, hb5⟩
  have b5 := below_at b4 (Nat.le_refl _) hb5
  go_wp2
  go_ret
  exact ⟨rfl, b5⟩

set_option maxHeartbeats 2000000 in
set_option maxRecDepth 100000 in
theorem powers_one_big (A : Option Addr) (c L : Nat) (n : Int) (xs : List Nat) (w : World) (hA : Nums .u32 w A xs) (hL : L = xs.length) (hc : L ≤ c) (hnil : A = none → c = 0) (m : Nat) (hm : xs.take 6 = dig B32 m) (hm1 : m = 1) (k : Nat) (hk0 : 0 < k) (hk : k < 9223372036854775808) (hk6 : 60 < k) (hn : n = (k : Int)) : Calls Try.prog 8 #[.slice A L c, .int .i64 n] w (LivesPost w) := by
  have hcut := fun w' (h : Below w.heap.size w w') => cut_any A c L 6 xs w' (hA.keep h) hL hc hnil (by omega)
  have l1 : (xs.take 6).length ≤ 6 := by rw [List.length_take]; omega
  rw [hm] at hcut l1
  have lb : nbits m ≤ 192 := Nat.le_trans (bits_of_len l1) (by omega)
  have hlu : ∀ B w' a, OwnLs B w' a (dig B32 m) → Limbs w' a (dig B32 m) := fun B w' a h => h.limbs (by omega)
  have h27 := fun a w h => refCheck_l a (dig B32 m) w h
  rw [chk_dig (by omega)] at h27
  have h52 := fun a w' (h : Limbs w' a (dig B32 m)) => pow_01 a m k w' h.is (by omega) hk0 hk
  have h41 := fun a w' (h : N32 w' a m) b (kk : Limbs w' b (dig B32 m)) => is_ok a b m w' h kk (by omega)
  obtain ⟨D, hD⟩ : ∃ D, (dig B32 m).length = D := ⟨_, rfl⟩
  have hd1 : D = 1 := by rw [← hD, hm1]; rw [dig1 b32_two (by omega) (by unfold B32; omega)]; rfl
  subst hd1
  subst hn
  have HK := Lib.hid hk
  clear hk
  have HM1 := Lib.hid hm1
  clear hm1
  have HCUT := Lib.hid hcut
  have HLU := Lib.hid hlu
  have H27 := Lib.hid h27
  have H52 := Lib.hid h52
  have H41 := Lib.hid h41
  have HD := Lib.hid hD
  clear hcut hlu h27 h52 h41 hD
  clear hA hL hnil l1 hm lb
  go_enter Try.func8, Try.ntmps8
  go_wp2_with (fail)
  refine (HCUT.out _ (Below.refl _ _)).mono ?_
  rintro e w1 ⟨va, rfl, hva, hb1⟩
  have b1 := below_at (Below.refl _ _) (Nat.le_refl _) hb1
  have ka_1 := HLU.out _ _ _ hva
  have kk := ka_1
  obtain ⟨A1, c1, hve, hq1', _, hA1⟩ := kk
  rw [HD.out] at hve hq1'
  subst hve
  obtain ⟨g, off, v, rfl, hg, hv0, hcv⟩ := hA1.at_ (i := 0) (by rw [HD.out]; omega)
  rw [Nat.add_zero] at hcv
  have hv1 : v = 1 := by have := dig_getElem? b32_two hv0; rw [HM1.out] at this; exact this
  subst hv1
  clear hv0 hA1
  go_wp2_with (fail)
  refine (H27.out _ _ ka_1).mono ?_
  rintro e w2 ⟨rfl, rfl⟩
  go_wp2_with (fail)
  refine (H52.out _ _ ka_1).mono ?_
  rintro e w3 ⟨vs, rfl, hvs, hb3⟩
  have b3 := below_at b1 (Nat.le_refl _) hb3
  have ka_3 := ka_1.keep hb3
  have ks_3 := hvs.is
  go_wp2_with (fail)
  refine (lives_any _).mono ?_
  rintro e w4 ⟨rfl, hb4⟩
  have b4 := below_at b3 (Nat.le_refl _) hb4
  have ka_4 := ka_3.keep hb4
  have ks_4 := ks_3.keep hb4
  go_wp2_with (fail)
  refine (H41.out _ _ ks_4 _ ka_4).mono ?_
  rintro e w5 ⟨rfl, hb5⟩
  have b5 := below_at b4 (Nat.le_refl _) hb5
  go_wp2
  go_ret
  exact ⟨rfl, b5⟩

set_option maxHeartbeats 2000000 in
set_option maxRecDepth 100000 in
theorem powers_single_neg (A : Option Addr) (c L : Nat) (n : Int) (xs : List Nat) (w : World) (hA : Nums .u32 w A xs) (hL : L = xs.length) (hc : L ≤ c) (hnil : A = none → c = 0) (m : Nat) (hm : xs.take 6 = dig B32 m) (hmm : 2 ≤ m) (hD1 : (dig B32 m).length = 1) (hn : n < 0) : Calls Try.prog 8 #[.slice A L c, .int .i64 n] w (LivesPost w) := by
  have hcut := fun w' (h : Below w.heap.size w w') => cut_any A c L 6 xs w' (hA.keep h) hL hc hnil (by omega)
  have l1 : (xs.take 6).length ≤ 6 := by rw [List.length_take]; omega
  rw [hm] at hcut l1
  have lb : nbits m ≤ 192 := Nat.le_trans (bits_of_len l1) (by omega)
  have hlu : ∀ B w' a, OwnLs B w' a (dig B32 m) → Limbs w' a (dig B32 m) := fun B w' a h => h.limbs (by omega)
  have h27 := fun a w h => refCheck_l a (dig B32 m) w h
  rw [chk_dig (by omega)] at h27
  have h52 := fun a w' (h : Limbs w' a (dig B32 m)) => pow_arg a m n w' h.is (by omega) hn
  have h41 := fun b w => is_err b 1 w (by omega)
  obtain ⟨D, hD⟩ : ∃ D, (dig B32 m).length = D := ⟨_, rfl⟩
  rw [hD] at hD1
  subst hD1
  have HCUT := Lib.hid hcut
  have HLU := Lib.hid hlu
  have H27 := Lib.hid h27
  have H52 := Lib.hid h52
  have H41 := Lib.hid h41
  have HD := Lib.hid hD
  clear hcut hlu h27 h52 h41 hD
  clear hA hL hnil l1 hm lb
  go_enter Try.func8, Try.ntmps8
  go_wp2_with (fail)
  refine (HCUT.out _ (Below.refl _ _)).mono ?_
  rintro e w1 ⟨va, rfl, hva, hb1⟩
  have b1 := below_at (Below.refl _ _) (Nat.le_refl _) hb1
  have ka_1 := HLU.out _ _ _ hva
  have kk := ka_1
  obtain ⟨A1, c1, hve, hq1', _, hA1⟩ := kk
  rw [HD.out] at hve hq1'
  subst hve
  obtain ⟨g, off, v, rfl, hg, hv0, hcv⟩ := hA1.at_ (i := 0) (by rw [HD.out]; omega)
  rw [Nat.add_zero] at hcv
  have hv1 : v = m := by
    have h1 := dig_getElem? b32_two hv0
    have h2 := dig_len_lt b32_two (n := m)
    rw [HD.out, Nat.pow_one] at h2
    rw [Nat.pow_zero, Nat.div_one, Nat.mod_eq_of_lt h2] at h1
    exact h1
  have hvt : ((v : Int) == 1) = false := by simp; omega
  clear hv0 hA1 hv1
  go_wp2_with (fail)
  refine (H27.out _ _ ka_1).mono ?_
  rintro e w2 ⟨rfl, rfl⟩
  go_wp2_with (fail)
  refine (H52.out _ _ ka_1).mono ?_
  rintro e w3 ⟨rfl, hb3⟩
  have b3 := below_at b1 (Nat.le_refl _) hb3
  have ka_3 := ka_1.keep hb3
  go_wp2_with (fail)
  refine (lives_any _).mono ?_
  rintro e w4 ⟨rfl, hb4⟩
  have b4 := below_at b3 (Nat.le_refl _) hb4
  have ka_4 := ka_3.keep hb4
  go_wp2_with (fail)
  refine (H41.out _ _).mono ?_
  rintro e w5 ⟨rfl, hb5⟩
  have b5 := below_at b4 (Nat.le_refl _) hb5
  have ka_5 := ka_4.keep hb5
  go_wp2
  go_ret
  exact ⟨rfl, b5⟩

set_option maxHeartbeats 2000000 in
set_option maxRecDepth 100000 in
theorem powers_single_0 (A : Option Addr) (c L : Nat) (n : Int) (xs : List Nat) (w : World) (hA : Nums .u32 w A xs) (hL : L = xs.length) (hc : L ≤ c) (hnil : A = none → c = 0) (m : Nat) (hm : xs.take 6 = dig B32 m) (hmm : 2 ≤ m) (hD1 : (dig B32 m).length = 1) (hn : n = 0) : Calls Try.prog 8 #[.slice A L c, .int .i64 n] w (LivesPost w) := by
  have hcut := fun w' (h : Below w.heap.size w w') => cut_any A c L 6 xs w' (hA.keep h) hL hc hnil (by omega)
  have l1 : (xs.take 6).length ≤ 6 := by rw [List.length_take]; omega
  rw [hm] at hcut l1
  have lb : nbits m ≤ 192 := Nat.le_trans (bits_of_len l1) (by omega)
  have hlu : ∀ B w' a, OwnLs B w' a (dig B32 m) → Limbs w' a (dig B32 m) := fun B w' a h => h.limbs (by omega)
  have h27 := fun a w h => refCheck_l a (dig B32 m) w h
  rw [chk_dig (by omega)] at h27
  have h52 : ∀ a w', Limbs w' a (dig B32 m) → Calls Try.prog 52 #[a, .int .i64 0] w' (NatOk w' 1) := fun a w' h => pow_ok a m 0 w' h.is (by omega) (by omega) (by omega)
  have h34 := fun w => refOf_any 1 (by decide) w
  have hl1 : (dig B32 1).length ≤ 2 := len_u64 (by decide)
  have h41 : ∀ (B : Nat) (a : Value) (w' : World), N32 w' a 1 → ∀ b, OwnLs B w' b (dig B32 1) → Calls Try.prog 41 #[a, .int .i64 0, b, .int .i64 0] w' (LivesPost w') := fun B a w' h b kk => is_ok a b 1 w' h (kk.limbs (by omega)) (by omega)
  obtain ⟨D, hD⟩ : ∃ D, (dig B32 m).length = D := ⟨_, rfl⟩
  rw [hD] at hD1
  subst hD1
  subst hn
  have HCUT := Lib.hid hcut
  have HLU := Lib.hid hlu
  have H27 := Lib.hid h27
  have H52 := Lib.hid h52
  have H41 := Lib.hid h41
  have HD := Lib.hid hD
  have H34 := Lib.hid h34
  clear hcut hlu h27 h52 h41 hD h34
  clear hA hL hnil l1 hm lb hl1
  go_enter Try.func8, Try.ntmps8
  go_wp2_with (fail)
  refine (HCUT.out _ (Below.refl _ _)).mono ?_
  rintro e w1 ⟨va, rfl, hva, hb1⟩
  have b1 := below_at (Below.refl _ _) (Nat.le_refl _) hb1
  have ka_1 := HLU.out _ _ _ hva
  have kk := ka_1
  obtain ⟨A1, c1, hve, hq1', _, hA1⟩ := kk
  rw [HD.out] at hve hq1'
  subst hve
  obtain ⟨g, off, v, rfl, hg, hv0, hcv⟩ := hA1.at_ (i := 0) (by rw [HD.out]; omega)
  rw [Nat.add_zero] at hcv
  have hv1 : v = m := by
    have h1 := dig_getElem? b32_two hv0
    have h2 := dig_len_lt b32_two (n := m)
    rw [HD.out, Nat.pow_one] at h2
    rw [Nat.pow_zero, Nat.div_one, Nat.mod_eq_of_lt h2] at h1
    exact h1
  have hvt : ((v : Int) == 1) = false := by simp; omega
  clear hv0 hA1 hv1
  go_wp2_with (fail)
  refine (H27.out _ _ ka_1).mono ?_
  rintro e w2 ⟨rfl, rfl⟩
  go_wp2_with (fail)
  refine (H52.out _ _ ka_1).mono ?_
  rintro e w3 ⟨vs, rfl, hvs, hb3⟩
  have b3 := below_at b1 (Nat.le_refl _) hb3
  have ks_3 := hvs.is
  go_wp2_with (fail)
  refine (lives_any _).mono ?_
  rintro e w4 ⟨rfl, hb4⟩
  have b4 := below_at b3 (Nat.le_refl _) hb4
  have ks_4 := ks_3.keep hb4
  go_wp2_with (fail)
  refine (H34.out _).mono ?_
  rintro e w5 ⟨vr, rfl, hvr, hb5⟩
  have b5 := below_at b4 (Nat.le_refl _) hb5
  have ks_5 := ks_4.keep hb5
  go_wp2_with (fail)
  refine (H41.out _ _ _ ks_5 _ hvr).mono ?_
  rintro e w6 ⟨rfl, hb6⟩
  have b6 := below_at b5 (Nat.le_refl _) hb6
  go_wp2
  go_ret
  exact ⟨rfl, b6⟩

set_option maxHeartbeats 2000000 in
set_option maxRecDepth 100000 in
theorem powers_single_pos (A : Option Addr) (c L : Nat) (n : Int) (xs : List Nat) (w : World) (hA : Nums .u32 w A xs) (hL : L = xs.length) (hc : L ≤ c) (hnil : A = none → c = 0) (m : Nat) (hm : xs.take 6 = dig B32 m) (hmm : 2 ≤ m) (hD1 : (dig B32 m).length = 1) (k : Nat) (hk0 : 0 < k) (hk : k ≤ 60) (hn : n = (k : Int)) : Calls Try.prog 8 #[.slice A L c, .int .i64 n] w (LivesPost w) := by
  have hcut := fun w' (h : Below w.heap.size w w') => cut_any A c L 6 xs w' (hA.keep h) hL hc hnil (by omega)
  have l1 : (xs.take 6).length ≤ 6 := by rw [List.length_take]; omega
  rw [hm] at hcut l1
  have lb : nbits m ≤ 192 := Nat.le_trans (bits_of_len l1) (by omega)
  have hlu : ∀ B w' a, OwnLs B w' a (dig B32 m) → Limbs w' a (dig B32 m) := fun B w' a h => h.limbs (by omega)
  have h27 := fun a w h => refCheck_l a (dig B32 m) w h
  rw [chk_dig (by omega)] at h27
  have hlp : ∀ j, j ≤ k → (dig B32 (m ^ j)).length ≤ 500 := fun j hj => by
    have h1 := nbits_pow_le m j
    have h2 := Nat.mul_le_mul (Nat.le_trans hj hk) lb
    exact len32_of_bits (Nat.le_trans h1 (by omega))
  have h52 := fun a w' (h : Limbs w' a (dig B32 m)) => pow_ok a m k w' h.is (by omega) (by omega) (by omega)
  have h53 := fun a w' (h : Limbs w' a (dig B32 m)) => refPow_any a m k w' h.is (by omega) (by omega) hlp
  have hlk := hlp k (Nat.le_refl _)
  have h41 := fun a w' (h : N32 w' a (m ^ k)) b (kk : N32 w' b (m ^ k)) => is_ok a b (m ^ k) w' h (Limbs.num kk (by omega)) (by omega)
  clear hlp hlk
  obtain ⟨D, hD⟩ : ∃ D, (dig B32 m).length = D := ⟨_, rfl⟩
  rw [hD] at hD1
  subst hD1
  subst hn
  have HCUT := Lib.hid hcut
  have HLU := Lib.hid hlu
  have H27 := Lib.hid h27
  have H52 := Lib.hid h52
  have H41 := Lib.hid h41
  have HD := Lib.hid hD
  have H53 := Lib.hid h53
  clear hcut hlu h27 h52 h41 hD h53
  clear hA hL hnil l1 hm lb
  go_enter Try.func8, Try.ntmps8
  go_wp2_with (fail)
  refine (HCUT.out _ (Below.refl _ _)).mono ?_
  rintro e w1 ⟨va, rfl, hva, hb1⟩
  have b1 := below_at (Below.refl _ _) (Nat.le_refl _) hb1
  have ka_1 := HLU.out _ _ _ hva
  have kk := ka_1
  obtain ⟨A1, c1, hve, hq1', _, hA1⟩ := kk
  rw [HD.out] at hve hq1'
  subst hve
  obtain ⟨g, off, v, rfl, hg, hv0, hcv⟩ := hA1.at_ (i := 0) (by rw [HD.out]; omega)
  rw [Nat.add_zero] at hcv
  have hv1 : v = m := by
    have h1 := dig_getElem? b32_two hv0
    have h2 := dig_len_lt b32_two (n := m)
    rw [HD.out, Nat.pow_one] at h2
    rw [Nat.pow_zero, Nat.div_one, Nat.mod_eq_of_lt h2] at h1
    exact h1
  have hvt : ((v : Int) == 1) = false := by simp; omega
  clear hv0 hA1 hv1
  go_wp2_with (fail)
  refine (H27.out _ _ ka_1).mono ?_
  rintro e w2 ⟨rfl, rfl⟩
  go_wp2_with (fail)
  refine (H52.out _ _ ka_1).mono ?_
  rintro e w3 ⟨vs, rfl, hvs, hb3⟩
  have b3 := below_at b1 (Nat.le_refl _) hb3
  have ka_3 := ka_1.keep hb3
  have ks_3 := hvs.is
  go_wp2_with (fail)
  refine (lives_any _).mono ?_
  rintro e w4 ⟨rfl, hb4⟩
  have b4 := below_at b3 (Nat.le_refl _) hb4
  have ka_4 := ka_3.keep hb4
  have ks_4 := ks_3.keep hb4
  go_wp2_with (fail)
  refine (H53.out _ _ ka_4).mono ?_
  rintro e w5 ⟨vr, rfl, hvr, hb5⟩
  have b5 := below_at b4 (Nat.le_refl _) hb5
  have ks_5 := ks_4.keep hb5
  go_wp2_with (fail)
  refine (H41.out _ _ ks_5 _ hvr).mono ?_
  rintro e w6 ⟨rfl, hb6⟩
  have b6 := below_at b5 (Nat.le_refl _) hb6
  go_wp2
  go_ret
  exact ⟨rfl, b6⟩

set_option maxHeartbeats 2000000 in
set_option maxRecDepth 100000 in
theorem powers_single_mod0 (A : Option Addr) (c L : Nat) (n : Int) (xs : List Nat) (w : World) (hA : Nums .u32 w A xs) (hL : L = xs.length) (hc : L ≤ c) (hnil : A = none → c = 0) (m : Nat) (hm : xs.take 6 = dig B32 m) (hmm : 2 ≤ m) (hD1 : (dig B32 m).length = 1) (hn : 60 < n) (hn2 : n % 61 = 0) : Calls Try.prog 8 #[.slice A L c, .int .i64 n] w (LivesPost w) := by
  have hcut := fun w' (h : Below w.heap.size w w') => cut_any A c L 6 xs w' (hA.keep h) hL hc hnil (by omega)
  have l1 : (xs.take 6).length ≤ 6 := by rw [List.length_take]; omega
  rw [hm] at hcut l1
  have lb : nbits m ≤ 192 := Nat.le_trans (bits_of_len l1) (by omega)
  have hlu : ∀ B w' a, OwnLs B w' a (dig B32 m) → Limbs w' a (dig B32 m) := fun B w' a h => h.limbs (by omega)
  have h27 := fun a w h => refCheck_l a (dig B32 m) w h
  rw [chk_dig (by omega)] at h27
  have h52 : ∀ a w', Limbs w' a (dig B32 m) → Calls Try.prog 52 #[a, .int .i64 0] w' (NatOk w' 1) := fun a w' h => pow_ok a m 0 w' h.is (by omega) (by omega) (by omega)
  have h34 := fun w => refOf_any 1 (by decide) w
  have hl1 : (dig B32 1).length ≤ 2 := len_u64 (by decide)
  have h41 : ∀ (B : Nat) (a : Value) (w' : World), N32 w' a 1 → ∀ b, OwnLs B w' b (dig B32 1) → Calls Try.prog 41 #[a, .int .i64 0, b, .int .i64 0] w' (LivesPost w') := fun B a w' h b kk => is_ok a b 1 w' h (kk.limbs (by omega)) (by omega)
  obtain ⟨D, hD⟩ : ∃ D, (dig B32 m).length = D := ⟨_, rfl⟩
  rw [hD] at hD1
  subst hD1
  have q1 : n.tmod 61 = 0 := by rw [Int.tmod_eq_emod_of_nonneg (by omega)]; exact hn2
  have HCUT := Lib.hid hcut
  have HLU := Lib.hid hlu
  have H27 := Lib.hid h27
  have H52 := Lib.hid h52
  have H41 := Lib.hid h41
  have HD := Lib.hid hD
  have H34 := Lib.hid h34
  clear hcut hlu h27 h52 h41 hD h34
  clear hA hL hnil l1 hm lb hl1
  go_enter Try.func8, Try.ntmps8
  go_wp2_with (fail)
  refine (HCUT.out _ (Below.refl _ _)).mono ?_
  rintro e w1 ⟨va, rfl, hva, hb1⟩
  have b1 := below_at (Below.refl _ _) (Nat.le_refl _) hb1
  have ka_1 := HLU.out _ _ _ hva
  have kk := ka_1
  obtain ⟨A1, c1, hve, hq1', _, hA1⟩ := kk
  rw [HD.out] at hve hq1'
  subst hve
  obtain ⟨g, off, v, rfl, hg, hv0, hcv⟩ := hA1.at_ (i := 0) (by rw [HD.out]; omega)
  rw [Nat.add_zero] at hcv
  have hv1 : v = m := by
    have h1 := dig_getElem? b32_two hv0
    have h2 := dig_len_lt b32_two (n := m)
    rw [HD.out, Nat.pow_one] at h2
    rw [Nat.pow_zero, Nat.div_one, Nat.mod_eq_of_lt h2] at h1
    exact h1
  have hvt : ((v : Int) == 1) = false := by simp; omega
  clear hv0 hA1 hv1
  go_wp2_with (fail)
  refine (H27.out _ _ ka_1).mono ?_
  rintro e w2 ⟨rfl, rfl⟩
  go_wp2_with (fail)
  refine (H52.out _ _ ka_1).mono ?_
  rintro e w3 ⟨vs, rfl, hvs, hb3⟩
  have b3 := below_at b1 (Nat.le_refl _) hb3
  have ks_3 := hvs.is
  go_wp2_with (fail)
  refine (lives_any _).mono ?_
  rintro e w4 ⟨rfl, hb4⟩
  have b4 := below_at b3 (Nat.le_refl _) hb4
  have ks_4 := ks_3.keep hb4
  go_wp2_with (fail)
  refine (H34.out _).mono ?_
  rintro e w5 ⟨vr, rfl, hvr, hb5⟩
  have b5 := below_at b4 (Nat.le_refl _) hb5
  have ks_5 := ks_4.keep hb5
  go_wp2_with (fail)
  refine (H41.out _ _ _ ks_5 _ hvr).mono ?_
  rintro e w6 ⟨rfl, hb6⟩
  have b6 := below_at b5 (Nat.le_refl _) hb6
  go_wp2
  go_ret
  exact ⟨rfl, b6⟩

set_option maxHeartbeats 2000000 in
set_option maxRecDepth 100000 in
theorem powers_single_modpos (A : Option Addr) (c L : Nat) (n : Int) (xs : List Nat) (w : World) (hA : Nums .u32 w A xs) (hL : L = xs.length) (hc : L ≤ c) (hnil : A = none → c = 0) (m : Nat) (hm : xs.take 6 = dig B32 m) (hmm : 2 ≤ m) (hD1 : (dig B32 m).length = 1) (k : Nat) (hk0 : 0 < k) (hk : k ≤ 60) (hn : 60 < n) (hn2 : n % 61 = (k : Int)) : Calls Try.prog 8 #[.slice A L c, .int .i64 n] w (LivesPost w) := by
  have hcut := fun w' (h : Below w.heap.size w w') => cut_any A c L 6 xs w' (hA.keep h) hL hc hnil (by omega)
  have l1 : (xs.take 6).length ≤ 6 := by rw [List.length_take]; omega
  rw [hm] at hcut l1
  have lb : nbits m ≤ 192 := Nat.le_trans (bits_of_len l1) (by omega)
  have hlu : ∀ B w' a, OwnLs B w' a (dig B32 m) → Limbs w' a (dig B32 m) := fun B w' a h => h.limbs (by omega)
  have h27 := fun a w h => refCheck_l a (dig B32 m) w h
  rw [chk_dig (by omega)] at h27
  have hlp : ∀ j, j ≤ k → (dig B32 (m ^ j)).length ≤ 500 := fun j hj => by
    have h1 := nbits_pow_le m j
    have h2 := Nat.mul_le_mul (Nat.le_trans hj hk) lb
    exact len32_of_bits (Nat.le_trans h1 (by omega))
  have h52 := fun a w' (h : Limbs w' a (dig B32 m)) => pow_ok a m k w' h.is (by omega) (by omega) (by omega)
  have h53 := fun a w' (h : Limbs w' a (dig B32 m)) => refPow_any a m k w' h.is (by omega) (by omega) hlp
  have hlk := hlp k (Nat.le_refl _)
  have h41 := fun a w' (h : N32 w' a (m ^ k)) b (kk : N32 w' b (m ^ k)) => is_ok a b (m ^ k) w' h (Limbs.num kk (by omega)) (by omega)
  clear hlp hlk
  obtain ⟨D, hD⟩ : ∃ D, (dig B32 m).length = D := ⟨_, rfl⟩
  rw [hD] at hD1
  subst hD1
  have q1 : n.tmod 61 = (k : Int) := by rw [Int.tmod_eq_emod_of_nonneg (by omega)]; exact hn2
  have HCUT := Lib.hid hcut
  have HLU := Lib.hid hlu
  have H27 := Lib.hid h27
  have H52 := Lib.hid h52
  have H41 := Lib.hid h41
  have HD := Lib.hid hD
  have H53 := Lib.hid h53
  clear hcut hlu h27 h52 h41 hD h53
  clear hA hL hnil l1 hm lb
  go_enter Try.func8, Try.ntmps8
  go_wp2_with (fail)
  refine (HCUT.out _ (Below.refl _ _)).mono ?_
  rintro e w1 ⟨va, rfl, hva, hb1⟩
  have b1 := below_at (Below.refl _ _) (Nat.le_refl _) hb1
  have ka_1 := HLU.out _ _ _ hva
  have kk := ka_1
  obtain ⟨A1, c1, hve, hq1', _, hA1⟩ := kk
  rw [HD.out] at hve hq1'
  subst hve
  obtain ⟨g, off, v, rfl, hg, hv0, hcv⟩ := hA1.at_ (i := 0) (by rw [HD.out]; omega)
  rw [Nat.add_zero] at hcv
  have hv1 : v = m := by
    have h1 := dig_getElem? b32_two hv0
    have h2 := dig_len_lt b32_two (n := m)
    rw [HD.out, Nat.pow_one] at h2
    rw [Nat.pow_zero, Nat.div_one, Nat.mod_eq_of_lt h2] at h1
    exact h1
  have hvt : ((v : Int) == 1) = false := by simp; omega
  clear hv0 hA1 hv1
  go_wp2_with (fail)
  refine (H27.out _ _ ka_1).mono ?_
  rintro e w2 ⟨rfl, rfl⟩
  go_wp2_with (fail)
  refine (H52.out _ _ ka_1).mono ?_
  rintro e w3 ⟨vs, rfl, hvs, hb3⟩
  have b3 := below_at b1 (Nat.le_refl _) hb3
  have ka_3 := ka_1.keep hb3
  have ks_3 := hvs.is
  go_wp2_with (fail)
  refine (lives_any _).mono ?_
  rintro e w4 ⟨rfl, hb4⟩
  have b4 := below_at b3 (Nat.le_refl _) hb4
  have ka_4 := ka_3.keep hb4
  have ks_4 := ks_3.keep hb4
  go_wp2_with (fail)
  refine (H53.out _ _ ka_4).mono ?_
  rintro e w5 ⟨vr, rfl, hvr, hb5⟩
  have b5 := below_at b4 (Nat.le_refl _) hb5
  have ks_5 := ks_4.keep hb5
  go_wp2_with (fail)
  refine (H41.out _ _ ks_5 _ hvr).mono ?_
  rintro e w6 ⟨rfl, hb6⟩
  have b6 := below_at b5 (Nat.le_refl _) hb6
  go_wp2
  go_ret
  exact ⟨rfl, b6⟩

set_option maxHeartbeats 2000000 in
set_option maxRecDepth 100000 in
theorem powers_multi_neg (A : Option Addr) (c L : Nat) (n : Int) (xs : List Nat) (w : World) (hA : Nums .u32 w A xs) (hL : L = xs.length) (hc : L ≤ c) (hnil : A = none → c = 0) (m : Nat) (hm : xs.take 6 = dig B32 m) (hmm : 2 ≤ m) (hD2 : 2 ≤ (dig B32 m).length) (hn : n < 0) : Calls Try.prog 8 #[.slice A L c, .int .i64 n] w (LivesPost w) := by
  have hcut := fun w' (h : Below w.heap.size w w') => cut_any A c L 6 xs w' (hA.keep h) hL hc hnil (by omega)
  have l1 : (xs.take 6).length ≤ 6 := by rw [List.length_take]; omega
  rw [hm] at hcut l1
  have lb : nbits m ≤ 192 := Nat.le_trans (bits_of_len l1) (by omega)
  have hlu : ∀ B w' a, OwnLs B w' a (dig B32 m) → Limbs w' a (dig B32 m) := fun B w' a h => h.limbs (by omega)
  have h27 := fun a w h => refCheck_l a (dig B32 m) w h
  rw [chk_dig (by omega)] at h27
  have h52 := fun a w' (h : Limbs w' a (dig B32 m)) => pow_arg a m n w' h.is (by omega) hn
  have h41 := fun b w => is_err b 1 w (by omega)
  obtain ⟨D, hD⟩ : ∃ D, (dig B32 m).length = D := ⟨_, rfl⟩
  rw [hD] at hD2
  have hz0 : ((D : Int) == 0) = false := by simp; omega
  have hz1 : ((D : Int) == 1) = false := by simp; omega
  have HCUT := Lib.hid hcut
  have HLU := Lib.hid hlu
  have H27 := Lib.hid h27
  have H52 := Lib.hid h52
  have H41 := Lib.hid h41
  have HD := Lib.hid hD
  clear hcut hlu h27 h52 h41 hD
  clear hA hL hnil l1 hm lb
  go_enter Try.func8, Try.ntmps8
  go_wp2_with (fail)
  refine (HCUT.out _ (Below.refl _ _)).mono ?_
  rintro e w1 ⟨va, rfl, hva, hb1⟩
  have b1 := below_at (Below.refl _ _) (Nat.le_refl _) hb1
  have ka_1 := HLU.out _ _ _ hva
  have kk := ka_1
  obtain ⟨A1, c1, hve, hq1', _, hA1⟩ := kk
  rw [HD.out] at hve hq1'
  subst hve
  go_wp2_with (fail)
  refine (H27.out _ _ ka_1).mono ?_
  rintro e w2 ⟨rfl, rfl⟩
  go_wp2_with (fail)
  refine (H52.out _ _ ka_1).mono ?_
  rintro e w3 ⟨rfl, hb3⟩
  have b3 := below_at b1 (Nat.le_refl _) hb3
  have ka_3 := ka_1.keep hb3
  go_wp2_with (fail)
  refine (lives_any _).mono ?_
  rintro e w4 ⟨rfl, hb4⟩
  have b4 := below_at b3 (Nat.le_refl _) hb4
  have ka_4 := ka_3.keep hb4
  go_wp2_with (fail)
  refine (H41.out _ _).mono ?_
  rintro e w5 ⟨rfl, hb5⟩
  have b5 := below_at b4 (Nat.le_refl _) hb5
  have ka_5 := ka_4.keep hb5
  go_wp2
  go_ret
  exact ⟨rfl, b5⟩

set_option maxHeartbeats 2000000 in
set_option maxRecDepth 100000 in
theorem powers_multi_0 (A : Option Addr) (c L : Nat) (n : Int) (xs : List Nat) (w : World) (hA : Nums .u32 w A xs) (hL : L = xs.length) (hc : L ≤ c) (hnil : A = none → c = 0) (m : Nat) (hm : xs.take 6 = dig B32 m) (hmm : 2 ≤ m) (hD2 : 2 ≤ (dig B32 m).length) (hn : n = 0) : Calls Try.prog 8 #[.slice A L c, .int .i64 n] w (LivesPost w) := by
  have hcut := fun w' (h : Below w.heap.size w w') => cut_any A c L 6 xs w' (hA.keep h) hL hc hnil (by omega)
  have l1 : (xs.take 6).length ≤ 6 := by rw [List.length_take]; omega
  rw [hm] at hcut l1
  have lb : nbits m ≤ 192 := Nat.le_trans (bits_of_len l1) (by omega)
  have hlu : ∀ B w' a, OwnLs B w' a (dig B32 m) → Limbs w' a (dig B32 m) := fun B w' a h => h.limbs (by omega)
  have h27 := fun a w h => refCheck_l a (dig B32 m) w h
  rw [chk_dig (by omega)] at h27
  have h52 : ∀ a w', Limbs w' a (dig B32 m) → Calls Try.prog 52 #[a, .int .i64 0] w' (NatOk w' 1) := fun a w' h => pow_ok a m 0 w' h.is (by omega) (by omega) (by omega)
  have h34 := fun w => refOf_any 1 (by decide) w
  have hl1 : (dig B32 1).length ≤ 2 := len_u64 (by decide)
  have h41 : ∀ (B : Nat) (a : Value) (w' : World), N32 w' a 1 → ∀ b, OwnLs B w' b (dig B32 1) → Calls Try.prog 41 #[a, .int .i64 0, b, .int .i64 0] w' (LivesPost w') := fun B a w' h b kk => is_ok a b 1 w' h (kk.limbs (by omega)) (by omega)
  obtain ⟨D, hD⟩ : ∃ D, (dig B32 m).length = D := ⟨_, rfl⟩
  rw [hD] at hD2
  have hz0 : ((D : Int) == 0) = false := by simp; omega
  have hz1 : ((D : Int) == 1) = false := by simp; omega
  subst hn
  have HCUT := Lib.hid hcut
  have HLU := Lib.hid hlu
  have H27 := Lib.hid h27
  have H52 := Lib.hid h52
  have H41 := Lib.hid h41
  have HD := Lib.hid hD
  have H34 := Lib.hid h34
  clear hcut hlu h27 h52 h41 hD h34
  clear hA hL hnil l1 hm lb hl1
  go_enter Try.func8, Try.ntmps8
  go_wp2_with (fail)
  refine (HCUT.out _ (Below.refl _ _)).mono ?_
  rintro e w1 ⟨va, rfl, hva, hb1⟩
  have b1 := below_at (Below.refl _ _) (Nat.le_refl _) hb1
  have ka_1 := HLU.out _ _ _ hva
  have kk := ka_1
  obtain ⟨A1, c1, hve, hq1', _, hA1⟩ := kk
  rw [HD.out] at hve hq1'
  subst hve
  go_wp2_with (fail)
  refine (H27.out _ _ ka_1).mono ?_
  rintro e w2 ⟨rfl, rfl⟩
  go_wp2_with (fail)
  refine (H52.out _ _ ka_1).mono ?_
  rintro e w3 ⟨vs, rfl, hvs, hb3⟩
  have b3 := below_at b1 (Nat.le_refl _) hb3
  have ks_3 := hvs.is
  go_wp2_with (fail)
  refine (lives_any _).mono ?_
  rintro e w4 ⟨rfl, hb4⟩
  have b4 := below_at b3 (Nat.le_refl _) hb4
  have ks_4 := ks_3.keep hb4
  go_wp2_with (fail)
  refine (H34.out _).mono ?_
  rintro e w5 ⟨vr, rfl, hvr, hb5⟩
  have b5 := below_at b4 (Nat.le_refl _) hb5
  have ks_5 := ks_4.keep hb5
  go_wp2_with (fail)
  refine (H41.out _ _ _ ks_5 _ hvr).mono ?_
  rintro e w6 ⟨rfl, hb6⟩
  have b6 := below_at b5 (Nat.le_refl _) hb6
  go_wp2
  go_ret
  exact ⟨rfl, b6⟩

set_option maxHeartbeats 2000000 in
set_option maxRecDepth 100000 in
theorem powers_multi_pos (A : Option Addr) (c L : Nat) (n : Int) (xs : List Nat) (w : World) (hA : Nums .u32 w A xs) (hL : L = xs.length) (hc : L ≤ c) (hnil : A = none → c = 0) (m : Nat) (hm : xs.take 6 = dig B32 m) (hmm : 2 ≤ m) (hD2 : 2 ≤ (dig B32 m).length) (k : Nat) (hk0 : 0 < k) (hk : k ≤ 60) (hn : n = (k : Int)) : Calls Try.prog 8 #[.slice A L c, .int .i64 n] w (LivesPost w) := by
  have hcut := fun w' (h : Below w.heap.size w w') => cut_any A c L 6 xs w' (hA.keep h) hL hc hnil (by omega)
  have l1 : (xs.take 6).length ≤ 6 := by rw [List.length_take]; omega
  rw [hm] at hcut l1
  have lb : nbits m ≤ 192 := Nat.le_trans (bits_of_len l1) (by omega)
  have hlu : ∀ B w' a, OwnLs B w' a (dig B32 m) → Limbs w' a (dig B32 m) := fun B w' a h => h.limbs (by omega)
  have h27 := fun a w h => refCheck_l a (dig B32 m) w h
  rw [chk_dig (by omega)] at h27
  have hlp : ∀ j, j ≤ k → (dig B32 (m ^ j)).length ≤ 500 := fun j hj => by
    have h1 := nbits_pow_le m j
    have h2 := Nat.mul_le_mul (Nat.le_trans hj hk) lb
    exact len32_of_bits (Nat.le_trans h1 (by omega))
  have h52 := fun a w' (h : Limbs w' a (dig B32 m)) => pow_ok a m k w' h.is (by omega) (by omega) (by omega)
  have h53 := fun a w' (h : Limbs w' a (dig B32 m)) => refPow_any a m k w' h.is (by omega) (by omega) hlp
  have hlk := hlp k (Nat.le_refl _)
  have h41 := fun a w' (h : N32 w' a (m ^ k)) b (kk : N32 w' b (m ^ k)) => is_ok a b (m ^ k) w' h (Limbs.num kk (by omega)) (by omega)
  clear hlp hlk
  obtain ⟨D, hD⟩ : ∃ D, (dig B32 m).length = D := ⟨_, rfl⟩
  rw [hD] at hD2
  have hz0 : ((D : Int) == 0) = false := by simp; omega
  have hz1 : ((D : Int) == 1) = false := by simp; omega
  subst hn
  have HCUT := Lib.hid hcut
  have HLU := Lib.hid hlu
  have H27 := Lib.hid h27
  have H52 := Lib.hid h52
  have H41 := Lib.hid h41
  have HD := Lib.hid hD
  have H53 := Lib.hid h53
  clear hcut hlu h27 h52 h41 hD h53
  clear hA hL hnil l1 hm lb
  go_enter Try.func8, Try.ntmps8
  go_wp2_with (fail)
  refine (HCUT.out _ (Below.refl _ _)).mono ?_
  rintro e w1 ⟨va, rfl, hva, hb1⟩
  have b1 := below_at (Below.refl _ _) (Nat.le_refl _) hb1
  have ka_1 := HLU.out _ _ _ hva
  have kk := ka_1
  obtain ⟨A1, c1, hve, hq1', _, hA1⟩ := kk
  rw [HD.out] at hve hq1'
  subst hve
  go_wp2_with (fail)
  refine (H27.out _ _ ka_1).mono ?_
  rintro e w2 ⟨rfl, rfl⟩
  go_wp2_with (fail)
  refine (H52.out _ _ ka_1).mono ?_
  rintro e w3 ⟨vs, rfl, hvs, hb3⟩
  have b3 := below_at b1 (Nat.le_refl _) hb3
  have ka_3 := ka_1.keep hb3
  have ks_3 := hvs.is
  go_wp2_with (fail)
  refine (lives_any _).mono ?_
  rintro e w4 ⟨rfl, hb4⟩
  have b4 := below_at b3 (Nat.le_refl _) hb4
  have ka_4 := ka_3.keep hb4
  have ks_4 := ks_3.keep hb4
  go_wp2_with (fail)
  refine (H53.out _ _ ka_4).mono ?_
  rintro e w5 ⟨vr, rfl, hvr, hb5⟩
  have b5 := below_at b4 (Nat.le_refl _) hb5
  have ks_5 := ks_4.keep hb5
  go_wp2_with (fail)
  refine (H41.out _ _ ks_5 _ hvr).mono ?_
  rintro e w6 ⟨rfl, hb6⟩
  have b6 := below_at b5 (Nat.le_refl _) hb6
  go_wp2
  go_ret
  exact ⟨rfl, b6⟩

set_option maxHeartbeats 2000000 in
set_option maxRecDepth 100000 in
theorem powers_multi_mod0 (A : Option Addr) (c L : Nat) (n : Int) (xs : List Nat) (w : World) (hA : Nums .u32 w A xs) (hL : L = xs.length) (hc : L ≤ c) (hnil : A = none → c = 0) (m : Nat) (hm : xs.take 6 = dig B32 m) (hmm : 2 ≤ m) (hD2 : 2 ≤ (dig B32 m).length) (hn : 60 < n) (hn2 : n % 61 = 0) : Calls Try.prog 8 #[.slice A L c, .int .i64 n] w (LivesPost w) := by
  have hcut := fun w' (h : Below w.heap.size w w') => cut_any A c L 6 xs w' (hA.keep h) hL hc hnil (by omega)
  have l1 : (xs.take 6).length ≤ 6 := by rw [List.length_take]; omega
  rw [hm] at hcut l1
  have lb : nbits m ≤ 192 := Nat.le_trans (bits_of_len l1) (by omega)
  have hlu : ∀ B w' a, OwnLs B w' a (dig B32 m) → Limbs w' a (dig B32 m) := fun B w' a h => h.limbs (by omega)
  have h27 := fun a w h => refCheck_l a (dig B32 m) w h
  rw [chk_dig (by omega)] at h27
  have h52 : ∀ a w', Limbs w' a (dig B32 m) → Calls Try.prog 52 #[a, .int .i64 0] w' (NatOk w' 1) := fun a w' h => pow_ok a m 0 w' h.is (by omega) (by omega) (by omega)
  have h34 := fun w => refOf_any 1 (by decide) w
  have hl1 : (dig B32 1).length ≤ 2 := len_u64 (by decide)
  have h41 : ∀ (B : Nat) (a : Value) (w' : World), N32 w' a 1 → ∀ b, OwnLs B w' b (dig B32 1) → Calls Try.prog 41 #[a, .int .i64 0, b, .int .i64 0] w' (LivesPost w') := fun B a w' h b kk => is_ok a b 1 w' h (kk.limbs (by omega)) (by omega)
  obtain ⟨D, hD⟩ : ∃ D, (dig B32 m).length = D := ⟨_, rfl⟩
  rw [hD] at hD2
  have hz0 : ((D : Int) == 0) = false := by simp; omega
  have hz1 : ((D : Int) == 1) = false := by simp; omega
  have q1 : n.tmod 61 = 0 := by rw [Int.tmod_eq_emod_of_nonneg (by omega)]; exact hn2
  have HCUT := Lib.hid hcut
  have HLU := Lib.hid hlu
  have H27 := Lib.hid h27
  have H52 := Lib.hid h52
  have H41 := Lib.hid h41
  have HD := Lib.hid hD
  have H34 := Lib.hid h34
  clear hcut hlu h27 h52 h41 hD h34
  clear hA hL hnil l1 hm lb hl1
  go_enter Try.func8, Try.ntmps8
  go_wp2_with (fail)
  refine (HCUT.out _ (Below.refl _ _)).mono ?_
  rintro e w1 ⟨va, rfl, hva, hb1⟩
  have b1 := below_at (Below.refl _ _) (Nat.le_refl _) hb1
  have ka_1 := HLU.out _ _ _ hva
  have kk := ka_1
  obtain ⟨A1, c1, hve, hq1', _, hA1⟩ := kk
  rw [HD.out] at hve hq1'
  subst hve
  go_wp2_with (fail)
  refine (H27.out _ _ ka_1).mono ?_
  rintro e w2 ⟨rfl, rfl⟩
  go_wp2_with (fail)
  refine (H52.out _ _ ka_1).mono ?_
  rintro e w3 ⟨vs, rfl, hvs, hb3⟩
  have b3 := below_at b1 (Nat.le_refl _) hb3
  have ks_3 := hvs.is
  go_wp2_with (fail)
  refine (lives_any _).mono ?_
  rintro e w4 ⟨rfl, hb4⟩
  have b4 := below_at b3 (Nat.le_refl _) hb4
  have ks_4 := ks_3.keep hb4
  go_wp2_with (fail)
  refine (H34.out _).mono ?_
  rintro e w5 ⟨vr, rfl, hvr, hb5⟩
  have b5 := below_at b4 (Nat.le_refl _) hb5
  have ks_5 := ks_4.keep hb5
  go_wp2_with (fail)
  refine (H41.out _ _ _ ks_5 _ hvr).mono ?_
  rintro e w6 ⟨rfl, hb6⟩
  have b6 := below_at b5 (Nat.le_refl _) hb6
  go_wp2
  go_ret
  exact ⟨rfl, b6⟩

set_option maxHeartbeats 2000000 in
set_option maxRecDepth 100000 in
theorem powers_multi_modpos (A : Option Addr) (c L : Nat) (n : Int) (xs : List Nat) (w : World) (hA : Nums .u32 w A xs) (hL : L = xs.length) (hc : L ≤ c) (hnil : A = none → c = 0) (m : Nat) (hm : xs.take 6 = dig B32 m) (hmm : 2 ≤ m) (hD2 : 2 ≤ (dig B32 m).length) (k : Nat) (hk0 : 0 < k) (hk : k ≤ 60) (hn : 60 < n) (hn2 : n % 61 = (k : Int)) : Calls Try.prog 8 #[.slice A L c, .int .i64 n] w (LivesPost w) := by
  have hcut := fun w' (h : Below w.heap.size w w') => cut_any A c L 6 xs w' (hA.keep h) hL hc hnil (by omega)
  have l1 : (xs.take 6).length ≤ 6 := by rw [List.length_take]; omega
  rw [hm] at hcut l1
  have lb : nbits m ≤ 192 := Nat.le_trans (bits_of_len l1) (by omega)
  have hlu : ∀ B w' a, OwnLs B w' a (dig B32 m) → Limbs w' a (dig B32 m) := fun B w' a h => h.limbs (by omega)
  have h27 := fun a w h => refCheck_l a (dig B32 m) w h
  rw [chk_dig (by omega)] at h27
  have hlp : ∀ j, j ≤ k → (dig B32 (m ^ j)).length ≤ 500 := fun j hj => by
    have h1 := nbits_pow_le m j
    have h2 := Nat.mul_le_mul (Nat.le_trans hj hk) lb
    exact len32_of_bits (Nat.le_trans h1 (by omega))
  have h52 := fun a w' (h : Limbs w' a (dig B32 m)) => pow_ok a m k w' h.is (by omega) (by omega) (by omega)
  have h53 := fun a w' (h : Limbs w' a (dig B32 m)) => refPow_any a m k w' h.is (by omega) (by omega) hlp
  have hlk := hlp k (Nat.le_refl _)
  have h41 := fun a w' (h : N32 w' a (m ^ k)) b (kk : N32 w' b (m ^ k)) => is_ok a b (m ^ k) w' h (Limbs.num kk (by omega)) (by omega)
  clear hlp hlk
  obtain ⟨D, hD⟩ : ∃ D, (dig B32 m).length = D := ⟨_, rfl⟩
  rw [hD] at hD2
  have hz0 : ((D : Int) == 0) = false := by simp; omega
  have hz1 : ((D : Int) == 1) = false := by simp; omega
  have q1 : n.tmod 61 = (k : Int) := by rw [Int.tmod_eq_emod_of_nonneg (by omega)]; exact hn2
  have HCUT := Lib.hid hcut
  have HLU := Lib.hid hlu
  have H27 := Lib.hid h27
  have H52 := Lib.hid h52
  have H41 := Lib.hid h41
  have HD := Lib.hid hD
  have H53 := Lib.hid h53
  clear hcut hlu h27 h52 h41 hD h53
  clear hA hL hnil l1 hm lb
  go_enter Try.func8, Try.ntmps8
  go_wp2_with (fail)
  refine (HCUT.out _ (Below.refl _ _)).mono ?_
  rintro e w1 ⟨va, rfl, hva, hb1⟩
  have b1 := below_at (Below.refl _ _) (Nat.le_refl _) hb1
  have ka_1 := HLU.out _ _ _ hva
  have kk := ka_1
  obtain ⟨A1, c1, hve, hq1', _, hA1⟩ := kk
  rw [HD.out] at hve hq1'
  subst hve
  go_wp2_with (fail)
  refine (H27.out _ _ ka_1).mono ?_
  rintro e w2 ⟨rfl, rfl⟩
  go_wp2_with (fail)
  refine (H52.out _ _ ka_1).mono ?_
  rintro e w3 ⟨vs, rfl, hvs, hb3⟩
  have b3 := below_at b1 (Nat.le_refl _) hb3
  have ka_3 := ka_1.keep hb3
  have ks_3 := hvs.is
  go_wp2_with (fail)
  refine (lives_any _).mono ?_
  rintro e w4 ⟨rfl, hb4⟩
  have b4 := below_at b3 (Nat.le_refl _) hb4
  have ka_4 := ka_3.keep hb4
  have ks_4 := ks_3.keep hb4
  go_wp2_with (fail)
  refine (H53.out _ _ ka_4).mono ?_
  rintro e w5 ⟨vr, rfl, hvr, hb5⟩
  have b5 := below_at b4 (Nat.le_refl _) hb5
  have ks_5 := ks_4.keep hb5
  go_wp2_with (fail)
  refine (H41.out _ _ ks_5 _ hvr).mono ?_
  rintro e w6 ⟨rfl, hb6⟩
  have b6 := below_at b5 (Nat.le_refl _) hb6
  go_wp2
  go_ret
  exact ⟨rfl, b6⟩

/-- The law NatPowers, for whatever limbs and whatever exponent. -/
theorem powers_walk (A : Option Addr) (c L : Nat) (n : Int) (xs : List Nat) (w : World) (hA : Nums .u32 w A xs) (hL : L = xs.length) (hc : L ≤ c) (hnil : A = none → c = 0) (hlow : Low B32 xs) (hi : n < 9223372036854775808) : Calls Try.prog 8 #[.slice A L c, .int .i64 n] w (LivesPost w) := by
  by_cases hb : chk (xs.take 6) = 0
  · have hm := chk_zero (hlow.take 6) hb
    generalize val B32 (xs.take 6) = m at hm
    rcases Nat.lt_or_ge m 2 with h2 | h2
    · rcases Int.lt_trichotomy n 0 with h | h | h
      · rcases Nat.eq_zero_or_pos m with h0 | h0
        · exact powers_zero_neg A c L n xs w hA hL hc hnil m hm h0 h
        · exact powers_one_neg A c L n xs w hA hL hc hnil m hm (by omega) h
      · rcases Nat.eq_zero_or_pos m with h0 | h0
        · exact powers_zero_0 A c L n xs w hA hL hc hnil m hm h0 h
        · exact powers_one_0 A c L n xs w hA hL hc hnil m hm (by omega) h
      · rcases Nat.eq_zero_or_pos m with h0 | h0
        · rcases Int.lt_or_le 60 n with h3 | h3
          · exact powers_zero_big A c L n xs w hA hL hc hnil m hm h0 n.toNat (by omega) (by omega) (by omega) (by omega)
          · exact powers_zero_pos A c L n xs w hA hL hc hnil m hm h0 n.toNat (by omega) (by omega) (by omega) (by omega)
        · rcases Int.lt_or_le 60 n with h3 | h3
          · exact powers_one_big A c L n xs w hA hL hc hnil m hm (by omega) n.toNat (by omega) (by omega) (by omega) (by omega)
          · exact powers_one_pos A c L n xs w hA hL hc hnil m hm (by omega) n.toNat (by omega) (by omega) (by omega) (by omega)
    · have hlen : 1 ≤ (dig B32 m).length := by
        rcases Nat.eq_zero_or_pos (dig B32 m).length with h0 | h0
        · have := (dig_nil_iff b32_two).1 (List.eq_nil_of_length_eq_zero h0); omega
        · exact h0
      rcases Nat.lt_or_ge (dig B32 m).length 2 with h1 | h1
      · have h1' : (dig B32 m).length = 1 := by omega
        rcases Int.lt_trichotomy n 0 with h | h | h
        · exact powers_single_neg A c L n xs w hA hL hc hnil m hm h2 h1' h
        · exact powers_single_0 A c L n xs w hA hL hc hnil m hm h2 h1' h
        · rcases Int.lt_or_le 60 n with h3 | h3
          · by_cases h4 : n % 61 = 0
            · exact powers_single_mod0 A c L n xs w hA hL hc hnil m hm h2 h1' h3 h4
            · exact powers_single_modpos A c L n xs w hA hL hc hnil m hm h2 h1' (n % 61).toNat (by omega) (by omega) h3 (by omega)
          · exact powers_single_pos A c L n xs w hA hL hc hnil m hm h2 h1' n.toNat (by omega) (by omega) (by omega)
      · rcases Int.lt_trichotomy n 0 with h | h | h
        · exact powers_multi_neg A c L n xs w hA hL hc hnil m hm h2 h1 h
        · exact powers_multi_0 A c L n xs w hA hL hc hnil m hm h2 h1 h
        · rcases Int.lt_or_le 60 n with h3 | h3
          · by_cases h4 : n % 61 = 0
            · exact powers_multi_mod0 A c L n xs w hA hL hc hnil m hm h2 h1 h3 h4
            · exact powers_multi_modpos A c L n xs w hA hL hc hnil m hm h2 h1 (n % 61).toNat (by omega) (by omega) h3 (by omega)
          · exact powers_multi_pos A c L n xs w hA hL hc hnil m hm h2 h1 n.toNat (by omega) (by omega) (by omega)
  · have hne : 0 < (xs.take 6).length := by
      rcases Nat.eq_zero_or_pos (xs.take 6).length with h0 | h0
      · exfalso; apply hb; unfold chk; rw [if_neg (by omega), if_neg (by omega)]
      · exact h0
    have hl6 : (xs.take 6).length ≤ 6 := by rw [List.length_take]; omega
    rcases Nat.lt_or_ge (xs.take 6).length 2 with h1 | h1
    · have h1' : (xs.take 6).length = 1 := by omega
      have h00 : (xs.take 6)[0]? = some 0 := by
        rw [List.getElem?_eq_getElem hne]
        congr 1
        apply Classical.byContradiction
        intro h3
        apply hb
        unfold chk
        rw [if_neg (by omega), if_neg]
        rintro ⟨_, h4⟩
        rw [h1', List.getD_eq_getElem?_getD, List.getElem?_eq_getElem (by omega)] at h4
        exact h3 h4
      rcases Int.lt_or_le 60 n with h3 | h3
      · exact powers_bad_single_gt A c L n xs w hA hL hc hnil hb h1' h00 h3
      · exact powers_bad_single_le A c L n xs w hA hL hc hnil hb h1' h00 h3
    · rcases Int.lt_or_le 60 n with h3 | h3
      · exact powers_bad_multi_gt A c L n xs w hA hL hc hnil hb h1 h3
      · exact powers_bad_multi_le A c L n xs w hA hL hc hnil hb h1 h3
end Go.Proofs.Ytaegkhdkhgemmaa
