/- Part of the proof of NatFits: PowersW, RefDiv, RefDivW, DivM. -/
import Derived.Test.YtaegkhdkhgemmaaPartF
import Derived.Test.YtaegkhdkhgemmaaPartE
import Derived.Test.YtaegkhdkhgemmaaPartG
import Derived.Test.YtaegkhdkhgemmaaPartD
namespace Go.Proofs.Ytaegkhdkhgemmaa
open Go.RowKit Num

set_option maxHeartbeats 1000000 in
set_option maxRecDepth 100000 in
theorem pow_bad (a : Value) (n : Int) (xs : List Nat) (w : World) (ha : Limbs w a xs) (h0 : chk xs ≠ 0) : Calls Try.prog 52 #[a, .int .i64 n] w (NatErr w (chk xs)) := by
  have hc := checkAll_any w.heap.size 1 1 _ _ (nats1 ha) rfl (by omega)
  rw [chkAll1] at hc
  generalize chk xs = r at *
  have hbA := below_new w (.cells #[a] 23)
  have hq : (r != 0) = true := by simp [h0]
  have HC := Lib.hid hc
  have H0 := Lib.hid h0
  obtain ⟨A, c, rfl, _⟩ := ha
  clear hc h0
  generalize xs.length = L at *
  go_enter Try.func52, Try.ntmps52
  go_wp2_with (go_at_call 75; refine HC.out.mono ?_; rintro e w1 ⟨rfl, rfl⟩)
  go_ret2
  exact ⟨rfl, hbA⟩

set_option maxHeartbeats 1000000 in
set_option maxRecDepth 100000 in
theorem pow_arg (a : Value) (m : Nat) (n : Int) (w : World) (ha : N32 w a m) (hl : (dig B32 m).length ≤ 262144) (hn : n < 0) : Calls Try.prog 52 #[a, .int .i64 n] w (NatErr w 1) := by
  have hc := checkAll_any w.heap.size 1 1 _ _ (nats1 (Limbs.num ha (by omega))) rfl (by omega)
  rw [chkAll1, chk_dig hl] at hc
  have hbA := below_new w (.cells #[a] 23)
  have HC := Lib.hid hc
  obtain ⟨A, c, rfl, _⟩ := ha
  clear hc
  generalize (dig B32 m).length = L at *
  go_enter Try.func52, Try.ntmps52
  go_wp2_with (go_at_call 75; refine HC.out.mono ?_; rintro e w1 ⟨rfl, rfl⟩)
  go_ret2
  exact ⟨rfl, hbA⟩

set_option maxHeartbeats 1000000 in
set_option maxRecDepth 100000 in
theorem pow_s (a : Value) (m n : Nat) (w : World) (ha : N32 w a m) (hl : (dig B32 m).length ≤ 262144) (hn : n < 9223372036854775808) (hs : nbits m ≤ 1) (hp : ∀ j, j ≤ n → nbits (m ^ j) ≤ 8388608) : Calls Try.prog 52 #[a, .int .i64 (n : Int)] w (NatOk w (m ^ n)) := by
  have hc := checkAll_any w.heap.size 1 1 _ _ (nats1 (Limbs.num ha (by omega))) rfl (by omega)
  rw [chkAll1, chk_dig hl] at hc
  have hbA := below_new w (.cells #[a] 23)
  have HC := Lib.hid hc
  have hf := fromNat_any a m _ (ha.keep hbA) (by omega)
  have lm := words_le (n := m) (K := 131072) hl
  have hbt := fun v w' (h : W64 w' v m) => bits_call v m w' h (by omega)
  have hpw := fun v w' (h : W64 w' v m) => power_any (mulSpec_all 131072 (by omega)) v m n w' h hn lm (fun j hj => len_of_bits (hp j hj))
  have hft := fun v w' (h : W64 w' v (m ^ n)) => fit_ok v (m ^ n) w' h (hp n (Nat.le_refl _))
  have h2 := len_bits_le (n := m) (k := 131072) lm
  have HF := Lib.hid hf
  have HBT := Lib.hid hbt
  have HPW := Lib.hid hpw
  have HFT := Lib.hid hft
  obtain ⟨A, c, rfl, _⟩ := ha
  clear hc hf hbt hpw hft lm hp hn
  generalize nbits m = r at *
  have hle : r ≤ 1 := hs
  clear hs
  generalize (dig B32 m).length = L at *
  go_enter Try.func52, Try.ntmps52
  go_wp2_with (fail)
  refine (HC.out).mono ?_
  rintro e w1 ⟨rfl, rfl⟩
  go_wp2_with (fail)
  refine (HF.out).mono ?_
  rintro e w2 ⟨v1, rfl, hv1, hb2⟩
  have b2 := below_at hbA (Nat.le_refl _) hb2
  have k1_2 := hv1.is
  go_wp2_with (fail)
  refine (HBT.out _ _ k1_2).mono ?_
  rintro e w3 ⟨rfl, rfl⟩
  go_wp2_with (fail)
  refine (HPW.out _ _ k1_2).mono ?_
  rintro e w4 ⟨v2, rfl, hv2, hb4⟩
  have b4 := below_at b2 (Nat.le_refl _) hb4
  have k1_4 := k1_2.keep hb4
  have k2_4 := hv2.is
  go_wp2_with (fail)
  refine (HFT.out _ _ k2_4).mono ?_
  rintro e w5 ⟨v3, rfl, hv3, hb5⟩
  have b5 := below_at b4 (Nat.le_refl _) hb5
  have k1_5 := k1_4.keep hb5
  have k2_5 := k2_4.keep hb5
  go_wp2
  go_ret2
  exact ⟨_, rfl, hv3.mono b4.size, b5⟩

set_option maxHeartbeats 1000000 in
set_option maxRecDepth 100000 in
theorem pow_b (a : Value) (m n : Nat) (w : World) (ha : N32 w a m) (hl : (dig B32 m).length ≤ 262144) (hn : n < 9223372036854775808) (hs : 1 < nbits m) (hs2 : n ≤ 8388607 / (nbits m - 1)) (hp : ∀ j, j ≤ n → nbits (m ^ j) ≤ 8388608) : Calls Try.prog 52 #[a, .int .i64 (n : Int)] w (NatOk w (m ^ n)) := by
  have hc := checkAll_any w.heap.size 1 1 _ _ (nats1 (Limbs.num ha (by omega))) rfl (by omega)
  rw [chkAll1, chk_dig hl] at hc
  have hbA := below_new w (.cells #[a] 23)
  have HC := Lib.hid hc
  have hf := fromNat_any a m _ (ha.keep hbA) (by omega)
  have lm := words_le (n := m) (K := 131072) hl
  have hbt := fun v w' (h : W64 w' v m) => bits_call v m w' h (by omega)
  have hpw := fun v w' (h : W64 w' v m) => power_any (mulSpec_all 131072 (by omega)) v m n w' h hn lm (fun j hj => len_of_bits (hp j hj))
  have hft := fun v w' (h : W64 w' v (m ^ n)) => fit_ok v (m ^ n) w' h (hp n (Nat.le_refl _))
  have h2 := len_bits_le (n := m) (k := 131072) lm
  have HF := Lib.hid hf
  have HBT := Lib.hid hbt
  have HPW := Lib.hid hpw
  have HFT := Lib.hid hft
  obtain ⟨A, c, rfl, _⟩ := ha
  clear hc hf hbt hpw hft lm hp hn
  generalize nbits m = r at *
  obtain ⟨d, hd⟩ : ∃ d, r = d + 1 := ⟨r - 1, by omega⟩
  subst hd
  obtain ⟨q, hq⟩ : ∃ q, 8388607 / (d + 1 - 1) = q := ⟨_, rfl⟩
  rw [hq] at hs2
  rw [Nat.add_sub_cancel] at hq
  have hd1 : ((d + 1 : Nat) : Int) - 1 = (d : Int) := by omega
  have q1 : (8388607 : Int) / (d : Int) = (q : Int) := by rw [← hq]; exact (Int.natCast_ediv _ _).symm
  have q2 : (8388607 : Int).tdiv (d : Int) = (q : Int) := by rw [Int.tdiv_eq_ediv_of_nonneg (by omega)]; exact q1
  have q3 : ((d : Int) == 0) = false := by simp; omega
  have hqb : q ≤ 8388607 := by rw [← hq]; exact Nat.div_le_self _ _
  clear hq
  generalize (dig B32 m).length = L at *
  go_enter Try.func52, Try.ntmps52
  go_wp2_with (fail)
  refine (HC.out).mono ?_
  rintro e w1 ⟨rfl, rfl⟩
  go_wp2_with (fail)
  refine (HF.out).mono ?_
  rintro e w2 ⟨v1, rfl, hv1, hb2⟩
  have b2 := below_at hbA (Nat.le_refl _) hb2
  have k1_2 := hv1.is
  go_wp2_with (fail)
  refine (HBT.out _ _ k1_2).mono ?_
  rintro e w3 ⟨rfl, rfl⟩
  go_wp2_with (fail)
  refine (HPW.out _ _ k1_2).mono ?_
  rintro e w4 ⟨v2, rfl, hv2, hb4⟩
  have b4 := below_at b2 (Nat.le_refl _) hb4
  have k1_4 := k1_2.keep hb4
  have k2_4 := hv2.is
  go_wp2_with (fail)
  refine (HFT.out _ _ k2_4).mono ?_
  rintro e w5 ⟨v3, rfl, hv3, hb5⟩
  have b5 := below_at b4 (Nat.le_refl _) hb5
  have k1_5 := k1_4.keep hb5
  have k2_5 := k2_4.keep hb5
  go_wp2
  go_ret2
  exact ⟨_, rfl, hv3.mono b4.size, b5⟩

theorem nbits_pow_le (m j : Nat) : nbits (m ^ j) ≤ j * nbits m + 1 := by
  refine nbits_le ?_
  have h1 : m ^ j ≤ (2 ^ nbits m) ^ j := Nat.pow_le_pow_left (Nat.le_of_lt (nbits_lt m)) j
  rw [← Nat.pow_mul, Nat.mul_comm] at h1
  exact Nat.lt_of_le_of_lt h1 (Nat.pow_lt_pow_right (by omega) (by omega))
/-- Powers that stay short. -/
theorem pow_ok (a : Value) (m n : Nat) (w : World) (ha : N32 w a m) (hl : (dig B32 m).length ≤ 262144) (hn : n ≤ 1000) (hb : nbits m ≤ 8000) : Calls Try.prog 52 #[a, .int .i64 (n : Int)] w (NatOk w (m ^ n)) := by
  have hp : ∀ j, j ≤ n → nbits (m ^ j) ≤ 8388608 := fun j hj => Nat.le_trans (nbits_pow_le m j) (by have := Nat.mul_le_mul (Nat.le_trans hj hn) hb; omega)
  rcases Nat.lt_or_ge 1 (nbits m) with h | h
  · refine pow_b a m n w ha hl (by omega) h ?_ hp
    refine (Nat.le_div_iff_mul_le (by omega)).2 ?_
    have := Nat.mul_le_mul hn (show nbits m - 1 ≤ 8000 by omega)
    omega
  · exact pow_s a m n w ha hl (by omega) h hp
theorem len32_of_bits {n k : Nat} (h : nbits n ≤ 32 * k) : (dig B32 n).length ≤ k := dig_len_le b32_two (by
  have e : B32 ^ k = 2 ^ (32 * k) := by rw [Nat.pow_mul]; rfl
  rw [e]; exact lt_of_nbits h)
/-- Powers of 0 and of 1. -/
theorem pow_01 (a : Value) (m n : Nat) (w : World) (ha : N32 w a m) (hm : m ≤ 1) (h0 : 0 < n) (hn : n < 9223372036854775808) : Calls Try.prog 52 #[a, .int .i64 (n : Int)] w (NatOk w m) := by
  have e : ∀ j, 0 < j → m ^ j = m := fun j hj => by
    rcases Nat.eq_zero_or_pos m with h | h
    · subst h; exact Nat.zero_pow hj
    · obtain rfl : m = 1 := by omega
      exact Nat.one_pow j
  have hb : nbits m ≤ 1 := nbits_le (by omega)
  have := pow_s a m n w ha (Nat.le_trans (small32 (k := m) (by unfold B32; omega)) (by omega)) hn hb (fun j _ => by
    rcases Nat.eq_zero_or_pos j with hj | hj
    · subst hj; exact Nat.le_trans (nbits_le (k := 1) (by rw [Nat.pow_zero]; omega)) (by omega)
    · rw [e j hj]; omega)
  rw [e n h0] at this
  exact this

set_option maxHeartbeats 2000000 in
set_option maxRecDepth 100000 in
theorem powers_bad_single_le (A : Option Addr) (c L : Nat) (n : Int) (xs : List Nat) (w : World) (hA : Nums .u32 w A xs) (hL : L = xs.length) (hc : L ≤ c) (hnil : A = none → c = 0) (hbad : chk (xs.take 6) ≠ 0) (hD1 : (xs.take 6).length = 1) (h00 : (xs.take 6)[0]? = some 0) (hn : n ≤ 60) : Calls Try.prog 8 #[.slice A L c, .int .i64 n] w (LivesPost w) := by
  have hcut := fun w' (h : Below w.heap.size w w') => cut_any A c L 6 xs w' (hA.keep h) hL hc hnil (by omega)
  have l1 : (xs.take 6).length ≤ 6 := by rw [List.length_take]; omega
  generalize xs.take 6 = us at *
  have hlu : ∀ B w' a, OwnLs B w' a us → Limbs w' a us := fun B w' a h => h.limbs (by omega)
  have h27 := fun a w h => refCheck_l a us w h
  have h52 := fun a k w h => pow_bad a k us w h hbad
  generalize chk us = r at *
  have hq : (r == 0) = false := by simp [hbad]
  have hq1 : (r != 0) = true := by simp [hbad]
  have h41 := fun b w => is_err b r w hbad
  obtain ⟨D, hD⟩ : ∃ D, us.length = D := ⟨_, rfl⟩
  rw [hD] at hD1 l1
  subst hD1
  have HCUT := Lib.hid hcut
  have HLU := Lib.hid hlu
  have H27 := Lib.hid h27
  have H52 := Lib.hid h52
  have H41 := Lib.hid h41
  have HBAD := Lib.hid hbad
  have HD := Lib.hid hD
  have H00 := Lib.hid h00
  clear hcut hlu h27 h52 h41 hbad hD h00
  clear hA hL hnil l1
  go_enter Try.func8, Try.ntmps8
  go_wp2_with (fail)
  refine (HCUT.out _ (Below.refl _ _)).mono ?_
  rintro e w1 ⟨va, rfl, hva, hb1⟩
  have b1 := below_at (Below.refl _ _) (Nat.le_refl _) hb1
  have ka_1 := HLU.out _ _ _ hva
  have kk := ka_1
  obtain ⟨A1, c1, hve, hq1', _, hA1⟩ := kk
  rw [HD.out] at hve hq1'
  subst hve
  obtain ⟨g, off, v, rfl, hg, hv0, hcv⟩ := hA1.at_ (i := 0) (by rw [HD.out]; omega)
  rw [Nat.add_zero] at hcv
  have hv1 : v = 0 := by have := H00.out; rw [hv0] at this; injection this
  subst hv1
  clear hv0 hA1
  go_wp2_with (fail)
  refine (H27.out _ _ ka_1).mono ?_
  rintro e w2 ⟨rfl, rfl⟩
  go_wp2_with (fail)
  refine (H52.out _ _ _ ka_1).mono ?_
  rintro e w3 ⟨rfl, hb3⟩
  have b3 := below_at b1 (Nat.le_refl _) hb3
  have ka_3 := ka_1.keep hb3
  go_wp2_with (fail)
  refine (lives_any _).mono ?_
  rintro e w4 ⟨rfl, hb4⟩
  have b4 := below_at b3 (Nat.le_refl _) hb4
  have ka_4 := ka_3.keep hb4
  go_wp2_with (fail)
  refine (H41.out _ _).mono ?_
  rintro e w5 ⟨rfl, hb5⟩
  have b5 := below_at b4 (Nat.le_refl _) hb5
  have ka_5 := ka_4.keep hb5
  go_wp2
  go_ret
  exact ⟨rfl, b5⟩

set_option maxHeartbeats 2000000 in
set_option maxRecDepth 100000 in
theorem powers_bad_single_gt (A : Option Addr) (c L : Nat) (n : Int) (xs : List Nat) (w : World) (hA : Nums .u32 w A xs) (hL : L = xs.length) (hc : L ≤ c) (hnil : A = none → c = 0) (hbad : chk (xs.take 6) ≠ 0) (hD1 : (xs.take 6).length = 1) (h00 : (xs.take 6)[0]? = some 0) (hn : 60 < n) : Calls Try.prog 8 #[.slice A L c, .int .i64 n] w (LivesPost w) := by
  have hcut := fun w' (h : Below w.heap.size w w') => cut_any A c L 6 xs w' (hA.keep h) hL hc hnil (by omega)
  have l1 : (xs.take 6).length ≤ 6 := by rw [List.length_take]; omega
  generalize xs.take 6 = us at *
  have hlu : ∀ B w' a, OwnLs B w' a us → Limbs w' a us := fun B w' a h => h.limbs (by omega)
  have h27 := fun a w h => refCheck_l a us w h
  have h52 := fun a k w h => pow_bad a k us w h hbad
  generalize chk us = r at *
  have hq : (r == 0) = false := by simp [hbad]
  have hq1 : (r != 0) = true := by simp [hbad]
  have h41 := fun b w => is_err b r w hbad
  obtain ⟨D, hD⟩ : ∃ D, us.length = D := ⟨_, rfl⟩
  rw [hD] at hD1 l1
  subst hD1
  obtain ⟨k, hk⟩ : ∃ k, n % 61 = k := ⟨_, rfl⟩
  have q1 : n.tmod 61 = k := by rw [Int.tmod_eq_emod_of_nonneg (by omega)]; exact hk
  have HCUT := Lib.hid hcut
  have HLU := Lib.hid hlu
  have H27 := Lib.hid h27
  have H52 := Lib.hid h52
  have H41 := Lib.hid h41
  have HBAD := Lib.hid hbad
  have HD := Lib.hid hD
  have H00 := Lib.hid h00
  clear hcut hlu h27 h52 h41 hbad hD h00
  clear hA hL hnil l1
  go_enter Try.func8, Try.ntmps8
  go_wp2_with (fail)
  refine (HCUT.out _ (Below.refl _ _)).mono ?_
  rintro e w1 ⟨va, rfl, hva, hb1⟩
  have b1 := below_at (Below.refl _ _) (Nat.le_refl _) hb1
  have ka_1 := HLU.out _ _ _ hva
  have kk := ka_1
  obtain ⟨A1, c1, hve, hq1', _, hA1⟩ := kk
  rw [HD.out] at hve hq1'
  subst hve
  obtain ⟨g, off, v, rfl, hg, hv0, hcv⟩ := hA1.at_ (i := 0) (by rw [HD.out]; omega)
  rw [Nat.add_zero] at hcv
  have hv1 : v = 0 := by have := H00.out; rw [hv0] at this; injection this
  subst hv1
  clear hv0 hA1
  go_wp2_with (fail)
  refine (H27.out _ _ ka_1).mono ?_
  rintro e w2 ⟨rfl, rfl⟩
  go_wp2_with (fail)
  refine (H52.out _ _ _ ka_1).mono ?_
  rintro e w3 ⟨rfl, hb3⟩
  have b3 := below_at b1 (Nat.le_refl _) hb3
  have ka_3 := ka_1.keep hb3
  go_wp2_with (fail)
  refine (lives_any _).mono ?_
  rintro e w4 ⟨rfl, hb4⟩
  have b4 := below_at b3 (Nat.le_refl _) hb4
  have ka_4 := ka_3.keep hb4
  go_wp2_with (fail)
  refine (H41.out _ _).mono ?_
  rintro e w5 ⟨rfl, hb5⟩
  have b5 := below_at b4 (Nat.le_refl _) hb5
  have ka_5 := ka_4.keep hb5
  go_wp2
  go_ret
  exact ⟨rfl, b5⟩

set_option maxHeartbeats 2000000 in
set_option maxRecDepth 100000 in
theorem powers_bad_multi_le (A : Option Addr) (c L : Nat) (n : Int) (xs : List Nat) (w : World) (hA : Nums .u32 w A xs) (hL : L = xs.length) (hc : L ≤ c) (hnil : A = none → c = 0) (hbad : chk (xs.take 6) ≠ 0) (hD2 : 2 ≤ (xs.take 6).length) (hn : n ≤ 60) : Calls Try.prog 8 #[.slice A L c, .int .i64 n] w (LivesPost w) := by
  have hcut := fun w' (h : Below w.heap.size w w') => cut_any A c L 6 xs w' (hA.keep h) hL hc hnil (by omega)
  have l1 : (xs.take 6).length ≤ 6 := by rw [List.length_take]; omega
  generalize xs.take 6 = us at *
  have hlu : ∀ B w' a, OwnLs B w' a us → Limbs w' a us := fun B w' a h => h.limbs (by omega)
  have h27 := fun a w h => refCheck_l a us w h
  have h52 := fun a k w h => pow_bad a k us w h hbad
  generalize chk us = r at *
  have hq : (r == 0) = false := by simp [hbad]
  have hq1 : (r != 0) = true := by simp [hbad]
  have h41 := fun b w => is_err b r w hbad
  obtain ⟨D, hD⟩ : ∃ D, us.length = D := ⟨_, rfl⟩
  rw [hD] at hD2 l1
  have hz0 : ((D : Int) == 0) = false := by simp; omega
  have hz1 : ((D : Int) == 1) = false := by simp; omega
  have HCUT := Lib.hid hcut
  have HLU := Lib.hid hlu
  have H27 := Lib.hid h27
  have H52 := Lib.hid h52
  have H41 := Lib.hid h41
  have HBAD := Lib.hid hbad
  have HD := Lib.hid hD
  clear hcut hlu h27 h52 h41 hbad hD
  clear hA hL hnil l1
  go_enter Try.func8, Try.ntmps8
  go_wp2_with (fail)
  refine (HCUT.out _ (Below.refl _ _)).mono ?_
  rintro e w1 ⟨va, rfl, hva, hb1⟩
  have b1 := below_at (Below.refl _ _) (Nat.le_refl _) hb1
  have ka_1 := HLU.out _ _ _ hva
  have kk := ka_1
  obtain ⟨A1, c1, hve, hq1', _, hA1⟩ := kk
  rw [HD.out] at hve hq1'
  subst hve
  go_wp2_with (fail)
  refine (H27.out _ _ ka_1).mono ?_
  rintro e w2 ⟨rfl, rfl⟩
  go_wp2_with (fail)
  refine (H52.out _ _ _ ka_1).mono ?_
  rintro e w3 ⟨rfl, hb3⟩
  have b3 := below_at b1 (Nat.le_refl _) hb3
  have ka_3 := ka_1.keep hb3
  go_wp2_with (fail)
  refine (lives_any _).mono ?_
  rintro e w4 ⟨rfl, hb4⟩
  have b4 := below_at b3 (Nat.le_refl _) hb4
  have ka_4 := ka_3.keep hb4
  go_wp2_with (fail)
  refine (H41.out _ _).mono ?_
  rintro e w5 ⟨rfl, hb5⟩
  have b5 := below_at b4 (Nat.le_refl _) hb5
  have ka_5 := ka_4.keep hb5
  go_wp2
  go_ret
  exact ⟨rfl, b5⟩

set_option maxHeartbeats 2000000 in
set_option maxRecDepth 100000 in
theorem powers_bad_multi_gt (A : Option Addr) (c L : Nat) (n : Int) (xs : List Nat) (w : World) (hA : Nums .u32 w A xs) (hL : L = xs.length) (hc : L ≤ c) (hnil : A = none → c = 0) (hbad : chk (xs.take 6) ≠ 0) (hD2 : 2 ≤ (xs.take 6).length) (hn : 60 < n) : Calls Try.prog 8 #[.slice A L c, .int .i64 n] w (LivesPost w) := by
  have hcut := fun w' (h : Below w.heap.size w w') => cut_any A c L 6 xs w' (hA.keep h) hL hc hnil (by omega)
  have l1 : (xs.take 6).length ≤ 6 := by rw [List.length_take]; omega
  generalize xs.take 6 = us at *
  have hlu : ∀ B w' a, OwnLs B w' a us → Limbs w' a us := fun B w' a h => h.limbs (by omega)
  have h27 := fun a w h => refCheck_l a us w h
  have h52 := fun a k w h => pow_bad a k us w h hbad
  generalize chk us = r at *
  have hq : (r == 0) = false := by simp [hbad]
  have hq1 : (r != 0) = true := by simp [hbad]
  have h41 := fun b w => is_err b r w hbad
  obtain ⟨D, hD⟩ : ∃ D, us.length = D := ⟨_, rfl⟩
  rw [hD] at hD2 l1
  have hz0 : ((D : Int) == 0) = false := by simp; omega
  have hz1 : ((D : Int) == 1) = false := by simp; omega
  obtain ⟨k, hk⟩ : ∃ k, n % 61 = k := ⟨_, rfl⟩
  have q1 : n.tmod 61 = k := by rw [Int.tmod_eq_emod_of_nonneg (by omega)]; exact hk
  have HCUT := Lib.hid hcut
  have HLU := Lib.hid hlu
  have H27 := Lib.hid h27
  have H52 := Lib.hid h52
  have H41 := Lib.hid h41
  have HBAD := Lib.hid hbad
  have HD := Lib.hid hD
  clear hcut hlu h27 h52 h41 hbad hD
  clear hA hL hnil l1
  go_enter Try.func8, Try.ntmps8
  go_wp2_with (fail)
  refine (HCUT.out _ (Below.refl _ _)).mono ?_
  rintro e w1 ⟨va, rfl, hva, hb1⟩
  have b1 := below_at (Below.refl _ _) (Nat.le_refl _) hb1
  have ka_1 := HLU.out _ _ _ hva
  have kk := ka_1
  obtain ⟨A1, c1, hve, hq1', _, hA1⟩ := kk
  rw [HD.out] at hve hq1'
  subst hve
  go_wp2_with (fail)
  refine (H27.out _ _ ka_1).mono ?_
  rintro e w2 ⟨rfl, rfl⟩
  go_wp2_with (fail)
  refine (H52.out _ _ _ ka_1).mono ?_
  rintro e w3 ⟨rfl, hb3⟩
  have b3 := below_at b1 (Nat.le_refl _) hb3
  have ka_3 := ka_1.keep hb3
  go_wp2_with (fail)
  refine (lives_any _).mono ?_
  rintro e w4 ⟨rfl, hb4⟩
  have b4 := below_at b3 (Nat.le_refl _) hb4
  have ka_4 := ka_3.keep hb4
  go_wp2_with (fail)
  refine (H41.out _ _).mono ?_
  rintro e w5 ⟨rfl, hb5⟩
  have b5 := below_at b4 (Nat.le_refl _) hb5
  have ka_5 := ka_4.keep hb5
  go_wp2
  go_ret
  exact ⟨rfl, b5⟩

set_option maxHeartbeats 2000000 in
set_option maxRecDepth 100000 in
theorem powers_zero_neg (A : Option Addr) (c L : Nat) (n : Int) (xs : List Nat) (w : World) (hA : Nums .u32 w A xs) (hL : L = xs.length) (hc : L ≤ c) (hnil : A = none → c = 0) (m : Nat) (hm : xs.take 6 = dig B32 m) (hm0 : m = 0) (hn : n < 0) : Calls Try.prog 8 #[.slice A L c, .int .i64 n] w (LivesPost w) := by
  have hcut := fun w' (h : Below w.heap.size w w') => cut_any A c L 6 xs w' (hA.keep h) hL hc hnil (by omega)
  have l1 : (xs.take 6).length ≤ 6 := by rw [List.length_take]; omega
  rw [hm] at hcut l1
  have lb : nbits m ≤ 192 := Nat.le_trans (bits_of_len l1) (by omega)
  have hlu : ∀ B w' a, OwnLs B w' a (dig B32 m) → Limbs w' a (dig B32 m) := fun B w' a h => h.limbs (by omega)
  have h27 := fun a w h => refCheck_l a (dig B32 m) w h
  rw [chk_dig (by omega)] at h27
  have h52 := fun a w' (h : Limbs w' a (dig B32 m)) => pow_arg a m n w' h.is (by omega) hn
  have h41 := fun b w => is_err b 1 w (by omega)
  obtain ⟨D, hD⟩ : ∃ D, (dig B32 m).length = D := ⟨_, rfl⟩
  have hd0 : D = 0 := by rw [← hD, hm0, dig_zero]; rfl
  subst hd0
  have HM0 := Lib.hid hm0
  clear hm0
  have HCUT := Lib.hid hcut
  have HLU := Lib.hid hlu
  have H27 := Lib.hid h27
  have H52 := Lib.hid h52
  have H41 := Lib.hid h41
  have HD := Lib.hid hD
  clear hcut hlu h27 h52 h41 hD
  clear hA hL hnil l1 hm lb
  go_enter Try.func8, Try.ntmps8
  go_wp2_with (fail)
  refine (HCUT.out _ (Below.refl _ _)).mono ?_
  rintro e w1 ⟨va, rfl, hva, hb1⟩
  have b1 := below_at (Below.refl _ _) (Nat.le_refl _) hb1
  have ka_1 := HLU.out _ _ _ hva
  have kk := ka_1
  obtain ⟨A1, c1, hve, hq1', _, hA1⟩ := kk
  rw [HD.out] at hve hq1'
  subst hve
  go_wp2_with (fail)
  refine (H27.out _ _ ka_1).mono ?_
  rintro e w2 ⟨rfl, rfl⟩
  go_wp2_with (fail)
  refine (H52.out _ _ ka_1).mono ?_
  rintro e w3 ⟨rfl, hb3⟩
  have b3 := below_at b1 (Nat.le_refl _) hb3
  have ka_3 := ka_1.keep hb3
  go_wp2_with (fail)
  refine (lives_any _).mono ?_
  rintro e w4 ⟨rfl, hb4⟩
  have b4 := below_at b3 (Nat.le_refl _) hb4
  have ka_4 := ka_3.keep hb4
  go_wp2_with (fail)
  refine (H41.out _ _).mono ?_
  rintro e w5 ⟨rfl, hb5⟩
  have b5 := below_at b4 (Nat.le_refl _) hb5
  have ka_5 := ka_4.keep hb5
  go_wp2
  go_ret
  exact ⟨rfl, b5⟩

set_option maxHeartbeats 2000000 in
set_option maxRecDepth 100000 in
theorem powers_zero_0 (A : Option Addr) (c L : Nat) (n : Int) (xs : List Nat) (w : World) (hA : Nums .u32 w A xs) (hL : L = xs.length) (hc : L ≤ c) (hnil : A = none → c = 0) (m : Nat) (hm : xs.take 6 = dig B32 m) (hm0 : m = 0) (hn : n = 0) : Calls Try.prog 8 #[.slice A L c, .int .i64 n] w (LivesPost w) := by
  have hcut := fun w' (h : Below w.heap.size w w') => cut_any A c L 6 xs w' (hA.keep h) hL hc hnil (by omega)
  have l1 : (xs.take 6).length ≤ 6 := by rw [List.length_take]; omega
  rw [hm] at hcut l1
  have lb : nbits m ≤ 192 := Nat.le_trans (bits_of_len l1) (by omega)
  have hlu : ∀ B w' a, OwnLs B w' a (dig B32 m) → Limbs w' a (dig B32 m) := fun B w' a h => h.limbs (by omega)
  have h27 := fun a w h => refCheck_l a (dig B32 m) w h
  rw [chk_dig (by omega)] at h27
  have h52 : ∀ a w', Limbs w' a (dig B32 m) → Calls Try.prog 52 #[a, .int .i64 0] w' (NatOk w' 1) := fun a w' h => pow_ok a m 0 w' h.is (by omega) (by omega) (by omega)
  have h34 := fun w => refOf_any 1 (by decide) w
  have hl1 : (dig B32 1).length ≤ 2 := len_u64 (by decide)
  have h41 : ∀ (B : Nat) (a : Value) (w' : World), N32 w' a 1 → ∀ b, OwnLs B w' b (dig B32 1) → Calls Try.prog 41 #[a, .int .i64 0, b, .int .i64 0] w' (LivesPost w') := fun B a w' h b kk => is_ok a b 1 w' h (kk.limbs (by omega)) (by omega)
  obtain ⟨D, hD⟩ : ∃ D, (dig B32 m).length = D := ⟨_, rfl⟩
  have hd0 : D = 0 := by rw [← hD, hm0, dig_zero]; rfl
  subst hd0
  subst hn
  have HM0 := Lib.hid hm0
  clear hm0
  have HCUT := Lib.hid hcut
  have HLU := Lib.hid hlu
  have H27 := Lib.hid h27
  have H52 := Lib.hid h52
  have H41 := Lib.hid h41
  have HD := Lib.hid hD
  have H34 := Lib.hid h34
  clear hcut hlu h27 h52 h41 hD h34
  clear hA hL hnil l1 hm lb hl1
  go_enter Try.func8, Try.ntmps8
  go_wp2_with (fail)
  refine (HCUT.out _ (Below.refl _ _)).mono ?_
  rintro e w1 ⟨va, rfl, hva, hb1⟩
  have b1 := below_at (Below.refl _ _) (Nat.le_refl _) hb1
  have ka_1 := HLU.out _ _ _ hva
  have kk := ka_1
  obtain ⟨A1, c1, hve, hq1', _, hA1⟩ := kk
  rw [HD.out] at hve hq1'
  subst hve
  go_wp2_with (fail)
  refine (H27.out _ _ ka_1).mono ?_
  rintro e w2 ⟨rfl, rfl⟩
  go_wp2_with (fail)
  refine (H52.out _ _ ka_1).mono ?_
  rintro e w3 ⟨vs, rfl, hvs, hb3⟩
  have b3 := below_at b1 (Nat.le_refl _) hb3
  have ks_3 := hvs.is
  go_wp2_with (fail)
  refine (lives_any _).mono ?_
  rintro e w4 ⟨rfl, hb4⟩
  have b4 := below_at b3 (Nat.le_refl _) hb4
  have ks_4 := ks_3.keep hb4
  go_wp2_with (fail)
  refine (H34.out _).mono ?_
  rintro e w5 ⟨vr, rfl, hvr, hb5⟩
  have b5 := below_at b4 (Nat.le_refl _) hb5
  have ks_5 := ks_4.keep hb5
  go_wp2_with (fail)
  refine (H41.out _ _ _ ks_5 _ hvr).mono ?_
  rintro e w6 ⟨rfl, hb6⟩
  have b6 := below_at b5 (Nat.le_refl _) hb6
  go_wp2
  go_ret
  exact ⟨rfl, b6⟩

set_option maxHeartbeats 2000000 in
set_option maxRecDepth 100000 in
theorem powers_zero_pos (A : Option Addr) (c L : Nat) (n : Int) (xs : List Nat) (w : World) (hA : Nums .u32 w A xs) (hL : L = xs.length) (hc : L ≤ c) (hnil : A = none → c = 0) (m : Nat) (hm : xs.take 6 = dig B32 m) (hm0 : m = 0) (k : Nat) (hk0 : 0 < k) (hk : k < 9223372036854775808) (hk6 : k ≤ 60) (hn : n = (k : Int)) : Calls Try.prog 8 #[.slice A L c, .int .i64 n] w (LivesPost w) := by
  have hcut := fun w' (h : Below w.heap.size w w') => cut_any A c L 6 xs w' (hA.keep h) hL hc hnil (by omega)
  have l1 : (xs.take 6).length ≤ 6 := by rw [List.length_take]; omega
  rw [hm] at hcut l1
  have lb : nbits m ≤ 192 := Nat.le_trans (bits_of_len l1) (by omega)
  have hlu : ∀ B w' a, OwnLs B w' a (dig B32 m) → Limbs w' a (dig B32 m) := fun B w' a h => h.limbs (by omega)
  have h27 := fun a w h => refCheck_l a (dig B32 m) w h
  rw [chk_dig (by omega)] at h27
  have h52 := fun a w' (h : Limbs w' a (dig B32 m)) => pow_01 a m k w' h.is (by omega) hk0 hk
  have h41 := fun a w' (h : N32 w' a m) b (kk : Limbs w' b (dig B32 m)) => is_ok a b m w' h kk (by omega)
  obtain ⟨D, hD⟩ : ∃ D, (dig B32 m).length = D := ⟨_, rfl⟩
  have hd0 : D = 0 := by rw [← hD, hm0, dig_zero]; rfl
  subst hd0
  subst hn
  have HK := Lib.hid hk
  clear hk
  have HM0 := Lib.hid hm0
  clear hm0
  have HCUT := Lib.hid hcut
  have HLU := Lib.hid hlu
  have H27 := Lib.hid h27
  have H52 := Lib.hid h52
  have H41 := Lib.hid h41
  have HD := Lib.hid hD
  clear hcut hlu h27 h52 h41 hD
  clear hA hL hnil l1 hm lb
  go_enter Try.func8, Try.ntmps8
  go_wp2_with (fail)
  refine (HCUT.out _ (Below.refl _ _)).mono ?_
  rintro e w1 ⟨va, rfl, hva, hb1⟩
  have b1 := below_at (Below.refl _ _) (Nat.le_refl _) hb1
  have ka_1 := HLU.out _ _ _ hva
  have kk := ka_1
  obtain ⟨A1, c1, hve, hq1', _, hA1⟩ := kk
  rw [HD.out] at hve hq1'
  subst hve
  go_wp2_with (fail)
  refine (H27.out _ _ ka_1).mono ?_
  rintro e w2 ⟨rfl, rfl⟩
  go_wp2_with (fail)
  refine (H52.out _ _ ka_1).mono ?_
  rintro e w3 ⟨vs, rfl, hvs, hb3⟩
  have b3 := below_at b1 (Nat.le_refl _) hb3
  have ka_3 := ka_1.keep hb3
  have ks_3 := hvs.is
  go_wp2_with (fail)
  refine (lives_any _).mono ?_
  rintro e w4 ⟨rfl, hb4⟩
  have b4 := below_at b3 (Nat.le_refl _) hb4
  have ka_4 := ka_3.keep hb4
  have ks_4 := ks_3.keep hb4
  go_wp2_with (fail)
  refine (H41.out _ _ ks_4 _ ka_4).mono ?_
  rintro e w5 ⟨rfl, hb5⟩
  have b5 := below_at b4 (Nat.le_refl _) hb5
  go_wp2
  go_ret
  exact ⟨rfl, b5⟩

set_option maxHeartbeats 2000000 in
set_option maxRecDepth 100000 in
theorem powers_zero_big (A : Option Addr) (c L : Nat) (n : Int) (xs : List Nat) (w : World) (hA : Nums .u32 w A xs) (hL : L = xs.length) (hc : L ≤ c) (hnil : A = none → c = 0) (m : Nat) (hm : xs.take 6 = dig B32 m) (hm0 : m = 0) (k : Nat) (hk0 : 0 < k) (hk : k < 9223372036854775808) (hk6 : 60 < k) (hn : n = (k : Int)) : Calls Try.prog 8 #[.slice A L c, .int .i64 n] w (LivesPost w) := by
  have hcut := fun w' (h : Below w.heap.size w w') => cut_any A c L 6 xs w' (hA.keep h) hL hc hnil (by omega)
  have l1 : (xs.take 6).length ≤ 6 := by rw [List.length_take]; omega
  rw [hm] at hcut l1
  have lb : nbits m ≤ 192 := Nat.le_trans (bits_of_len l1) (by omega)
  have hlu : ∀ B w' a, OwnLs B w' a (dig B32 m) → Limbs w' a (dig B32 m) := fun B w' a h => h.limbs (by omega)
  have h27 := fun a w h => refCheck_l a (dig B32 m) w h
  rw [chk_dig (by omega)] at h27
  have h52 := fun a w' (h : Limbs w' a (dig B32 m)) => pow_01 a m k w' h.is (by omega) hk0 hk
  have h41 := fun a w' (h : N32 w' a m) b (kk : Limbs w' b (dig B32 m)) => is_ok a b m w' h kk (by omega)
  obtain ⟨D, hD⟩ : ∃ D, (dig B32 m).length = D := ⟨_, rfl⟩
  have hd0 : D = 0 := by rw [← hD, hm0, dig_zero]; rfl
  subst hd0
  subst hn
  have HK := Lib.hid hk
  clear hk
  have HM0 := Lib.hid hm0
  clear hm0
  have HCUT := Lib.hid hcut
  have HLU := Lib.hid hlu
  have H27 := Lib.hid h27
  have H52 := Lib.hid h52
  have H41 := Lib.hid h41
  have HD := Lib.hid hD
  clear hcut hlu h27 h52 h41 hD
  clear hA hL hnil l1 hm lb
  go_enter Try.func8, Try.ntmps8
  go_wp2_with (fail)
  refine (HCUT.out _ (Below.refl _ _)).mono ?_
  rintro e w1 ⟨va, rfl, hva, hb1⟩
  have b1 := below_at (Below.refl _ _) (Nat.le_refl _) hb1
  have ka_1 := HLU.out _ _ _ hva
  have kk := ka_1
  obtain ⟨A1, c1, hve, hq1', _, hA1⟩ := kk
  rw [HD.out] at hve hq1'
  subst hve
  go_wp2_with (fail)
  refine (H27.out _ _ ka_1).mono ?_
  rintro e w2 ⟨rfl, rfl⟩
  go_wp2_with (fail)
  refine (H52.out _ _ ka_1).mono ?_
  rintro e w3 ⟨vs, rfl, hvs, hb3⟩
  have b3 := below_at b1 (Nat.le_refl _) hb3
  have ka_3 := ka_1.keep hb3
  have ks_3 := hvs.is
  go_wp2_with (fail)
  refine (lives_any _).mono ?_
  rintro e w4 ⟨rfl, hb4⟩
  have b4 := below_at b3 (Nat.le_refl _) hb4
  have ka_4 := ka_3.keep hb4
  have ks_4 := ks_3.keep hb4
  go_wp2_with (fail)
  refine (H41.out _ _ ks_4 _ ka_4).mono ?_
  rintro e w5 ⟨rfl, hb5⟩
  have b5 := below_at b4 (Nat.le_refl _) hb5
  go_wp2
  go_ret
  exact ⟨rfl, b5⟩

set_option maxHeartbeats 2000000 in
set_option maxRecDepth 100000 in
theorem powers_one_neg (A : Option Addr) (c L : Nat) (n : Int) (xs : List Nat) (w : World) (hA : Nums .u32 w A xs) (hL : L = xs.length) (hc : L ≤ c) (hnil : A = none → c = 0) (m : Nat) (hm : xs.take 6 = dig B32 m) (hm1 : m = 1) (hn : n < 0) : Calls Try.prog 8 #[.slice A L c, .int .i64 n] w (LivesPost w) := by
  have hcut := fun w' (h : Below w.heap.size w w') => cut_any A c L 6 xs w' (hA.keep h) hL hc hnil (by omega)
  have l1 : (xs.take 6).length ≤ 6 := by rw [List.length_take]; omega
  rw [hm] at hcut l1
  have lb : nbits m ≤ 192 := Nat.le_trans (bits_of_len l1) (by omega)
  have hlu : ∀ B w' a, OwnLs B w' a (dig B32 m) → Limbs w' a (dig B32 m) := fun B w' a h => h.limbs (by omega)
  have h27 := fun a w h => refCheck_l a (dig B32 m) w h
  rw [chk_dig (by omega)] at h27
  have h52 := fun a w' (h : Limbs w' a (dig B32 m)) => pow_arg a m n w' h.is (by omega) hn
  have h41 := fun b w => is_err b 1 w (by omega)
  obtain ⟨D, hD⟩ : ∃ D, (dig B32 m).length = D := ⟨_, rfl⟩
  have hd1 : D = 1 := by rw [← hD, hm1]; rw [dig1 b32_two (by omega) (by unfold B32; omega)]; rfl
  subst hd1
  have HM1 := Lib.hid hm1
  clear hm1
  have HCUT := Lib.hid hcut
  have HLU := Lib.hid hlu
  have H27 := Lib.hid h27
  have H52 := Lib.hid h52
  have H41 := Lib.hid h41
  have HD := Lib.hid hD
  clear hcut hlu h27 h52 h41 hD
  clear hA hL hnil l1 hm lb
  go_enter Try.func8, Try.ntmps8
  go_wp2_with (fail)
  refine (HCUT.out _ (Below.refl _ _)).mono ?_
  rintro e w1 ⟨va, rfl, hva, hb1⟩
  have b1 := below_at (Below.refl _ _) (Nat.le_refl _) hb1
  have ka_1 := HLU.out _ _ _ hva
  have kk := ka_1
  obtain ⟨A1, c1, hve, hq1', _, hA1⟩ := kk
  rw [HD.out] at hve hq1'
  subst hve
  obtain ⟨g, off, v, rfl, hg, hv0, hcv⟩ := hA1.at_ (i := 0) (by rw [HD.out]; omega)
  rw [Nat.add_zero] at hcv
  have hv1 : v = 1 := by have := dig_getElem? b32_two hv0; rw [HM1.out] at this; exact this
  subst hv1
  clear hv0 hA1
  go_wp2_with (fail)
  refine (H27.out _ _ ka_1).mono ?_
  rintro e w2 ⟨rfl, rfl⟩
  go_wp2_with (fail)
  refine (H52.out _ _ ka_1).mono ?_
  rintro e w3 ⟨rfl, hb3⟩
  have b3 := below_at b1 (Nat.le_refl _) hb3
  have ka_3 := ka_1.keep hb3
  go_wp2_with (fail)
  refine (lives_any _).mono ?_
  rintro e w4 ⟨rfl, hb4⟩
  have b4 := below_at b3 (Nat.le_refl _) hb4
  have ka_4 := ka_3.keep hb4
  go_wp2_with (fail)
  refine (H41.out _ _).mono ?_
  rintro e w5 ⟨rfl, hb5⟩
  have b5 := below_at b4 (Nat.le_refl _) hb5
  have ka_5 := ka_4.keep hb5
  go_wp2
  go_ret
  exact ⟨rfl, b5⟩

set_option maxHeartbeats 2000000 in
set_option maxRecDepth 100000 in
theorem powers_one_0 (A : Option Addr) (c L : Nat) (n : Int) (xs : List Nat) (w : World) (hA : Nums .u32 w A xs) (hL : L = xs.length) (hc : L ≤ c) (hnil : A = none → c = 0) (m : Nat) (hm : xs.take 6 = dig B32 m) (hm1 : m = 1) (hn : n = 0) : Calls Try.prog 8 #[.slice A L c, .int .i64 n] w (LivesPost w) := by
  have hcut := fun w' (h : Below w.heap.size w w') => cut_any A c L 6 xs w' (hA.keep h) hL hc hnil (by omega)
  have l1 : (xs.take 6).length ≤ 6 := by rw [List.length_take]; omega
  rw [hm] at hcut l1
  have lb : nbits m ≤ 192 := Nat.le_trans (bits_of_len l1) (by omega)
  have hlu : ∀ B w' a, OwnLs B w' a (dig B32 m) → Limbs w' a (dig B32 m) := fun B w' a h => h.limbs (by omega)
  have h27 := fun a w h => refCheck_l a (dig B32 m) w h
  rw [chk_dig (by omega)] at h27
  have h52 : ∀ a w', Limbs w' a (dig B32 m) → Calls Try.prog 52 #[a, .int .i64 0] w' (NatOk w' 1) := fun a w' h => pow_ok a m 0 w' h.is (by omega) (by omega) (by omega)
  have h34 := fun w => refOf_any 1 (by decide) w
  have hl1 : (dig B32 1).length ≤ 2 := len_u64 (by decide)
  have h41 : ∀ (B : Nat) (a : Value) (w' : World), N32 w' a 1 → ∀ b, OwnLs B w' b (dig B32 1) → Calls Try.prog 41 #[a, .int .i64 0, b, .int .i64 0] w' (LivesPost w') := fun B a w' h b kk => is_ok a b 1 w' h (kk.limbs (by omega)) (by omega)
  obtain ⟨D, hD⟩ : ∃ D, (dig B32 m).length = D := ⟨_, rfl⟩
  have hd1 : D = 1 := by rw [← hD, hm1]; rw [dig1 b32_two (by omega) (by unfold B32; omega)]; rfl
  subst hd1
  subst hn
  have HM1 := Lib.hid hm1
  clear hm1
  have HCUT := Lib.hid hcut
  have HLU := Lib.hid hlu
  have H27 := Lib.hid h27
  have H52 := Lib.hid h52
  have H41 := Lib.hid h41
  have HD := Lib.hid hD
  have H34 := Lib.hid h34
  clear hcut hlu h27 h52 h41 hD h34
  clear hA hL hnil l1 hm lb hl1
  go_enter Try.func8, Try.ntmps8
  go_wp2_with (fail)
  refine (HCUT.out _ (Below.refl _ _)).mono ?_
  rintro e w1 ⟨va, rfl, hva, hb1⟩
  have b1 := below_at (Below.refl _ _) (Nat.le_refl _) hb1
  have ka_1 := HLU.out _ _ _ hva
  have kk := ka_1
  obtain ⟨A1, c1, hve, hq1', _, hA1⟩ := kk
  rw [HD.out] at hve hq1'
  subst hve
  obtain ⟨g, off, v, rfl, hg, hv0, hcv⟩ := hA1.at_ (i := 0) (by rw [HD.out]; omega)
  rw [Nat.add_zero] at hcv
  have hv1 : v = 1 := by have := dig_getElem? b32_two hv0; rw [HM1.out] at this; exact this
  subst hv1
  clear hv0 hA1
  go_wp2_with (fail)
  refine (H27.out _ _ ka_1).mono ?_
  rintro e w2 ⟨rfl, rfl⟩
  go_wp2_with (fail)
  refine (H52.out _ _ ka_1).mono ?_
  rintro e w3 ⟨vs, rfl, hvs, hb3⟩
  have b3 := below_at b1 (Nat.le_refl _) hb3
  have ks_3 := hvs.is
  go_wp2_with (fail)
  refine (lives_any _).mono ?_
  rintro e w4 ⟨rfl, hb4⟩
  have b4 := below_at b3 (Nat.le_refl _) hb4
  have ks_4 := ks_3.keep hb4
  go_wp2_with (fail)
  refine (H34.out _).mono ?_
  rintro e w5 ⟨vr, rfl, hvr, hb5⟩
  have b5 := below_at b4 (Nat.le_refl _) hb5
  have ks_5 := ks_4.keep hb5
  go_wp2_with (fail)
  refine (H41.out _ _ _ ks_5 _ hvr).mono ?_
  rintro e w6 ⟨rfl, hb6⟩
  have b6 := below_at b5 (Nat.le_refl _) hb6
  go_wp2
  go_ret
  exact ⟨rfl, b6⟩

set_option maxHeartbeats 2000000 in
set_option maxRecDepth 100000 in
theorem powers_one_pos (A : Option Addr) (c L : Nat) (n : Int) (xs : List Nat) (w : World) (hA : Nums .u32 w A xs) (hL : L = xs.length) (hc : L ≤ c) (hnil : A = none → c = 0) (m : Nat) (hm : xs.take 6 = dig B32 m) (hm1 : m = 1) (k : Nat) (hk0 : 0 < k) (hk : k < 9223372036854775808) (hk6 : k ≤ 60) (hn : n = (k : Int)) : Calls Try.prog 8 #[.slice A L c, .int .i64 n] w (LivesPost w) := by
  have hcut := fun w' (h : Below w.heap.size w w') => cut_any A c L 6 xs w' (hA.keep h) hL hc hnil (by omega)
  have l1 : (xs.take 6).length ≤ 6 := by rw [List.length_take]; omega
  rw [hm] at hcut l1
  have lb : nbits m ≤ 192 := Nat.le_trans (bits_of_len l1) (by omega)
  have hlu : ∀ B w' a, OwnLs B w' a (dig B32 m) → Limbs w' a (dig B32 m) := fun B w' a h => h.limbs (by omega)
  have h27 := fun a w h => refCheck_l a (dig B32 m) w h
  rw [chk_dig (by omega)] at h27
  have h52 := fun a w' (h : Limbs w' a (dig B32 m)) => pow_01 a m k w' h.is (by omega) hk0 hk
  have h41 := fun a w' (h : N32 w' a m) b (kk : Limbs w' b (dig B32 m)) => is_ok a b m w' h kk (by omega)
  obtain ⟨D, hD⟩ : ∃ D, (dig B32 m).length = D := ⟨_, rfl⟩
  have hd1 : D = 1 := by rw [← hD, hm1]; rw [dig1 b32_two (by omega) (by unfold B32; omega)]; rfl
  subst hd1
  subst hn
  have HK := Lib.hid hk
  clear hk
  have HM1 := Lib.hid hm1
  clear hm1
  have HCUT := Lib.hid hcut
  have HLU := Lib.hid hlu
  have H27 := Lib.hid h27
  have H52 := Lib.hid h52
  have H41 := Lib.hid h41
  have HD := Lib.hid hD
  clear hcut hlu h27 h52 h41 hD
  clear hA hL hnil l1 hm lb
  go_enter Try.func8, Try.ntmps8
  go_wp2_with (fail)
  refine (HCUT.out _ (Below.refl _ _)).mono ?_
  rintro e w1 ⟨va, rfl, hva, hb1⟩
  have b1 := below_at (Below.refl _ _) (Nat.le_refl _) hb1
  have ka_1 := HLU.out _ _ _ hva
  have kk := ka_1
  obtain ⟨A1, c1, hve, hq1', _, hA1⟩ := kk
  rw [HD.out] at hve hq1'
  subst hve
  obtain ⟨g, off, v, rfl, hg, hv0, hcv⟩ := hA1.at_ (i := 0) (by rw [HD.out]; omega)
  rw [Nat.add_zero] at hcv
  have hv1 : v = 1 := by have := dig_getElem? b32_two hv0; rw [HM1.out] at this; exact this
  subst hv1
  clear hv0 hA1
  go_wp2_with (fail)
  refine (H27.out _ _ ka_1).mono ?_
  rintro e w2 ⟨rfl, rfl⟩
  go_wp2_with (fail)
  refine (H52.out _ _ ka_1).mono ?_
  rintro e w3 ⟨vs, rfl, hvs, hb3⟩
  have b3 := below_at b1 (Nat.le_refl _) hb3
  have ka_3 := ka_1.keep hb3
  have ks_3 := hvs.is
  go_wp2_with (fail)
  refine (lives_any _).mono ?_
  rintro e w4 ⟨rfl, hb4⟩
  have b4 := below_at b3 (Nat.le_refl _) hb4
  have ka_4 := ka_3.keep hb4
  have ks_4 := ks_3.keep hb4
  go_wp2_with (fail)
  refine (H41.out _ _ ks_4 _ ka_4).mono ?_
  rintro e w5 ⟨rfl, hb5⟩
  have b5 := below_at b4 (Nat.le_refl _) hb5
  go_wp2
  go_ret
  exact ⟨rfl, b5⟩

set_option maxHeartbeats 2000000 in
set_option maxRecDepth 100000 in
theorem powers_one_big (A : Option Addr) (c L : Nat) (n : Int) (xs : List Nat) (w : World) (hA : Nums .u32 w A xs) (hL : L = xs.length) (hc : L ≤ c) (hnil : A = none → c = 0) (m : Nat) (hm : xs.take 6 = dig B32 m) (hm1 : m = 1) (k : Nat) (hk0 : 0 < k) (hk : k < 9223372036854775808) (hk6 : 60 < k) (hn : n = (k : Int)) : Calls Try.prog 8 #[.slice A L c, .int .i64 n] w (LivesPost w) := by
  have hcut := fun w' (h : Below w.heap.size w w') => cut_any A c L 6 xs w' (hA.keep h) hL hc hnil (by omega)
  have l1 : (xs.take 6).length ≤ 6 := by rw [List.length_take]; omega
  rw [hm] at hcut l1
  have lb : nbits m ≤ 192 := Nat.le_trans (bits_of_len l1) (by omega)
  have hlu : ∀ B w' a, OwnLs B w' a (dig B32 m) → Limbs w' a (dig B32 m) := fun B w' a h => h.limbs (by omega)
  have h27 := fun a w h => refCheck_l a (dig B32 m) w h
  rw [chk_dig (by omega)] at h27
  have h52 := fun a w' (h : Limbs w' a (dig B32 m)) => pow_01 a m k w' h.is (by omega) hk0 hk
  have h41 := fun a w' (h : N32 w' a m) b (kk : Limbs w' b (dig B32 m)) => is_ok a b m w' h kk (by omega)
  obtain ⟨D, hD⟩ : ∃ D, (dig B32 m).length = D := ⟨_, rfl⟩
  have hd1 : D = 1 := by rw [← hD, hm1]; rw [dig1 b32_two (by omega) (by unfold B32; omega)]; rfl
  subst hd1
  subst hn
  have HK := Lib.hid hk
  clear hk
  have HM1 := Lib.hid hm1
  clear hm1
  have HCUT := Lib.hid hcut
  have HLU := Lib.hid hlu
  have H27 := Lib.hid h27
  have H52 := Lib.hid h52
  have H41 := Lib.hid h41
  have HD := Lib.hid hD
  clear hcut hlu h27 h52 h41 hD
  clear hA hL hnil l1 hm lb
  go_enter Try.func8, Try.ntmps8
  go_wp2_with (fail)
  refine (HCUT.out _ (Below.refl _ _)).mono ?_
  rintro e w1 ⟨va, rfl, hva, hb1⟩
  have b1 := below_at (Below.refl _ _) (Nat.le_refl _) hb1
  have ka_1 := HLU.out _ _ _ hva
  have kk := ka_1
  obtain ⟨A1, c1, hve, hq1', _, hA1⟩ := kk
  rw [HD.out] at hve hq1'
  subst hve
  obtain ⟨g, off, v, rfl, hg, hv0, hcv⟩ := hA1.at_ (i := 0) (by rw [HD.out]; omega)
  rw [Nat.add_zero] at hcv
  have hv1 : v = 1 := by have := dig_getElem? b32_two hv0; rw [HM1.out] at this; exact this
  subst hv1
  clear hv0 hA1
  go_wp2_with (fail)
  refine (H27.out _ _ ka_1).mono ?_
  rintro e w2 ⟨rfl, rfl⟩
  go_wp2_with (fail)
  refine (H52.out _ _ ka_1).mono ?_
  rintro e w3 ⟨vs, rfl, hvs, hb3⟩
  have b3 := below_at b1 (Nat.le_refl _) hb3
  have ka_3 := ka_1.keep hb3
  have ks_3 := hvs.is
  go_wp2_with (fail)
  refine (lives_any _).mono ?_
  rintro e w4 ⟨rfl, hb4⟩
  have b4 := below_at b3 (Nat.le_refl _) hb4
  have ka_4 := ka_3.keep hb4
  have ks_4 := ks_3.keep hb4
  go_wp2_with (fail)
  refine (H41.out _ _ ks_4 _ ka_4).mono ?_
  rintro e w5 ⟨rfl, hb5⟩
  have b5 := below_at b4 (Nat.le_refl _) hb5
  go_wp2
  go_ret
  exact ⟨rfl, b5⟩

set_option maxHeartbeats 2000000 in
set_option maxRecDepth 100000 in
theorem powers_single_neg (A : Option Addr) (c L : Nat) (n : Int) (xs : List Nat) (w : World) (hA : Nums .u32 w A xs) (hL : L = xs.length) (hc : L ≤ c) (hnil : A = none → c = 0) (m : Nat) (hm : xs.take 6 = dig B32 m) (hmm : 2 ≤ m) (hD1 : (dig B32 m).length = 1) (hn : n < 0) : Calls Try.prog 8 #[.slice A L c, .int .i64 n] w (LivesPost w) := by
  have hcut := fun w' (h : Below w.heap.size w w') => cut_any A c L 6 xs w' (hA.keep h) hL hc hnil (by omega)
  have l1 : (xs.take 6).length ≤ 6 := by rw [List.length_take]; omega
  rw [hm] at hcut l1
  have lb : nbits m ≤ 192 := Nat.le_trans (bits_of_len l1) (by omega)
  have hlu : ∀ B w' a, OwnLs B w' a (dig B32 m) → Limbs w' a (dig B32 m) := fun B w' a h => h.limbs (by omega)
  have h27 := fun a w h => refCheck_l a (dig B32 m) w h
  rw [chk_dig (by omega)] at h27
  have h52 := fun a w' (h : Limbs w' a (dig B32 m)) => pow_arg a m n w' h.is (by omega) hn
  have h41 := fun b w => is_err b 1 w (by omega)
  obtain ⟨D, hD⟩ : ∃ D, (dig B32 m).length = D := ⟨_, rfl⟩
  rw [hD] at hD1
  subst hD1
  have HCUT := Lib.hid hcut
  have HLU := Lib.hid hlu
  have H27 := Lib.hid h27
  have H52 := Lib.hid h52
  have H41 := Lib.hid h41
  have HD := Lib.hid hD
  clear hcut hlu h27 h52 h41 hD
  clear hA hL hnil l1 hm lb
  go_enter Try.func8, Try.ntmps8
  go_wp2_with (fail)
  refine (HCUT.out _ (Below.refl _ _)).mono ?_
  rintro e w1 ⟨va, rfl, hva, hb1⟩
  have b1 := below_at (Below.refl _ _) (Nat.le_refl _) hb1
  have ka_1 := HLU.out _ _ _ hva
  have kk := ka_1
  obtain ⟨A1, c1, hve, hq1', _, hA1⟩ := kk
  rw [HD.out] at hve hq1'
  subst hve
  obtain ⟨g, off, v, rfl, hg, hv0, hcv⟩ := hA1.at_ (i := 0) (by rw [HD.out]; omega)
  rw [Nat.add_zero] at hcv
  have hv1 : v = m := by
    have h1 := dig_getElem? b32_two hv0
    have h2 := dig_len_lt b32_two (n := m)
    rw [HD.out, Nat.pow_one] at h2
    rw [Nat.pow_zero, Nat.div_one, Nat.mod_eq_of_lt h2] at h1
    exact h1
  have hvt : ((v : Int) == 1) = false := by simp; omega
  clear hv0 hA1 hv1
  go_wp2_with (fail)
  refine (H27.out _ _ ka_1).mono ?_
  rintro e w2 ⟨rfl, rfl⟩
  go_wp2_with (fail)
  refine (H52.out _ _ ka_1).mono ?_
  rintro e w3 ⟨rfl, hb3⟩
  have b3 := below_at b1 (Nat.le_refl _) hb3
  have ka_3 := ka_1.keep hb3
  go_wp2_with (fail)
  refine (lives_any _).mono ?_
  rintro e w4 ⟨rfl, hb4⟩
  have b4 := below_at b3 (Nat.le_refl _) hb4
  have ka_4 := ka_3.keep hb4
  go_wp2_with (fail)
  refine (H41.out _ _).mono ?_
  rintro e w5 ⟨rfl, hb5⟩
  have b5 := below_at b4 (Nat.le_refl _) hb5
  have ka_5 := ka_4.keep hb5
  go_wp2
  go_ret
  exact ⟨rfl, b5⟩

set_option maxHeartbeats 2000000 in
set_option maxRecDepth 100000 in
theorem powers_single_0 (A : Option Addr) (c L : Nat) (n : Int) (xs : List Nat) (w : World) (hA : Nums .u32 w A xs) (hL : L = xs.length) (hc : L ≤ c) (hnil : A = none → c = 0) (m : Nat) (hm : xs.take 6 = dig B32 m) (hmm : 2 ≤ m) (hD1 : (dig B32 m).length = 1) (hn : n = 0) : Calls Try.prog 8 #[.slice A L c, .int .i64 n] w (LivesPost w) := by
  have hcut := fun w' (h : Below w.heap.size w w') => cut_any A c L 6 xs w' (hA.keep h) hL hc hnil (by omega)
  have l1 : (xs.take 6).length ≤ 6 := by rw [List.length_take]; omega
  rw [hm] at hcut l1
  have lb : nbits m ≤ 192 := Nat.le_trans (bits_of_len l1) (by omega)
  have hlu : ∀ B w' a, OwnLs B w' a (dig B32 m) → Limbs w' a (dig B32 m) := fun B w' a h => h.limbs (by omega)
  have h27 := fun a w h => refCheck_l a (dig B32 m) w h
  rw [chk_dig (by omega)] at h27
  have h52 : ∀ a w', Limbs w' a (dig B32 m) → Calls Try.prog 52 #[a, .int .i64 0] w' (NatOk w' 1) := fun a w' h => pow_ok a m 0 w' h.is (by omega) (by omega) (by omega)
  have h34 := fun w => refOf_any 1 (by decide) w
  have hl1 : (dig B32 1).length ≤ 2 := len_u64 (by decide)
  have h41 : ∀ (B : Nat) (a : Value) (w' : World), N32 w' a 1 → ∀ b, OwnLs B w' b (dig B32 1) → Calls Try.prog 41 #[a, .int .i64 0, b, .int .i64 0] w' (LivesPost w') := fun B a w' h b kk => is_ok a b 1 w' h (kk.limbs (by omega)) (by omega)
  obtain ⟨D, hD⟩ : ∃ D, (dig B32 m).length = D := ⟨_, rfl⟩
  rw [hD] at hD1
  subst hD1
  subst hn
  have HCUT := Lib.hid hcut
  have HLU := Lib.hid hlu
  have H27 := Lib.hid h27
  have H52 := Lib.hid h52
  have H41 := Lib.hid h41
  have HD := Lib.hid hD
  have H34 := Lib.hid h34
  clear hcut hlu h27 h52 h41 hD h34
  clear hA hL hnil l1 hm lb hl1
  go_enter Try.func8, Try.ntmps8
  go_wp2_with (fail)
  refine (HCUT.out _ (Below.refl _ _)).mono ?_
  rintro e w1 ⟨va, rfl, hva, hb1⟩
  have b1 := below_at (Below.refl _ _) (Nat.le_refl _) hb1
  have ka_1 := HLU.out _ _ _ hva
  have kk := ka_1
  obtain ⟨A1, c1, hve, hq1', _, hA1⟩ := kk
  rw [HD.out] at hve hq1'
  subst hve
  obtain ⟨g, off, v, rfl, hg, hv0, hcv⟩ := hA1.at_ (i := 0) (by rw [HD.out]; omega)
  rw [Nat.add_zero] at hcv
  have hv1 : v = m := by
    have h1 := dig_getElem? b32_two hv0
    have h2 := dig_len_lt b32_two (n := m)
    rw [HD.out, Nat.pow_one] at h2
    rw [Nat.pow_zero, Nat.div_one, Nat.mod_eq_of_lt h2] at h1
    exact h1
  have hvt : ((v : Int) == 1) = false := by simp; omega
  clear hv0 hA1 hv1
  go_wp2_with (fail)
  refine (H27.out _ _ ka_1).mono ?_
  rintro e w2 ⟨rfl, rfl⟩
  go_wp2_with (fail)
  refine (H52.out _ _ ka_1).mono ?_
  rintro e w3 ⟨vs, rfl, hvs, hb3⟩
  have b3 := below_at b1 (Nat.le_refl _) hb3
  have ks_3 := hvs.is
  go_wp2_with (fail)
  refine (lives_any _).mono ?_
  rintro e w4 ⟨rfl, hb4⟩
  have b4 := below_at b3 (Nat.le_refl _) hb4
  have ks_4 := ks_3.keep hb4
  go_wp2_with (fail)
  refine (H34.out _).mono ?_
  rintro e w5 ⟨vr, rfl, hvr, hb5⟩
  have b5 := below_at b4 (Nat.le_refl _) hb5
  have ks_5 := ks_4.keep hb5
  go_wp2_with (fail)
  refine (H41.out _ _ _ ks_5 _ hvr).mono ?_
  rintro e w6 ⟨rfl, hb6⟩
  have b6 := below_at b5 (Nat.le_refl _) hb6
  go_wp2
  go_ret
  exact ⟨rfl, b6⟩

set_option maxHeartbeats 2000000 in
set_option maxRecDepth 100000 in
theorem powers_single_pos (A : Option Addr) (c L : Nat) (n : Int) (xs : List Nat) (w : World) (hA : Nums .u32 w A xs) (hL : L = xs.length) (hc : L ≤ c) (hnil : A = none → c = 0) (m : Nat) (hm : xs.take 6 = dig B32 m) (hmm : 2 ≤ m) (hD1 : (dig B32 m).length = 1) (k : Nat) (hk0 : 0 < k) (hk : k ≤ 60) (hn : n = (k : Int)) : Calls Try.prog 8 #[.slice A L c, .int .i64 n] w (LivesPost w) := by
  have hcut := fun w' (h : Below w.heap.size w w') => cut_any A c L 6 xs w' (hA.keep h) hL hc hnil (by omega)
  have l1 : (xs.take 6).length ≤ 6 := by rw [List.length_take]; omega
  rw [hm] at hcut l1
  have lb : nbits m ≤ 192 := Nat.le_trans (bits_of_len l1) (by omega)
  have hlu : ∀ B w' a, OwnLs B w' a (dig B32 m) → Limbs w' a (dig B32 m) := fun B w' a h => h.limbs (by omega)
  have h27 := fun a w h => refCheck_l a (dig B32 m) w h
  rw [chk_dig (by omega)] at h27
  have hlp : ∀ j, j ≤ k → (dig B32 (m ^ j)).length ≤ 500 := fun j hj => by
    have h1 := nbits_pow_le m j
    have h2 := Nat.mul_le_mul (Nat.le_trans hj hk) lb
    exact len32_of_bits (Nat.le_trans h1 (by omega))
  have h52 := fun a w' (h : Limbs w' a (dig B32 m)) => pow_ok a m k w' h.is (by omega) (by omega) (by omega)
  have h53 := fun a w' (h : Limbs w' a (dig B32 m)) => refPow_any a m k w' h.is (by omega) (by omega) hlp
  have hlk := hlp k (Nat.le_refl _)
  have h41 := fun a w' (h : N32 w' a (m ^ k)) b (kk : N32 w' b (m ^ k)) => is_ok a b (m ^ k) w' h (Limbs.num kk (by omega)) (by omega)
  clear hlp hlk
  obtain ⟨D, hD⟩ : ∃ D, (dig B32 m).length = D := ⟨_, rfl⟩
  rw [hD] at hD1
  subst hD1
  subst hn
  have HCUT := Lib.hid hcut
  have HLU := Lib.hid hlu
  have H27 := Lib.hid h27
  have H52 := Lib.hid h52
  have H41 := Lib.hid h41
  have HD := Lib.hid hD
  have H53 := Lib.hid h53
  clear hcut hlu h27 h52 h41 hD h53
  clear hA hL hnil l1 hm lb
  go_enter Try.func8, Try.ntmps8
  go_wp2_with (fail)
  refine (HCUT.out _ (Below.refl _ _)).mono ?_
  rintro e w1 ⟨va, rfl, hva, hb1⟩
  have b1 := below_at (Below.refl _ _) (Nat.le_refl _) hb1
  have ka_1 := HLU.out _ _ _ hva
  have kk := ka_1
  obtain ⟨A1, c1, hve, hq1', _, hA1⟩ := kk
  rw [HD.out] at hve hq1'
  subst hve
  obtain ⟨g, off, v, rfl, hg, hv0, hcv⟩ := hA1.at_ (i := 0) (by rw [HD.out]; omega)
  rw [Nat.add_zero] at hcv
  have hv1 : v = m := by
    have h1 := dig_getElem? b32_two hv0
    have h2 := dig_len_lt b32_two (n := m)
    rw [HD.out, Nat.pow_one] at h2
    rw [Nat.pow_zero, Nat.div_one, Nat.mod_eq_of_lt h2] at h1
    exact h1
  have hvt : ((v : Int) == 1) = false := by simp; omega
  clear hv0 hA1 hv1
  go_wp2_with (fail)
  refine (H27.out _ _ ka_1).mono ?_
  rintro e w2 ⟨rfl, rfl⟩
  go_wp2_with (fail)
  refine (H52.out _ _ ka_1).mono ?_
  rintro e w3 ⟨vs, rfl, hvs, hb3⟩
  have b3 := below_at b1 (Nat.le_refl _) hb3
  have ka_3 := ka_1.keep hb3
  have ks_3 := hvs.is
  go_wp2_with (fail)
  refine (lives_any _).mono ?_
  rintro e w4 ⟨rfl, hb4⟩
  have b4 := below_at b3 (Nat.le_refl _) hb4
  have ka_4 := ka_3.keep hb4
  have ks_4 := ks_3.keep hb4
  go_wp2_with (fail)
  refine (H53.out _ _ ka_4).mono ?_
  rintro e w5 ⟨vr, rfl, hvr, hb5⟩
  have b5 := below_at b4 (Nat.le_refl _) hb5
  have ks_5 := ks_4.keep hb5
  go_wp2_with (fail)
  refine (H41.out _ _ ks_5 _ hvr).mono ?_
  rintro e w6 ⟨rfl, hb6⟩
  have b6 := below_at b5 (Nat.le_refl _) hb6
  go_wp2
  go_ret
  exact ⟨rfl, b6⟩

set_option maxHeartbeats 2000000 in
set_option maxRecDepth 100000 in
theorem powers_single_mod0 (A : Option Addr) (c L : Nat) (n : Int) (xs : List Nat) (w : World) (hA : Nums .u32 w A xs) (hL : L = xs.length) (hc : L ≤ c) (hnil : A = none → c = 0) (m : Nat) (hm : xs.take 6 = dig B32 m) (hmm : 2 ≤ m) (hD1 : (dig B32 m).length = 1) (hn : 60 < n) (hn2 : n % 61 = 0) : Calls Try.prog 8 #[.slice A L c, .int .i64 n] w (LivesPost w) := by
  have hcut := fun w' (h : Below w.heap.size w w') => cut_any A c L 6 xs w' (hA.keep h) hL hc hnil (by omega)
  have l1 : (xs.take 6).length ≤ 6 := by rw [List.length_take]; omega
  rw [hm] at hcut l1
  have lb : nbits m ≤ 192 := Nat.le_trans (bits_of_len l1) (by omega)
  have hlu : ∀ B w' a, OwnLs B w' a (dig B32 m) → Limbs w' a (dig B32 m) := fun B w' a h => h.limbs (by omega)
  have h27 := fun a w h => refCheck_l a (dig B32 m) w h
  rw [chk_dig (by omega)] at h27
  have h52 : ∀ a w', Limbs w' a (dig B32 m) → Calls Try.prog 52 #[a, .int .i64 0] w' (NatOk w' 1) := fun a w' h => pow_ok a m 0 w' h.is (by omega) (by omega) (by omega)
  have h34 := fun w => refOf_any 1 (by decide) w
  have hl1 : (dig B32 1).length ≤ 2 := len_u64 (by decide)
  have h41 : ∀ (B : Nat) (a : Value) (w' : World), N32 w' a 1 → ∀ b, OwnLs B w' b (dig B32 1) → Calls Try.prog 41 #[a, .int .i64 0, b, .int .i64 0] w' (LivesPost w') := fun B a w' h b kk => is_ok a b 1 w' h (kk.limbs (by omega)) (by omega)
  obtain ⟨D, hD⟩ : ∃ D, (dig B32 m).length = D := ⟨_, rfl⟩
  rw [hD] at hD1
  subst hD1
  have q1 : n.tmod 61 = 0 := by rw [Int.tmod_eq_emod_of_nonneg (by omega)]; exact hn2
  have HCUT := Lib.hid hcut
  have HLU := Lib.hid hlu
  have H27 := Lib.hid h27
  have H52 := Lib.hid h52
  have H41 := Lib.hid h41
  have HD := Lib.hid hD
  have H34 := Lib.hid h34
  clear hcut hlu h27 h52 h41 hD h34
  clear hA hL hnil l1 hm lb hl1
  go_enter Try.func8, Try.ntmps8
  go_wp2_with (fail)
  refine (HCUT.out _ (Below.refl _ _)).mono ?_
  rintro e w1 ⟨va, rfl, hva, hb1⟩
  have b1 := below_at (Below.refl _ _) (Nat.le_refl _) hb1
  have ka_1 := HLU.out _ _ _ hva
  have kk := ka_1
  obtain ⟨A1, c1, hve, hq1', _, hA1⟩ := kk
  rw [HD.out] at hve hq1'
  subst hve
  obtain ⟨g, off, v, rfl, hg, hv0, hcv⟩ := hA1.at_ (i := 0) (by rw [HD.out]; omega)
  rw [Nat.add_zero] at hcv
  have hv1 : v = m := by
    have h1 := dig_getElem? b32_two hv0
    have h2 := dig_len_lt b32_two (n := m)
    rw [HD.out, Nat.pow_one] at h2
    rw [Nat.pow_zero, Nat.div_one, Nat.mod_eq_of_lt h2] at h1
    exact h1
  have hvt : ((v : Int) == 1) = false := by simp; omega
  clear hv0 hA1 hv1
  go_wp2_with (fail)
  refine (H27.out _ _ ka_1).mono ?_
  rintro e w2 ⟨rfl, rfl⟩
  go_wp2_with (fail)
  refine (H52.out _ _ ka_1).mono ?_
  rintro e w3 ⟨vs, rfl, hvs, hb3⟩
  have b3 := below_at b1 (Nat.le_refl _) hb3
  have ks_3 := hvs.is
  go_wp2_with (fail)
  refine (lives_any _).mono ?_
  rintro e w4 ⟨rfl, hb4⟩
  have b4 := below_at b3 (Nat.le_refl _) hb4
  have ks_4 := ks_3.keep hb4
  go_wp2_with (fail)
  refine (H34.out _).mono ?_
  rintro e w5 ⟨vr, rfl, hvr, hb5⟩
  have b5 := below_at b4 (Nat.le_refl _) hb5
  have ks_5 := ks_4.keep hb5
  go_wp2_with (fail)
  refine (H41.out _ _ _ ks_5 _ hvr).mono ?_
  rintro e w6 ⟨rfl, hb6⟩
  have b6 := below_at b5 (Nat.le_refl _) hb6
  go_wp2
  go_ret
  exact ⟨rfl, b6⟩

set_option maxHeartbeats 2000000 in
set_option maxRecDepth 100000 in
theorem powers_single_modpos (A : Option Addr) (c L : Nat) (n : Int) (xs : List Nat) (w : World) (hA : Nums .u32 w A xs) (hL : L = xs.length) (hc : L ≤ c) (hnil : A = none → c = 0) (m : Nat) (hm : xs.take 6 = dig B32 m) (hmm : 2 ≤ m) (hD1 : (dig B32 m).length = 1) (k : Nat) (hk0 : 0 < k) (hk : k ≤ 60) (hn : 60 < n) (hn2 : n % 61 = (k : Int)) : Calls Try.prog 8 #[.slice A L c, .int .i64 n] w (LivesPost w) := by
  have hcut := fun w' (h : Below w.heap.size w w') => cut_any A c L 6 xs w' (hA.keep h) hL hc hnil (by omega)
  have l1 : (xs.take 6).length ≤ 6 := by rw [List.length_take]; omega
  rw [hm] at hcut l1
  have lb : nbits m ≤ 192 := Nat.le_trans (bits_of_len l1) (by omega)
  have hlu : ∀ B w' a, OwnLs B w' a (dig B32 m) → Limbs w' a (dig B32 m) := fun B w' a h => h.limbs (by omega)
  have h27 := fun a w h => refCheck_l a (dig B32 m) w h
  rw [chk_dig (by omega)] at h27
  have hlp : ∀ j, j ≤ k → (dig B32 (m ^ j)).length ≤ 500 := fun j hj => by
    have h1 := nbits_pow_le m j
    have h2 := Nat.mul_le_mul (Nat.le_trans hj hk) lb
    exact len32_of_bits (Nat.le_trans h1 (by omega))
  have h52 := fun a w' (h : Limbs w' a (dig B32 m)) => pow_ok a m k w' h.is (by omega) (by omega) (by omega)
  have h53 := fun a w' (h : Limbs w' a (dig B32 m)) => refPow_any a m k w' h.is (by omega) (by omega) hlp
  have hlk := hlp k (Nat.le_refl _)
  have h41 := fun a w' (h : N32 w' a (m ^ k)) b (kk : N32 w' b (m ^ k)) => is_ok a b (m ^ k) w' h (Limbs.num kk (by omega)) (by omega)
  clear hlp hlk
  obtain ⟨D, hD⟩ : ∃ D, (dig B32 m).length = D := ⟨_, rfl⟩
  rw [hD] at hD1
  subst hD1
  have q1 : n.tmod 61 = (k : Int) := by rw [Int.tmod_eq_emod_of_nonneg (by omega)]; exact hn2
  have HCUT := Lib.hid hcut
  have HLU := Lib.hid hlu
  have H27 := Lib.hid h27
  have H52 := Lib.hid h52
  have H41 := Lib.hid h41
  have HD := Lib.hid hD
  have H53 := Lib.hid h53
  clear hcut hlu h27 h52 h41 hD h53
  clear hA hL hnil l1 hm lb
  go_enter Try.func8, Try.ntmps8
  go_wp2_with (fail)
  refine (HCUT.out _ (Below.refl _ _)).mono ?_
  rintro e w1 ⟨va, rfl, hva, hb1⟩
  have b1 := below_at (Below.refl _ _) (Nat.le_refl _) hb1
  have ka_1 := HLU.out _ _ _ hva
  have kk := ka_1
  obtain ⟨A1, c1, hve, hq1', _, hA1⟩ := kk
  rw [HD.out] at hve hq1'
  subst hve
  obtain ⟨g, off, v, rfl, hg, hv0, hcv⟩ := hA1.at_ (i := 0) (by rw [HD.out]; omega)
  rw [Nat.add_zero] at hcv
  have hv1 : v = m := by
    have h1 := dig_getElem? b32_two hv0
    have h2 := dig_len_lt b32_two (n := m)
    rw [HD.out, Nat.pow_one] at h2
    rw [Nat.pow_zero, Nat.div_one, Nat.mod_eq_of_lt h2] at h1
    exact h1
  have hvt : ((v : Int) == 1) = false := by simp; omega
  clear hv0 hA1 hv1
  go_wp2_with (fail)
  refine (H27.out _ _ ka_1).mono ?_
  rintro e w2 ⟨rfl, rfl⟩
  go_wp2_with (fail)
  refine (H52.out _ _ ka_1).mono ?_
  rintro e w3 ⟨vs, rfl, hvs, hb3⟩
  have b3 := below_at b1 (Nat.le_refl _) hb3
  have ka_3 := ka_1.keep hb3
  have ks_3 := hvs.is
  go_wp2_with (fail)
  refine (lives_any _).mono ?_
  rintro e w4 ⟨rfl, hb4⟩
  have b4 := below_at b3 (Nat.le_refl _) hb4
  have ka_4 := ka_3.keep hb4
  have ks_4 := ks_3.keep hb4
  go_wp2_with (fail)
  refine (H53.out _ _ ka_4).mono ?_
  rintro e w5 ⟨vr, rfl, hvr, hb5⟩
  have b5 := below_at b4 (Nat.le_refl _) hb5
  have ks_5 := ks_4.keep hb5
  go_wp2_with (fail)
  refine (H41.out _ _ ks_5 _ hvr).mono ?_
  rintro e w6 ⟨rfl, hb6⟩
  have b6 := below_at b5 (Nat.le_refl _) hb6
  go_wp2
  go_ret
  exact ⟨rfl, b6⟩

set_option maxHeartbeats 2000000 in
set_option maxRecDepth 100000 in
theorem powers_multi_neg (A : Option Addr) (c L : Nat) (n : Int) (xs : List Nat) (w : World) (hA : Nums .u32 w A xs) (hL : L = xs.length) (hc : L ≤ c) (hnil : A = none → c = 0) (m : Nat) (hm : xs.take 6 = dig B32 m) (hmm : 2 ≤ m) (hD2 : 2 ≤ (dig B32 m).length) (hn : n < 0) : Calls Try.prog 8 #[.slice A L c, .int .i64 n] w (LivesPost w) := by
  have hcut := fun w' (h : Below w.heap.size w w') => cut_any A c L 6 xs w' (hA.keep h) hL hc hnil (by omega)
  have l1 : (xs.take 6).length ≤ 6 := by rw [List.length_take]; omega
  rw [hm] at hcut l1
  have lb : nbits m ≤ 192 := Nat.le_trans (bits_of_len l1) (by omega)
  have hlu : ∀ B w' a, OwnLs B w' a (dig B32 m) → Limbs w' a (dig B32 m) := fun B w' a h => h.limbs (by omega)
  have h27 := fun a w h => refCheck_l a (dig B32 m) w h
  rw [chk_dig (by omega)] at h27
  have h52 := fun a w' (h : Limbs w' a (dig B32 m)) => pow_arg a m n w' h.is (by omega) hn
  have h41 := fun b w => is_err b 1 w (by omega)
  obtain ⟨D, hD⟩ : ∃ D, (dig B32 m).length = D := ⟨_, rfl⟩
  rw [hD] at hD2
  have hz0 : ((D : Int) == 0) = false := by simp; omega
  have hz1 : ((D : Int) == 1) = false := by simp; omega
  have HCUT := Lib.hid hcut
  have HLU := Lib.hid hlu
  have H27 := Lib.hid h27
  have H52 := Lib.hid h52
  have H41 := Lib.hid h41
  have HD := Lib.hid hD
  clear hcut hlu h27 h52 h41 hD
  clear hA hL hnil l1 hm lb
  go_enter Try.func8, Try.ntmps8
  go_wp2_with (fail)
  refine (HCUT.out _ (Below.refl _ _)).mono ?_
  rintro e w1 ⟨va, rfl, hva, hb1⟩
  have b1 := below_at (Below.refl _ _) (Nat.le_refl _) hb1
  have ka_1 := HLU.out _ _ _ hva
  have kk := ka_1
  obtain ⟨A1, c1, hve, hq1', _, hA1⟩ := kk
  rw [HD.out] at hve hq1'
  subst hve
  go_wp2_with (fail)
  refine (H27.out _ _ ka_1).mono ?_
  rintro e w2 ⟨rfl, rfl⟩
  go_wp2_with (fail)
  refine (H52.out _ _ ka_1).mono ?_
  rintro e w3 ⟨rfl, hb3⟩
  have b3 := below_at b1 (Nat.le_refl _) hb3
  have ka_3 := ka_1.keep hb3
  go_wp2_with (fail)
  refine (lives_any _).mono ?_
  rintro e w4 ⟨rfl, hb4⟩
  have b4 := below_at b3 (Nat.le_refl _) hb4
  have ka_4 := ka_3.keep hb4
  go_wp2_with (fail)
  refine (H41.out _ _).mono ?_
  rintro e w5 ⟨rfl, hb5⟩
  have b5 := below_at b4 (Nat.le_refl _) hb5
  have ka_5 := ka_4.keep hb5
  go_wp2
  go_ret
  exact ⟨rfl, b5⟩

set_option maxHeartbeats 2000000 in
set_option maxRecDepth 100000 in
theorem powers_multi_0 (A : Option Addr) (c L : Nat) (n : Int) (xs : List Nat) (w : World) (hA : Nums .u32 w A xs) (hL : L = xs.length) (hc : L ≤ c) (hnil : A = none → c = 0) (m : Nat) (hm : xs.take 6 = dig B32 m) (hmm : 2 ≤ m) (hD2 : 2 ≤ (dig B32 m).length) (hn : n = 0) : Calls Try.prog 8 #[.slice A L c, .int .i64 n] w (LivesPost w) := by
  have hcut := fun w' (h : Below w.heap.size w w') => cut_any A c L 6 xs w' (hA.keep h) hL hc hnil (by omega)
  have l1 : (xs.take 6).length ≤ 6 := by rw [List.length_take]; omega
  rw [hm] at hcut l1
  have lb : nbits m ≤ 192 := Nat.le_trans (bits_of_len l1) (by omega)
  have hlu : ∀ B w' a, OwnLs B w' a (dig B32 m) → Limbs w' a (dig B32 m) := fun B w' a h => h.limbs (by omega)
  have h27 := fun a w h => refCheck_l a (dig B32 m) w h
  rw [chk_dig (by omega)] at h27
  have h52 : ∀ a w', Limbs w' a (dig B32 m) → Calls Try.prog 52 #[a, .int .i64 0] w' (NatOk w' 1) := fun a w' h => pow_ok a m 0 w' h.is (by omega) (by omega) (by omega)
  have h34 := fun w => refOf_any 1 (by decide) w
  have hl1 : (dig B32 1).length ≤ 2 := len_u64 (by decide)
  have h41 : ∀ (B : Nat) (a : Value) (w' : World), N32 w' a 1 → ∀ b, OwnLs B w' b (dig B32 1) → Calls Try.prog 41 #[a, .int .i64 0, b, .int .i64 0] w' (LivesPost w') := fun B a w' h b kk => is_ok a b 1 w' h (kk.limbs (by omega)) (by omega)
  obtain ⟨D, hD⟩ : ∃ D, (dig B32 m).length = D := ⟨_, rfl⟩
  rw [hD] at hD2
  have hz0 : ((D : Int) == 0) = false := by simp; omega
  have hz1 : ((D : Int) == 1) = false := by simp; omega
  subst hn
  have HCUT := Lib.hid hcut
  have HLU := Lib.hid hlu
  have H27 := Lib.hid h27
  have H52 := Lib.hid h52
  have H41 := Lib.hid h41
  have HD := Lib.hid hD
  have H34 := Lib.hid h34
  clear hcut hlu h27 h52 h41 hD h34
  clear hA hL hnil l1 hm lb hl1
  go_enter Try.func8, Try.ntmps8
  go_wp2_with (fail)
  refine (HCUT.out _ (Below.refl _ _)).mono ?_
  rintro e w1 ⟨va, rfl, hva, hb1⟩
  have b1 := below_at (Below.refl _ _) (Nat.le_refl _) hb1
  have ka_1 := HLU.out _ _ _ hva
  have kk := ka_1
  obtain ⟨A1, c1, hve, hq1', _, hA1⟩ := kk
  rw [HD.out] at hve hq1'
  subst hve
  go_wp2_with (fail)
  refine (H27.out _ _ ka_1).mono ?_
  rintro e w2 ⟨rfl, rfl⟩
  go_wp2_with (fail)
  refine (H52.out _ _ ka_1).mono ?_
  rintro e w3 ⟨vs, rfl, hvs, hb3⟩
  have b3 := below_at b1 (Nat.le_refl _) hb3
  have ks_3 := hvs.is
  go_wp2_with (fail)
  refine (lives_any _).mono ?_
  rintro e w4 ⟨rfl, hb4⟩
  have b4 := below_at b3 (Nat.le_refl _) hb4
  have ks_4 := ks_3.keep hb4
  go_wp2_with (fail)
  refine (H34.out _).mono ?_
  rintro e w5 ⟨vr, rfl, hvr, hb5⟩
  have b5 := below_at b4 (Nat.le_refl _) hb5
  have ks_5 := ks_4.keep hb5
  go_wp2_with (fail)
  refine (H41.out _ _ _ ks_5 _ hvr).mono ?_
  rintro e w6 ⟨rfl, hb6⟩
  have b6 := below_at b5 (Nat.le_refl _) hb6
  go_wp2
  go_ret
  exact ⟨rfl, b6⟩

set_option maxHeartbeats 2000000 in
set_option maxRecDepth 100000 in
theorem powers_multi_pos (A : Option Addr) (c L : Nat) (n : Int) (xs : List Nat) (w : World) (hA : Nums .u32 w A xs) (hL : L = xs.length) (hc : L ≤ c) (hnil : A = none → c = 0) (m : Nat) (hm : xs.take 6 = dig B32 m) (hmm : 2 ≤ m) (hD2 : 2 ≤ (dig B32 m).length) (k : Nat) (hk0 : 0 < k) (hk : k ≤ 60) (hn : n = (k : Int)) : Calls Try.prog 8 #[.slice A L c, .int .i64 n] w (LivesPost w) := by
  have hcut := fun w' (h : Below w.heap.size w w') => cut_any A c L 6 xs w' (hA.keep h) hL hc hnil (by omega)
  have l1 : (xs.take 6).length ≤ 6 := by rw [List.length_take]; omega
  rw [hm] at hcut l1
  have lb : nbits m ≤ 192 := Nat.le_trans (bits_of_len l1) (by omega)
  have hlu : ∀ B w' a, OwnLs B w' a (dig B32 m) → Limbs w' a (dig B32 m) := fun B w' a h => h.limbs (by omega)
  have h27 := fun a w h => refCheck_l a (dig B32 m) w h
  rw [chk_dig (by omega)] at h27
  have hlp : ∀ j, j ≤ k → (dig B32 (m ^ j)).length ≤ 500 := fun j hj => by
    have h1 := nbits_pow_le m j
    have h2 := Nat.mul_le_mul (Nat.le_trans hj hk) lb
    exact len32_of_bits (Nat.le_trans h1 (by omega))
  have h52 := fun a w' (h : Limbs w' a (dig B32 m)) => pow_ok a m k w' h.is (by omega) (by omega) (by omega)
  have h53 := fun a w' (h : Limbs w' a (dig B32 m)) => refPow_any a m k w' h.is (by omega) (by omega) hlp
  have hlk := hlp k (Nat.le_refl _)
  have h41 := fun a w' (h : N32 w' a (m ^ k)) b (kk : N32 w' b (m ^ k)) => is_ok a b (m ^ k) w' h (Limbs.num kk (by omega)) (by omega)
  clear hlp hlk
  obtain ⟨D, hD⟩ : ∃ D, (dig B32 m).length = D := ⟨_, rfl⟩
  rw [hD] at hD2
  have hz0 : ((D : Int) == 0) = false := by simp; omega
  have hz1 : ((D : Int) == 1) = false := by simp; omega
  subst hn
  have HCUT := Lib.hid hcut
  have HLU := Lib.hid hlu
  have H27 := Lib.hid h27
  have H52 := Lib.hid h52
  have H41 := Lib.hid h41
  have HD := Lib.hid hD
  have H53 := Lib.hid h53
  clear hcut hlu h27 h52 h41 hD h53
  clear hA hL hnil l1 hm lb
  go_enter Try.func8, Try.ntmps8
  go_wp2_with (fail)
  refine (HCUT.out _ (Below.refl _ _)).mono ?_
  rintro e w1 ⟨va, rfl, hva, hb1⟩
  have b1 := below_at (Below.refl _ _) (Nat.le_refl _) hb1
  have ka_1 := HLU.out _ _ _ hva
  have kk := ka_1
  obtain ⟨A1, c1, hve, hq1', _, hA1⟩ := kk
  rw [HD.out] at hve hq1'
  subst hve
  go_wp2_with (fail)
  refine (H27.out _ _ ka_1).mono ?_
  rintro e w2 ⟨rfl, rfl⟩
  go_wp2_with (fail)
  refine (H52.out _ _ ka_1).mono ?_
  rintro e w3 ⟨vs, rfl, hvs, hb3⟩
  have b3 := below_at b1 (Nat.le_refl _) hb3
  have ka_3 := ka_1.keep hb3
  have ks_3 := hvs.is
  go_wp2_with (fail)
  refine (lives_any _).mono ?_
  rintro e w4 ⟨rfl, hb4⟩
  have b4 := below_at b3 (Nat.le_refl _) hb4
  have ka_4 := ka_3.keep hb4
  have ks_4 := ks_3.keep hb4
  go_wp2_with (fail)
  refine (H53.out _ _ ka_4).mono ?_
  rintro e w5 ⟨vr, rfl, hvr, hb5⟩
  have b5 := below_at b4 (Nat.le_refl _) hb5
  have ks_5 := ks_4.keep hb5
  go_wp2_with (fail)
  refine (H41.out _ _ ks_5 _ hvr).mono ?_
  rintro e w6 ⟨rfl, hb6⟩
  have b6 := below_at b5 (Nat.le_refl _) hb6
  go_wp2
  go_ret
  exact ⟨rfl, b6⟩

set_option maxHeartbeats 2000000 in
set_option maxRecDepth 100000 in
theorem powers_multi_mod0 (A : Option Addr) (c L : Nat) (n : Int) (xs : List Nat) (w : World) (hA : Nums .u32 w A xs) (hL : L = xs.length) (hc : L ≤ c) (hnil : A = none → c = 0) (m : Nat) (hm : xs.take 6 = dig B32 m) (hmm : 2 ≤ m) (hD2 : 2 ≤ (dig B32 m).length) (hn : 60 < n) (hn2 : n % 61 = 0) : Calls Try.prog 8 #[.slice A L c, .int .i64 n] w (LivesPost w) := by
  have hcut := fun w' (h : Below w.heap.size w w') => cut_any A c L 6 xs w' (hA.keep h) hL hc hnil (by omega)
  have l1 : (xs.take 6).length ≤ 6 := by rw [List.length_take]; omega
  rw [hm] at hcut l1
  have lb : nbits m ≤ 192 := Nat.le_trans (bits_of_len l1) (by omega)
  have hlu : ∀ B w' a, OwnLs B w' a (dig B32 m) → Limbs w' a (dig B32 m) := fun B w' a h => h.limbs (by omega)
  have h27 := fun a w h => refCheck_l a (dig B32 m) w h
  rw [chk_dig (by omega)] at h27
  have h52 : ∀ a w', Limbs w' a (dig B32 m) → Calls Try.prog 52 #[a, .int .i64 0] w' (NatOk w' 1) := fun a w' h => pow_ok a m 0 w' h.is (by omega) (by omega) (by omega)
  have h34 := fun w => refOf_any 1 (by decide) w
  have hl1 : (dig B32 1).length ≤ 2 := len_u64 (by decide)
  have h41 : ∀ (B : Nat) (a : Value) (w' : World), N32 w' a 1 → ∀ b, OwnLs B w' b (dig B32 1) → Calls Try.prog 41 #[a, .int .i64 0, b, .int .i64 0] w' (LivesPost w') := fun B a w' h b kk => is_ok a b 1 w' h (kk.limbs (by omega)) (by omega)
  obtain ⟨D, hD⟩ : ∃ D, (dig B32 m).length = D := ⟨_, rfl⟩
  rw [hD] at hD2
  have hz0 : ((D : Int) == 0) = false := by simp; omega
  have hz1 : ((D : Int) == 1) = false := by simp; omega
  have q1 : n.tmod 61 = 0 := by rw [Int.tmod_eq_emod_of_nonneg (by omega)]; exact hn2
  have HCUT := Lib.hid hcut
  have HLU := Lib.hid hlu
  have H27 := Lib.hid h27
  have H52 := Lib.hid h52
  have H41 := Lib.hid h41
  have HD := Lib.hid hD
  have H34 := Lib.hid h34
  clear hcut hlu h27 h52 h41 hD h34
  clear hA hL hnil l1 hm lb hl1
  go_enter Try.func8, Try.ntmps8
  go_wp2_with (fail)
  refine (HCUT.out _ (Below.refl _ _)).mono ?_
  rintro e w1 ⟨va, rfl, hva, hb1⟩
  have b1 := below_at (Below.refl _ _) (Nat.le_refl _) hb1
  have ka_1 := HLU.out _ _ _ hva
  have kk := ka_1
  obtain ⟨A1, c1, hve, hq1', _, hA1⟩ := kk
  rw [HD.out] at hve hq1'
  subst hve
  go_wp2_with (fail)
  refine (H27.out _ _ ka_1).mono ?_
  rintro e w2 ⟨rfl, rfl⟩
  go_wp2_with (fail)
  refine (H52.out _ _ ka_1).mono ?_
  rintro e w3 ⟨vs, rfl, hvs, hb3⟩
  have b3 := below_at b1 (Nat.le_refl _) hb3
  have ks_3 := hvs.is
  go_wp2_with (fail)
  refine (lives_any _).mono ?_
  rintro e w4 ⟨rfl, hb4⟩
  have b4 := below_at b3 (Nat.le_refl _) hb4
  have ks_4 := ks_3.keep hb4
  go_wp2_with (fail)
  refine (H34.out _).mono ?_
  rintro e w5 ⟨vr, rfl, hvr, hb5⟩
  have b5 := below_at b4 (Nat.le_refl _) hb5
  have ks_5 := ks_4.keep hb5
  go_wp2_with (fail)
  refine (H41.out _ _ _ ks_5 _ hvr).mono ?_
  rintro e w6 ⟨rfl, hb6⟩
  have b6 := below_at b5 (Nat.le_refl _) hb6
  go_wp2
  go_ret
  exact ⟨rfl, b6⟩

set_option maxHeartbeats 2000000 in
set_option maxRecDepth 100000 in
theorem powers_multi_modpos (A : Option Addr) (c L : Nat) (n : Int) (xs : List Nat) (w : World) (hA : Nums .u32 w A xs) (hL : L = xs.length) (hc : L ≤ c) (hnil : A = none → c = 0) (m : Nat) (hm : xs.take 6 = dig B32 m) (hmm : 2 ≤ m) (hD2 : 2 ≤ (dig B32 m).length) (k : Nat) (hk0 : 0 < k) (hk : k ≤ 60) (hn : 60 < n) (hn2 : n % 61 = (k : Int)) : Calls Try.prog 8 #[.slice A L c, .int .i64 n] w (LivesPost w) := by
  have hcut := fun w' (h : Below w.heap.size w w') => cut_any A c L 6 xs w' (hA.keep h) hL hc hnil (by omega)
  have l1 : (xs.take 6).length ≤ 6 := by rw [List.length_take]; omega
  rw [hm] at hcut l1
  have lb : nbits m ≤ 192 := Nat.le_trans (bits_of_len l1) (by omega)
  have hlu : ∀ B w' a, OwnLs B w' a (dig B32 m) → Limbs w' a (dig B32 m) := fun B w' a h => h.limbs (by omega)
  have h27 := fun a w h => refCheck_l a (dig B32 m) w h
  rw [chk_dig (by omega)] at h27
  have hlp : ∀ j, j ≤ k → (dig B32 (m ^ j)).length ≤ 500 := fun j hj => by
    have h1 := nbits_pow_le m j
    have h2 := Nat.mul_le_mul (Nat.le_trans hj hk) lb
    exact len32_of_bits (Nat.le_trans h1 (by omega))
  have h52 := fun a w' (h : Limbs w' a (dig B32 m)) => pow_ok a m k w' h.is (by omega) (by omega) (by omega)
  have h53 := fun a w' (h : Limbs w' a (dig B32 m)) => refPow_any a m k w' h.is (by omega) (by omega) hlp
  have hlk := hlp k (Nat.le_refl _)
  have h41 := fun a w' (h : N32 w' a (m ^ k)) b (kk : N32 w' b (m ^ k)) => is_ok a b (m ^ k) w' h (Limbs.num kk (by omega)) (by omega)
  clear hlp hlk
  obtain ⟨D, hD⟩ : ∃ D, (dig B32 m).length = D := ⟨_, rfl⟩
  rw [hD] at hD2
  have hz0 : ((D : Int) == 0) = false := by simp; omega
  have hz1 : ((D : Int) == 1) = false := by simp; omega
  have q1 : n.tmod 61 = (k : Int) := by rw [Int.tmod_eq_emod_of_nonneg (by omega)]; exact hn2
  have HCUT := Lib.hid hcut
  have HLU := Lib.hid hlu
  have H27 := Lib.hid h27
  have H52 := Lib.hid h52
  have H41 := Lib.hid h41
  have HD := Lib.hid hD
  have H53 := Lib.hid h53
  clear hcut hlu h27 h52 h41 hD h53
  clear hA hL hnil l1 hm lb
  go_enter Try.func8, Try.ntmps8
  go_wp2_with (fail)
  refine (HCUT.out _ (Below.refl _ _)).mono ?_
  rintro e w1 ⟨va, rfl, hva, hb1⟩
  have b1 := below_at (Below.refl _ _) (Nat.le_refl _) hb1
  have ka_1 := HLU.out _ _ _ hva
  have kk := ka_1
  obtain ⟨A1, c1, hve, hq1', _, hA1⟩ := kk
  rw [HD.out] at hve hq1'
  subst hve
  go_wp2_with (fail)
  refine (H27.out _ _ ka_1).mono ?_
  rintro e w2 ⟨rfl, rfl⟩
  go_wp2_with (fail)
  refine (H52.out _ _ ka_1).mono ?_
  rintro e w3 ⟨vs, rfl, hvs, hb3⟩
  have b3 := below_at b1 (Nat.le_refl _) hb3
  have ka_3 := ka_1.keep hb3
  have ks_3 := hvs.is
  go_wp2_with (fail)
  refine (lives_any _).mono ?_
  rintro e w4 ⟨rfl, hb4⟩
  have b4 := below_at b3 (Nat.le_refl _) hb4
  have ka_4 := ka_3.keep hb4
  have ks_4 := ks_3.keep hb4
  go_wp2_with (fail)
  refine (H53.out _ _ ka_4).mono ?_
  rintro e w5 ⟨vr, rfl, hvr, hb5⟩
  have b5 := below_at b4 (Nat.le_refl _) hb5
  have ks_5 := ks_4.keep hb5
  go_wp2_with (fail)
  refine (H41.out _ _ ks_5 _ hvr).mono ?_
  rintro e w6 ⟨rfl, hb6⟩
  have b6 := below_at b5 (Nat.le_refl _) hb6
  go_wp2
  go_ret
  exact ⟨rfl, b6⟩

/-- The law NatPowers, for whatever limbs and whatever exponent. -/
theorem powers_walk (A : Option Addr) (c L : Nat) (n : Int) (xs : List Nat) (w : World) (hA : Nums .u32 w A xs) (hL : L = xs.length) (hc : L ≤ c) (hnil : A = none → c = 0) (hlow : Low B32 xs) (hi : n < 9223372036854775808) : Calls Try.prog 8 #[.slice A L c, .int .i64 n] w (LivesPost w) := by
  by_cases hb : chk (xs.take 6) = 0
  · have hm := chk_zero (hlow.take 6) hb
    generalize val B32 (xs.take 6) = m at hm
    rcases Nat.lt_or_ge m 2 with h2 | h2
    · rcases Int.lt_trichotomy n 0 with h | h | h
      · rcases Nat.eq_zero_or_pos m with h0 | h0
        · exact powers_zero_neg A c L n xs w hA hL hc hnil m hm h0 h
        · exact powers_one_neg A c L n xs w hA hL hc hnil m hm (by omega) h
      · rcases Nat.eq_zero_or_pos m with h0 | h0
        · exact powers_zero_0 A c L n xs w hA hL hc hnil m hm h0 h
        · exact powers_one_0 A c L n xs w hA hL hc hnil m hm (by omega) h
      · rcases Nat.eq_zero_or_pos m with h0 | h0
        · rcases Int.lt_or_le 60 n with h3 | h3
          · exact powers_zero_big A c L n xs w hA hL hc hnil m hm h0 n.toNat (by omega) (by omega) (by omega) (by omega)
          · exact powers_zero_pos A c L n xs w hA hL hc hnil m hm h0 n.toNat (by omega) (by omega) (by omega) (by omega)
        · rcases Int.lt_or_le 60 n with h3 | h3
          · exact powers_one_big A c L n xs w hA hL hc hnil m hm (by omega) n.toNat (by omega) (by omega) (by omega) (by omega)
          · exact powers_one_pos A c L n xs w hA hL hc hnil m hm (by omega) n.toNat (by omega) (by omega) (by omega) (by omega)
    · have hlen : 1 ≤ (dig B32 m).length := by
        rcases Nat.eq_zero_or_pos (dig B32 m).length with h0 | h0
        · have := (dig_nil_iff b32_two).1 (List.eq_nil_of_length_eq_zero h0); omega
        · exact h0
      rcases Nat.lt_or_ge (dig B32 m).length 2 with h1 | h1
      · have h1' : (dig B32 m).length = 1 := by omega
        rcases Int.lt_trichotomy n 0 with h | h | h
        · exact powers_single_neg A c L n xs w hA hL hc hnil m hm h2 h1' h
        · exact powers_single_0 A c L n xs w hA hL hc hnil m hm h2 h1' h
        · rcases Int.lt_or_le 60 n with h3 | h3
          · by_cases h4 : n % 61 = 0
            · exact powers_single_mod0 A c L n xs w hA hL hc hnil m hm h2 h1' h3 h4
            · exact powers_single_modpos A c L n xs w hA hL hc hnil m hm h2 h1' (n % 61).toNat (by omega) (by omega) h3 (by omega)
          · exact powers_single_pos A c L n xs w hA hL hc hnil m hm h2 h1' n.toNat (by omega) (by omega) (by omega)
      · rcases Int.lt_trichotomy n 0 with h | h | h
        · exact powers_multi_neg A c L n xs w hA hL hc hnil m hm h2 h1 h
        · exact powers_multi_0 A c L n xs w hA hL hc hnil m hm h2 h1 h
        · rcases Int.lt_or_le 60 n with h3 | h3
          · by_cases h4 : n % 61 = 0
            · exact powers_multi_mod0 A c L n xs w hA hL hc hnil m hm h2 h1 h3 h4
            · exact powers_multi_modpos A c L n xs w hA hL hc hnil m hm h2 h1 (n % 61).toNat (by omega) (by omega) h3 (by omega)
          · exact powers_multi_pos A c L n xs w hA hL hc hnil m hm h2 h1 n.toNat (by omega) (by omega) (by omega)
  · have hne : 0 < (xs.take 6).length := by
      rcases Nat.eq_zero_or_pos (xs.take 6).length with h0 | h0
      · exfalso; apply hb; unfold chk; rw [if_neg (by omega), if_neg (by omega)]
      · exact h0
    have hl6 : (xs.take 6).length ≤ 6 := by rw [List.length_take]; omega
    rcases Nat.lt_or_ge (xs.take 6).length 2 with h1 | h1
    · have h1' : (xs.take 6).length = 1 := by omega
      have h00 : (xs.take 6)[0]? = some 0 := by
        rw [List.getElem?_eq_getElem hne]
        congr 1
        apply Classical.byContradiction
        intro h3
        apply hb
        unfold chk
        rw [if_neg (by omega), if_neg]
        rintro ⟨_, h4⟩
        rw [h1', List.getD_eq_getElem?_getD, List.getElem?_eq_getElem (by omega)] at h4
        exact h3 h4
      rcases Int.lt_or_le 60 n with h3 | h3
      · exact powers_bad_single_gt A c L n xs w hA hL hc hnil hb h1' h00 h3
      · exact powers_bad_single_le A c L n xs w hA hL hc hnil hb h1' h00 h3
    · rcases Int.lt_or_le 60 n with h3 | h3
      · exact powers_bad_multi_gt A c L n xs w hA hL hc hnil hb h1 h3
      · exact powers_bad_multi_le A c L n xs w hA hL hc hnil hb h1 h3
end Go.Proofs.Ytaegkhdkhgemmaa

namespace Go.Proofs.Ytaegkhdkhgemmaa
open Go.RowKit Num

theorem bit_eq {m i x : Nat} (hx : x = m / B32 ^ (i / 32) % B32) : x / 2 ^ (i % 32) % 2 = m / 2 ^ i % 2 := by
  have e1 : B32 ^ (i / 32) = 2 ^ (32 * (i / 32)) := by rw [Nat.pow_mul]; rfl
  have hs : i % 32 < 32 := Nat.mod_lt _ (by omega)
  have e2 : B32 = 2 ^ (i % 32) * 2 ^ (32 - i % 32) := by rw [← Nat.pow_add, show i % 32 + (32 - i % 32) = 32 by omega]; rfl
  have e3 : 2 ^ (32 - i % 32) = 2 * 2 ^ (31 - i % 32) := by rw [← Nat.pow_succ']; congr 1; omega
  rw [hx, e1, e2, Nat.mod_mul_right_div_self, e3, Nat.mod_mul_right_mod, Nat.div_div_eq_div_mul, ← Nat.pow_add, show 32 * (i / 32) + i % 32 = i by omega]

/-- Halved so often. -/
def HalfIs (v x k : Nat) : Prop := v = x / 2 ^ k
theorem HalfIs.step {v x k : Nat} (h : HalfIs v x k) : HalfIs (v / 2) x (k + 1) := by
  unfold HalfIs at *; rw [h, Nat.div_div_eq_div_mul, ← Nat.pow_succ]

set_option maxHeartbeats 2000000 in
set_option maxRecDepth 100000 in
theorem refBit_any (A : Option Addr) (c L i m : Nat) (w : World) (hA : Nums .u32 w A (dig B32 m)) (hL : L = (dig B32 m).length) (hl : L ≤ 1000000) (hi : i / 32 < L) :
    Calls Try.prog 90 #[.slice A L c, .int .i64 (i : Int)] w fun e w' => e = .returned (.int .u32 ((m / 2 ^ i % 2 : Nat) : Int)) ∧ w = w' := by
  obtain ⟨g, off, x, rfl, hg, hxv, hcx⟩ := hA.at_ (i := i / 32) (by omega)
  have hb := bit_eq (dig_getElem? b32_two hxv)
  obtain ⟨r, hr⟩ : ∃ r, m / 2 ^ i % 2 = r := ⟨_, rfl⟩
  rw [hr] at hb ⊢
  have hxl : x < B32 := low_dig b32_two m x (List.mem_of_getElem? hxv)
  obtain ⟨q, s, hq, hs, hs32⟩ : ∃ q s, i / 32 = q ∧ i % 32 = s ∧ s < 32 := ⟨_, _, rfl, rfl, Nat.mod_lt _ (by omega)⟩
  rw [hq] at hcx hi
  rw [hs] at hb
  have e1 : (i : Int) / 32 = (q : Int) := by omega
  have e2 : (i : Int) % 32 = (s : Int) := by omega
  have e3 : (i : Int).tdiv 32 = (q : Int) := by rw [Int.tdiv_eq_ediv_of_nonneg (by omega)]; exact e1
  have e4 : (i : Int).tmod 32 = (s : Int) := by rw [Int.tmod_eq_emod_of_nonneg (by omega)]; exact e2
  have HB := Lib.hid hb
  have hi0 : 0 ≤ (i : Int) := by omega
  have hib : i ≤ 32 * 1000000 := by omega
  generalize hI : (i : Int) = I at *
  have hI2 : I ≤ 32000000 := by omega
  clear hb hr hA hq hs hL hxv hI hib
  go_enter Try.func90, Try.ntmps90
  go_wp2
  go_loop [5, 6] (fun a t => ∃ k v : Nat, k ≤ s ∧ t = .int .i64 (k : Int) ∧ a = .int .u32 (v : Int) ∧ v < B32 ∧ HalfIs v x k) (fun _ t => s - (intOf t).toNat)
  case atStart => exact ⟨0, x, Nat.zero_le _, rfl, rfl, hxl, by unfold HalfIs; simp⟩
  case round =>
    obtain ⟨k, v, hk, rfl, rfl, hvl, hh⟩ := hrel
    by_cases hlt : k < s
    · have hst := hh.step
      obtain ⟨u, hu⟩ : ∃ u, v / 2 = u := ⟨_, rfl⟩
      rw [hu] at hst
      have w1 : (v : Int) / 2 = (u : Int) := by omega
      have w2 : (v : Int).tdiv 2 = (u : Int) := by rw [Int.tdiv_eq_ediv_of_nonneg (by omega)]; exact w1
      have w3 : IntKind.u32.wrap (u : Int) = (u : Int) := by unfold B32 at hvl; rw [IntKind.wrap_u32']; omega
      have hul : u < B32 := by omega
      have HST := Lib.hid hst
      clear hst hh hu
      go_wp2
      go_round
      case rel => exact ⟨k + 1, u, by omega, by go_num, rfl, hul, HST.out⟩
      case measure => simp [intOf]; omega
    · obtain rfl : k = s := by omega
      have he : v % 2 = r := by rw [hh]; exact HB.out
      have w1 : (v : Int) % 2 = (r : Int) := by omega
      have w2 : (v : Int).tmod 2 = (r : Int) := by rw [Int.tmod_eq_emod_of_nonneg (by omega)]; exact w1
      have w3 : IntKind.u32.wrap (r : Int) = (r : Int) := by rw [IntKind.wrap_u32']; omega
      clear hh hlt he
      go_wp2
      go_ret
      exact ⟨rfl, rfl⟩
theorem refBit_call (a : Value) (m i : Nat) (w : World) (ha : N32 w a m) (hl : (dig B32 m).length ≤ 1000000) (hi : i < nbits m) :
    Calls Try.prog 90 #[a, .int .i64 (i : Int)] w fun e w' => e = .returned (.int .u32 ((m / 2 ^ i % 2 : Nat) : Int)) ∧ w = w' := by
  obtain ⟨A, c, rfl, _, hA⟩ := ha
  refine refBit_any A c _ i m w hA rfl hl ?_
  have : nbits m ≤ 32 * (dig B32 m).length := nbits_le (by
    have h1 := dig_len_lt b32_two (n := m)
    have e : B32 ^ (dig B32 m).length = 2 ^ (32 * (dig B32 m).length) := by rw [Nat.pow_mul]; rfl
    omega)
  omega

/-- The bits from k on are divided. -/
structure RefDivSt (m n L k : Nat) (zs : List Nat) (r : Nat) : Prop where
  len : zs.length = L
  low : Low B32 zs
  lt : r < n
  rem : m / 2 ^ k % n = r
  quo : val B32 zs = m / 2 ^ k / n * 2 ^ k
theorem RefDivSt.start {m n L : Nat} (hn : 0 < n) : RefDivSt m n L (nbits m) (List.replicate L 0) 0 := by
  have h : m / 2 ^ nbits m = 0 := Nat.div_eq_of_lt (nbits_lt m)
  exact ⟨by simp, Low.replicate b32_pos _, hn, by rw [h]; simp, by rw [h, val_replicate]; simp⟩
theorem same_rest32 {T P a c : Nat} (h3 : T < P) (hP : 0 < P) (h : T + P * a = P * c) : a = c := by
  have h1 := congrArg (· / P) h
  simp only [Nat.add_mul_div_left _ _ hP, Nat.div_eq_of_lt h3, Nat.mul_div_cancel_left _ hP, Nat.zero_add] at h1
  exact h1
theorem RefDivSt.digit {m n L i z r : Nat} {zs : List Nat} (h : RefDivSt m n L (i + 1) zs r) (hz : zs[i / 32]? = some z) : z + 2 ^ (i % 32) < B32 := by
  have hs : i % 32 < 32 := Nat.mod_lt _ (by omega)
  have hl := h.low z (List.mem_of_getElem? hz)
  have hi : i / 32 < zs.length := (List.getElem?_eq_some_iff.1 hz).1
  have e1 := val_take_drop B32 zs (i / 32) (by omega)
  have e2 : zs.drop (i / 32) = z :: zs.drop (i / 32 + 1) := by rw [List.drop_eq_getElem_cons hi, (List.getElem?_eq_some_iff.1 hz).2]
  have e3 := val_lt B32 _ (h.low.take (i / 32))
  rw [List.length_take, Nat.min_eq_left (by omega)] at e3
  have e4 : B32 ^ (i / 32) = 2 ^ (32 * (i / 32)) := by rw [Nat.pow_mul]; rfl
  have hq := h.quo
  rw [e1, e2] at hq
  generalize m / 2 ^ (i + 1) / n = Q at hq
  have hp : 2 ^ (i + 1) = B32 ^ (i / 32) * (2 ^ (i % 32) * 2) := by rw [e4, ← Nat.pow_succ, ← Nat.pow_add]; congr 1; omega
  rw [hp] at hq
  clear h
  generalize val B32 (zs.take (i / 32)) = T at *
  have e5 : val B32 (z :: zs.drop (i / 32 + 1)) = z + B32 * val B32 (zs.drop (i / 32 + 1)) := rfl
  rw [e5] at hq
  generalize val B32 (zs.drop (i / 32 + 1)) = R at *
  have hP : 0 < B32 ^ (i / 32) := Nat.pow_pos b32_pos
  generalize B32 ^ (i / 32) = P at *
  have e6 : T + P * (z + B32 * R) = P * (Q * (2 ^ (i % 32) * 2)) := by rw [hq]; grind
  have e7 : z + B32 * R = Q * (2 ^ (i % 32) * 2) := by
    have := same_rest32 e3 hP e6
    exact this
  have hB : B32 = 2 ^ (i % 32) * 2 * 2 ^ (31 - i % 32) := by rw [← Nat.pow_succ, ← Nat.pow_add, show i % 32 + 1 + (31 - i % 32) = 32 by omega]; rfl
  have hpp : 0 < 2 ^ (i % 32) := Nat.two_pow_pos _
  generalize 2 ^ (i % 32) = p at *
  generalize 2 ^ (31 - i % 32) = u at *
  have e8 : z = (p * 2) * (Q - u * R) := by
    rw [Nat.mul_sub]
    have : p * 2 * (u * R) = B32 * R := by rw [hB]; grind
    have : p * 2 * Q = Q * (p * 2) := Nat.mul_comm _ _
    omega
  have e9 : Q - u * R < u := by
    refine Nat.lt_of_mul_lt_mul_left (a := p * 2) ?_
    rw [← e8, ← hB]; exact hl
  have e10 := Nat.mul_le_mul_left (p * 2) (show Q - u * R + 1 ≤ u from e9)
  rw [Nat.mul_add, ← e8, ← hB] at e10
  omega
theorem RefDivSt.next {m n L i r : Nat} {zs : List Nat} (h : RefDivSt m n L (i + 1) zs r) : m / 2 ^ i = (m / 2 ^ (i + 1) / n * 2) * n + (r * 2 + m / 2 ^ i % 2) := by
  have e1 := Nat.div_add_mod (m / 2 ^ i) 2
  have e2 : m / 2 ^ i / 2 = m / 2 ^ (i + 1) := by rw [Nat.div_div_eq_div_mul, ← Nat.pow_succ]
  have e3 := Nat.div_add_mod (m / 2 ^ (i + 1)) n
  rw [h.rem] at e3
  rw [e2, ← e3] at e1
  generalize m / 2 ^ (i + 1) / n = Q at *
  generalize m / 2 ^ i % 2 = b at *
  rw [← e1]
  grind
theorem divmod_of {M n q r : Nat} (h : M = q * n + r) (hr : r < n) : M / n = q ∧ M % n = r := by
  subst h
  rw [Nat.mul_comm, Nat.mul_add_div (by omega), Nat.div_eq_of_lt hr, Nat.mul_add_mod, Nat.mod_eq_of_lt hr]
  simp
theorem RefDivSt.stay {m n L i r r1 : Nat} {zs : List Nat} (h : RefDivSt m n L (i + 1) zs r) (h1 : r1 = r * 2 + m / 2 ^ i % 2) (hlt : r1 < n) : RefDivSt m n L i zs r1 := by
  have e := h.next
  rw [← h1] at e
  obtain ⟨d1, d2⟩ := divmod_of e hlt
  refine ⟨h.len, h.low, hlt, d2, ?_⟩
  rw [d1, h.quo, Nat.pow_succ]; grind
theorem RefDivSt.take {m n L i r r1 z : Nat} {zs : List Nat} (h : RefDivSt m n L (i + 1) zs r) (h1 : r1 = r * 2 + m / 2 ^ i % 2) (hge : n ≤ r1) (hz : zs[i / 32]? = some z) : RefDivSt m n L i (zs.set (i / 32) (z + 2 ^ (i % 32))) (r1 - n) := by
  have e := h.next
  have hb : m / 2 ^ i % 2 < 2 := Nat.mod_lt _ (by omega)
  have hlt := h.lt
  rw [← h1] at e
  have e' : m / 2 ^ i = (m / 2 ^ (i + 1) / n * 2 + 1) * n + (r1 - n) := by rw [e, Nat.add_mul (_ * 2) 1 n, Nat.one_mul]; omega
  obtain ⟨d1, d2⟩ := divmod_of e' (by omega)
  have hi : i / 32 < zs.length := (List.getElem?_eq_some_iff.1 hz).1
  have hs := val_set B32 zs (i / 32) (z + 2 ^ (i % 32)) hi
  rw [(List.getElem?_eq_some_iff.1 hz).2] at hs
  have e4 : B32 ^ (i / 32) * 2 ^ (i % 32) = 2 ^ i := by
    have : B32 ^ (i / 32) = 2 ^ (32 * (i / 32)) := by rw [Nat.pow_mul]; rfl
    rw [this, ← Nat.pow_add]; congr 1; omega
  rw [Nat.mul_add, e4] at hs
  refine ⟨by rw [List.length_set]; exact h.len, h.low.set (h.digit hz), by omega, d2, ?_⟩
  have hq := h.quo
  rw [d1]
  clear h d1 d2 e e'
  generalize m / 2 ^ (i + 1) / n = Q at *
  have e5 : Q * 2 ^ (i + 1) = Q * 2 * 2 ^ i := by rw [Nat.pow_succ]; grind
  rw [Nat.add_mul, Nat.one_mul]
  omega
end Go.Proofs.Ytaegkhdkhgemmaa

namespace Go.Proofs.Ytaegkhdkhgemmaa
open Go.RowKit Num

/-- Two numbers come back. -/
def TwoN (w : World) (q r : Nat) (e : Ending) (w' : World) : Prop := ∃ v u, e = .returned (.tuple #[v, u]) ∧ N32 w' v q ∧ N32 w' u r ∧ Below w.heap.size w w'
theorem Row.keep {k : IntKind} {T : TypeId} {w w' : World} {g : Nat} {zs : List Nat} (h : Row k T w g zs) (hb : Below w.heap.size w w') : Row k T w' g zs := h.below hb h.lt
theorem ref_empty (w : World) : Limbs (w.alloc (.cells #[] 56)) (.slice (some ⟨w.heap.size, 0, none⟩) 0 0) (dig B32 0) := by
  rw [dig_zero]
  exact ⟨_, _, rfl, Nat.le_refl _, by simp, Nums.nil⟩
theorem OwnLs.setc {B g : Nat} {w : World} {v : Value} {ys : List Nat} (h : OwnLs B w v ys) (hg : g < B) (i : Nat) (u : Value) : OwnLs B (w.setCell ⟨g, i, none⟩ u) v ys := by
  obtain ⟨h1, h2⟩ := h
  refine ⟨h1, ?_⟩
  rcases h2 with h2 | ⟨g2, cap, cur, e, hg2, hh, r⟩
  · exact .inl h2
  · exact .inr ⟨g2, cap, cur, e, hg2, (Below.heap_setCell w _ u g2 (by show g2 ≠ g; omega)).trans hh, r⟩
theorem nbits_len {m : Nat} : nbits m ≤ 32 * (dig B32 m).length := nbits_le (by
  have h1 := dig_len_lt b32_two (n := m)
  have e : B32 ^ (dig B32 m).length = 2 ^ (32 * (dig B32 m).length) := by rw [Nat.pow_mul]; rfl
  omega)
theorem len_mono32 {m n : Nat} (h : m ≤ n) : (dig B32 m).length ≤ (dig B32 n).length := dig_len_le b32_two (Nat.lt_of_le_of_lt h (dig_len_lt b32_two))

set_option maxHeartbeats 4000000 in
set_option maxRecDepth 100000 in
theorem refDivMod_any (a b : Value) (m n : Nat) (w : World) (ha : N32 w a m) (hb : N32 w b n) (hm : (dig B32 m).length ≤ 500) (hn : (dig B32 n).length ≤ 500) (hn0 : 0 < n) :
    Calls Try.prog 48 #[a, b] w (TwoN w (m / n) (m % n)) := by
  have hnb := nbits_len (m := m)
  have hbits := fun w' (h : N32 w' a m) => refBits_any a m w' h (by omega)
  obtain ⟨L, hL⟩ : ∃ L, (dig B32 m).length = L := ⟨_, rfl⟩
  have hmk := make35 L (by omega) w
  have hr0 := Row.made w .u32 L 56
  have hbA : Below w.heap.size w (w.alloc (.cells (madeCells #[.int .u32 0] L) 56)) := (Below.refl _ _).alloc (Nat.le_refl _) _
  have hst0 := RefDivSt.start (m := m) (L := L) hn0
  have htm := fun v w' (r : Nat) (h : N32 w' v r) (hl : (dig B32 r).length ≤ 1000) => times_any v r 2 w' h hl (by unfold B32; omega)
  have hbit := fun w' i (h : N32 w' a m) (hi : i < nbits m) => refBit_call a m i w' h (by omega) hi
  have hof := fun w' (v : Nat) (hv : v < 2) => refOf_any v (by unfold B64; omega) w'
  have had := fun u v w' (x y : Nat) (h : N32 w' u x) (k : N32 w' v y) (h1 : (dig B32 x).length ≤ 1000) (h2 : (dig B32 y).length ≤ 1000) => refAdd_call u v x y w' h k (by omega) (by omega)
  have hcm := fun v w' (x : Nat) (h : N32 w' v x) (k : N32 w' b n) (h1 : (dig B32 x).length ≤ 1000) => refCmp_call v b x n w' h k (by omega) (by omega)
  have hsu := fun v w' (x : Nat) (h : N32 w' v x) (k : N32 w' b n) (h1 : (dig B32 x).length ≤ 1000) (hle : n ≤ x) => refSub_call v b x n w' h k (by omega) hle
  have hrl : ∀ r, r < n → (dig B32 r).length ≤ 500 := fun r h => Nat.le_trans (len_mono32 (Nat.le_of_lt h)) hn
  have hr2 : ∀ r, r < n → (dig B32 (r * 2)).length ≤ 1000 := fun r h => Nat.le_trans (prod_len (hrl r h) (small32 (k := 2) (by unfold B32; omega))) (by omega)
  have hr3 : ∀ r y, r < n → y < 2 → (dig B32 (r * 2 + y)).length ≤ 1000 := fun r y h hy => Nat.le_trans (len_mono32 (show r * 2 + y ≤ n * 2 by omega)) (Nat.le_trans (prod_len hn (small32 (k := 2) (by unfold B32; omega))) (by omega))
  have hbl : ∀ y, y < 2 → (dig B32 y).length ≤ 1000 := fun y hy => Nat.le_trans (small32 (by unfold B32; omega)) (by omega)
  have HA := Lib.hid ha
  have HB := Lib.hid hb
  obtain ⟨A, c, rfl, _⟩ := ha
  obtain ⟨A', c', rfl, _⟩ := hb
  rw [hL] at hnb hm ⊢
  rw [hL] at HA hbits hbit
  have HLEN := Lib.hid hL
  have HBITS := Lib.hid hbits
  have HTM := Lib.hid htm
  have HBIT := Lib.hid hbit
  have HOF := Lib.hid hof
  have HAD := Lib.hid had
  have HCM := Lib.hid hcm
  have HSU := Lib.hid hsu
  have HRL := Lib.hid hrl
  have HR2 := Lib.hid hr2
  have HR3 := Lib.hid hr3
  have HBL := Lib.hid hbl
  have HR0 := Lib.hid hr0
  have HST0 := Lib.hid hst0
  clear hbits htm hbit hof had hcm hsu hrl hr2 hr3 hbl hr0 hst0
  obtain ⟨nb, hnbe⟩ : ∃ nb, nbits m = nb := ⟨_, rfl⟩
  rw [hnbe] at HBITS HBIT HST0 hnb
  clear hL hnbe
  go_enter Try.func48, Try.ntmps48
  go_wp2_with (fail)
  refine (HBITS.out _ ((HA.out.keep hbA).keep (below_new _ (.cells #[] 56)))).mono ?_
  rintro e w1 ⟨rfl, rfl⟩
  go_wp2
  go_loopw [7, 8] (fun rv t wr => ∃ (k r : Nat) (zs : List Nat), k ≤ nb ∧ t = .int .i64 ((k : Int) - 1) ∧ RefDivSt m n L k zs r ∧ N32 wr rv r ∧ Row .u32 56 wr w.heap.size zs ∧ Below w.heap.size w wr) (fun _ t _ => (intOf t + 1).toNat)
  case atStart => exact ⟨nb, 0, _, Nat.le_refl _, rfl, HST0.out, (by have := (ref_empty (w.alloc (.cells (madeCells #[.int .u32 0] L) 56))).is; rwa [show (w.alloc (.cells (madeCells #[.int .u32 0] L) 56)).heap.size = w.heap.size + 1 from by simp] at this), HR0.out.alloc _, hbA.alloc hbA.size _⟩
  case round =>
    clear hbA HST0 HR0 hmk HBITS
    obtain ⟨k, r, zs, hk, rfl, hst, hr, hrow, hbl⟩ := hrel
    have hlen := hst.len
    have hrn := hst.lt
    by_cases h0 : k = 0
    · subst h0
      have hq := hst.quo
      have hre := hst.rem
      rw [Nat.pow_zero, Nat.div_one, Nat.mul_one] at hq
      rw [Nat.pow_zero, Nat.div_one] at hre
      have hnm := hrow.nums0 zs.length
      rw [List.take_length] at hnm
      have htr := refTrim_l (.slice (some ⟨w.heap.size, 0, none⟩) L L) zs wr ⟨_, _, by rw [hlen], by omega, by omega, hnm⟩ hst.low (by omega)
      rw [hq] at htr
      have hql : (dig B32 (m / n)).length ≤ 1000 := by rw [← hq]; exact Nat.le_trans (trim_le b32_two hst.low) (by omega)
      rw [← hre] at hr
      generalize m / n = Q at *
      generalize m % n = R at *
      have HT := Lib.hid htr
      clear htr hq hre hnm hst hlen
      go_wp2_with (go_at_call 80; refine HT.out.mono ?_; rintro e w9 ⟨v9, rfl, hv9, hb9⟩)
      go_ret2
      exact ⟨_, _, rfl, (hv9.limbs (by omega)).is, hr.keep hb9, below_at hbl (Nat.le_refl _) hb9⟩
    · obtain ⟨i, rfl⟩ : ∃ i, k = i + 1 := ⟨k - 1, by omega⟩
      obtain ⟨z, hz⟩ : ∃ z, zs[i / 32]? = some z := ⟨zs[i / 32]'(by omega), List.getElem?_eq_getElem _⟩
      have hby : m / 2 ^ i % 2 < 2 := Nat.mod_lt _ (by omega)
      obtain ⟨y, hy⟩ : ∃ y, m / 2 ^ i % 2 = y := ⟨_, rfl⟩
      have hb90 := fun w' (h : N32 w' (.slice A L c) m) => HBIT.out w' i h (by omega)
      rw [hy] at hb90 hby
      have y1 : IntKind.u64.wrap (y : Int) = (y : Int) := by rw [IntKind.wrap_u64]; omega
      have HB90 := Lib.hid hb90
      have HY := Lib.hid hy
      have HZ := Lib.hid hz
      have HST := Lib.hid hst
      have HLZ := Lib.hid hlen
      clear hb90 hy hz hst hlen
      by_cases hge : n ≤ r * 2 + y
      · have hcc : 0 ≤ cmpN (r * 2 + y) n := by
          rcases Nat.lt_or_ge n (r * 2 + y) with h | h
          · rw [cmpN_gt h]; omega
          · rw [show r * 2 + y = n by omega, cmpN_eq]; omega
        obtain ⟨cc, hce⟩ : ∃ cc, cmpN (r * 2 + y) n = cc := ⟨_, rfl⟩
        rw [hce] at hcc
        have hst' := HST.out.take (by rw [HY.out]) hge HZ.out
        have hdg := HST.out.digit HZ.out
        have HST2 := Lib.hid hst'
        have HGE := Lib.hid hge
        have hcm2 := fun v w' (h : N32 w' v (r * 2 + y)) (k : N32 w' (.slice A' (dig B32 n).length c') n) (h1 : (dig B32 (r * 2 + y)).length ≤ 1000) => HCM.out v w' _ h k h1
        rw [hce] at hcm2
        have HCM2 := Lib.hid hcm2
        have HDG := Lib.hid hdg
        clear hst' hge hce hcm2 hdg
        have ka := HA.out.keep hbl
        have kb := HB.out.keep hbl
        have hgl := hrow.lt
        go_wp2_with (fail)
        refine (HTM.out _ _ r hr (by have := HRL.out r hrn; omega)).mono ?_
        rintro e w1 ⟨v1, rfl, hv1, hb1⟩
        have b1 := below_at hbl (Nat.le_refl _) hb1
        have ka_1 := ka.keep hb1
        have kb_1 := kb.keep hb1
        have kw_1 := hrow.keep hb1
        have k1_1 := (hv1.limbs (by have := HR2.out r hrn; omega)).is
        go_wp2_with (fail)
        refine (HB90.out _ ka_1).mono ?_
        rintro e w2 ⟨rfl, rfl⟩
        go_wp2_with (fail)
        refine (HOF.out _ y hby).mono ?_
        rintro e w3 ⟨v2, rfl, hv2, hb3⟩
        have b3 := below_at b1 (Nat.le_refl _) hb3
        have kb_3 := kb_1.keep hb3
        have kw_3 := kw_1.keep hb3
        have k1_3 := k1_1.keep hb3
        have k2_3 := (hv2.limbs (by have := HBL.out y hby; omega)).is
        go_wp2_with (fail)
        refine (HAD.out _ _ _ _ _ k1_3 k2_3 (HR2.out r hrn) (HBL.out y hby)).mono ?_
        rintro e w4 ⟨v3, rfl, hv3, hb4⟩
        have b4 := below_at b3 (Nat.le_refl _) hb4
        have kb_4 := kb_3.keep hb4
        have kw_4 := kw_3.keep hb4
        have k3_4 := (hv3.limbs (by have := HR3.out r y hrn hby; omega)).is
        go_wp2_with (fail)
        refine (HCM2.out _ _ k3_4 kb_4 (HR3.out r y hrn hby)).mono ?_
        rintro e w5 ⟨rfl, hb5⟩
        have b5 := below_at b4 (Nat.le_refl _) hb5
        have kb_5 := kb_4.keep hb5
        have kw_5 := kw_4.keep hb5
        have k3_5 := k3_4.keep hb5
        go_wp2_with (fail)
        refine (HSU.out _ _ _ k3_5 kb_5 (HR3.out r y hrn hby) HGE.out).mono ?_
        rintro e w6 ⟨v6, rfl, hv6, hb6⟩
        have b6 := below_at b5 (Nat.le_refl _) hb6
        have kw_6 := kw_5.keep hb6
        have k6 := fun i u => ((hv6.setc (g := w.heap.size) kw_5.lt i u).limbs (by have := HRL.out _ HST2.out.lt; omega)).is
        have hrow6 := kw_6
        obtain ⟨q, sh, hq32, hs32, hs1⟩ : ∃ q sh, i / 32 = q ∧ i % 32 = sh ∧ sh < 32 := ⟨_, _, rfl, rfl, Nat.mod_lt _ (by omega)⟩
        have hzq := HZ.out
        rw [hq32] at hzq
        have cz := hrow6.cell hzq
        have fz := hrow6.frozen q
        have hqL : q < L := by omega
        have hdq := HDG.out
        rw [hs32] at hdq
        have e1 : (i : Int) / 32 = (q : Int) := by omega
        have e2 : (i : Int) % 32 = (sh : Int) := by omega
        have e3 : (i : Int).tdiv 32 = (q : Int) := by rw [Int.tdiv_eq_ediv_of_nonneg (by omega)]; exact e1
        have e4 : (i : Int).tmod 32 = (sh : Int) := by rw [Int.tmod_eq_emod_of_nonneg (by omega)]; exact e2
        have HZQ := Lib.hid hzq
        have HDQ := Lib.hid hdq
        have HQ32 := Lib.hid hq32
        have HS32 := Lib.hid hs32
        clear hzq hdq hq32 hs32
        go_wp2
        go_loop [9, 10] (fun a t => ∃ j p : Nat, j ≤ sh ∧ t = .int .i64 (j : Int) ∧ a = .int .u32 (p : Int) ∧ PowIs p j) (fun _ t => sh - (intOf t).toNat)
        case atStart => exact ⟨0, 1, Nat.zero_le _, rfl, rfl, rfl⟩
        case round =>
          obtain ⟨j, p, hj, rfl, rfl, hp⟩ := hrel
          by_cases hlt : j < sh
          · obtain ⟨p2, hp2, x1, x2⟩ := powIs_step hp (by omega)
            have HP2 := Lib.hid hp2
            clear hp2 hp
            go_wp2
            go_round
            case rel => exact ⟨j + 1, p2, by omega, by go_num, rfl, HP2.out⟩
            case measure => simp [intOf]; omega
          · obtain rfl : j = sh := by omega
            clear hlt
            have hpz : z + p < B32 := by rw [hp]; exact HDQ.out
            have x1 : IntKind.u32.wrap ((z : Int) + (p : Int)) = ((z + p : Nat) : Int) := by unfold B32 at hpz; rw [IntKind.wrap_u32']; omega
            obtain ⟨zp, hzp⟩ : ∃ zp, z + p = zp := ⟨_, rfl⟩
            have x2 : ((z : Int) + (p : Int)) % 4294967296 = (zp : Int) := by unfold B32 at hpz; omega
            rw [hzp] at x1
            have hst2 := HST2.out
            rw [HQ32.out, HS32.out, ← hp, hzp] at hst2
            have HST3 := Lib.hid hst2
            clear hst2 hp hpz hzp
            go_wp2
            go_roundw
            case rel => exact ⟨i, _, _, by omega, by first | rfl | go_num, HST3.out, k6 _ _, hrow6.set q zp, below_set b6 (Nat.le_refl _) _⟩
            case measure => simp [intOf]
      · have hlt2 : r * 2 + y < n := by omega
        have hst' := HST.out.stay (by rw [HY.out]) hlt2
        have HST2 := Lib.hid hst'
        have hcm2 := fun v w' (h : N32 w' v (r * 2 + y)) (k : N32 w' (.slice A' (dig B32 n).length c') n) (h1 : (dig B32 (r * 2 + y)).length ≤ 1000) => HCM.out v w' _ h k h1
        rw [cmpN_lt hlt2] at hcm2
        have HCM2 := Lib.hid hcm2
        clear hst' hge hcm2 hlt2
        have ka := HA.out.keep hbl
        have kb := HB.out.keep hbl
        have hgl := hrow.lt
        go_wp2_with (fail)
        refine (HTM.out _ _ r hr (by have := HRL.out r hrn; omega)).mono ?_
        rintro e w1 ⟨v1, rfl, hv1, hb1⟩
        have b1 := below_at hbl (Nat.le_refl _) hb1
        have ka_1 := ka.keep hb1
        have kb_1 := kb.keep hb1
        have kw_1 := hrow.keep hb1
        have k1_1 := (hv1.limbs (by have := HR2.out r hrn; omega)).is
        go_wp2_with (fail)
        refine (HB90.out _ ka_1).mono ?_
        rintro e w2 ⟨rfl, rfl⟩
        go_wp2_with (fail)
        refine (HOF.out _ y hby).mono ?_
        rintro e w3 ⟨v2, rfl, hv2, hb3⟩
        have b3 := below_at b1 (Nat.le_refl _) hb3
        have kb_3 := kb_1.keep hb3
        have kw_3 := kw_1.keep hb3
        have k1_3 := k1_1.keep hb3
        have k2_3 := (hv2.limbs (by have := HBL.out y hby; omega)).is
        go_wp2_with (fail)
        refine (HAD.out _ _ _ _ _ k1_3 k2_3 (HR2.out r hrn) (HBL.out y hby)).mono ?_
        rintro e w4 ⟨v3, rfl, hv3, hb4⟩
        have b4 := below_at b3 (Nat.le_refl _) hb4
        have kb_4 := kb_3.keep hb4
        have kw_4 := kw_3.keep hb4
        have k3_4 := (hv3.limbs (by have := HR3.out r y hrn hby; omega)).is
        go_wp2_with (fail)
        refine (HCM2.out _ _ k3_4 kb_4 (HR3.out r y hrn hby)).mono ?_
        rintro e w5 ⟨rfl, hb5⟩
        have b5 := below_at b4 (Nat.le_refl _) hb5
        have kb_5 := kb_4.keep hb5
        have kw_5 := kw_4.keep hb5
        have k3_5 := k3_4.keep hb5
        go_wp2
        go_roundw
        case rel => exact ⟨i, _, _, by omega, by first | rfl | go_num, HST2.out, k3_5, kw_5, b5⟩
        case measure => simp [intOf]
end Go.Proofs.Ytaegkhdkhgemmaa

namespace Go.Proofs.Ytaegkhdkhgemmaa
open Go.RowKit Num

set_option maxHeartbeats 1000000 in
set_option maxRecDepth 100000 in
theorem divMod_bad (a b : Value) (xs ys : List Nat) (w : World) (ha : Limbs w a xs) (hb : Limbs w b ys) (h0 : chk2 xs ys ≠ 0) : Calls Try.prog 47 #[a, b] w fun e w' => e = .returned (.tuple #[.slice none 0 0, .slice none 0 0, .int .i64 (chk2 xs ys)]) ∧ Below w.heap.size w w' := by
  have hc := checkAll_any w.heap.size 2 2 _ _ (nats2 ha hb) rfl (by omega)
  rw [chkAll2] at hc
  generalize chk2 xs ys = r at *
  have hbA := below_new w (.cells #[a, b] 23)
  have hq : (r != 0) = true := by simp [h0]
  have HC := Lib.hid hc
  have H0 := Lib.hid h0
  obtain ⟨A, c, rfl, _⟩ := ha
  obtain ⟨A', c', rfl, _⟩ := hb
  clear hc h0
  generalize xs.length = L at *
  generalize ys.length = L' at *
  go_enter Try.func47, Try.ntmps47
  go_wp2_with (go_at_call 75; refine HC.out.mono ?_; rintro e w1 ⟨rfl, rfl⟩)
  go_ret3
  exact ⟨rfl, hbA⟩

set_option maxHeartbeats 1000000 in
set_option maxRecDepth 100000 in
theorem divMod_zero (a b : Value) (m n : Nat) (w : World) (ha : N32 w a m) (hb : N32 w b n) (hm : (dig B32 m).length ≤ 262144) (hn : (dig B32 n).length ≤ 262144) (h0 : n = 0) : Calls Try.prog 47 #[a, b] w fun e w' => e = .returned (.tuple #[.slice none 0 0, .slice none 0 0, .int .i64 4]) ∧ Below w.heap.size w w' := by
  have hc := checkAll_any w.heap.size 2 2 _ _ (nats2 (Limbs.num ha (by omega)) (Limbs.num hb (by omega))) rfl (by omega)
  rw [chkAll2, chk2, if_pos (chk_dig hm), chk_dig hn] at hc
  have hbA := below_new w (.cells #[a, b] 23)
  have HC := Lib.hid hc
  have hz : (dig B32 n).length = 0 := by rw [h0, dig_zero]; rfl
  obtain ⟨A, c, rfl, _⟩ := ha
  obtain ⟨A', c', rfl, _⟩ := hb
  clear hc h0
  rw [hz] at HC hbA ⊢
  clear hz hn
  generalize (dig B32 m).length = L at *
  go_enter Try.func47, Try.ntmps47
  go_wp2_with (go_at_call 75; refine HC.out.mono ?_; rintro e w1 ⟨rfl, rfl⟩)
  go_ret3
  exact ⟨rfl, hbA⟩

/-- Quotient and remainder come back, both of the call's own. -/
def DivNat (w : World) (q r : Nat) (e : Ending) (w' : World) : Prop := ∃ v u, e = .returned (.tuple #[v, u, .int .i64 0]) ∧ OwnL w.heap.size w' v q ∧ OwnL w.heap.size w' u r ∧ Below w.heap.size w w'

set_option maxHeartbeats 2000000 in
set_option maxRecDepth 100000 in
theorem divMod_ok (a b : Value) (m n : Nat) (w : World) (ha : N32 w a m) (hb : N32 w b n) (hm : (dig B32 m).length ≤ 262144) (hn : (dig B32 n).length ≤ 262144) (h0 : 0 < n) (hs : (dig B64 n).length < 200 ∨ (dig B64 m).length < 199 + (dig B64 n).length) : Calls Try.prog 47 #[a, b] w (DivNat w (m / n) (m % n)) := by
  have hc := checkAll_any w.heap.size 2 2 _ _ (nats2 (Limbs.num ha (by omega)) (Limbs.num hb (by omega))) rfl (by omega)
  rw [chkAll2, chk2, if_pos (chk_dig hm), chk_dig hn] at hc
  have hbA := below_new w (.cells #[a, b] 23)
  have HC := Lib.hid hc
  have ha1 := ha.keep hbA
  have hb1 := hb.keep hbA
  have hf1 := fun w' (h : N32 w' a m) => fromNat_any a m w' h (by omega)
  have hf2 := fun w' (h : N32 w' b n) => fromNat_any b n w' h (by omega)
  have lm := words_le (n := m) (K := 131072) hm
  have ln := words_le (n := n) (K := 131072) hn
  have hdv := fun v u w' (h : W64 w' v m) (k : W64 w' u n) => divide_any v u m n w' h k h0 (by omega) (by omega) hs
  have hlq : (dig B64 (m / n)).length ≤ 131072 := Nat.le_trans (lenm (Nat.div_le_self _ _)) lm
  have hlr : (dig B64 (m % n)).length ≤ 131072 := Nat.le_trans (lenm (Nat.mod_le _ _)) lm
  have hn1 := fun v w' (h : W64 w' v (m / n)) => nat_any v _ w' h (by omega)
  have hn2 := fun v w' (h : W64 w' v (m % n)) => nat_any v _ w' h (by omega)
  have hpos : 0 < (dig B32 n).length := by
    rcases Nat.eq_zero_or_pos (dig B32 n).length with h | h
    · have := (dig_nil_iff b32_two).1 (List.eq_nil_of_length_eq_zero h); omega
    · exact h
  have HA1 := Lib.hid ha1
  have HB1 := Lib.hid hb1
  have HF1 := Lib.hid hf1
  have HF2 := Lib.hid hf2
  have HDV := Lib.hid hdv
  have HN1 := Lib.hid hn1
  have HN2 := Lib.hid hn2
  clear ha1 hb1 hf1 hf2 hdv hn1 hn2
  obtain ⟨A, c, rfl, _⟩ := ha
  obtain ⟨A', c', rfl, _⟩ := hb
  clear hc lm ln hlq hlr hs
  generalize (dig B32 m).length = L at *
  generalize (dig B32 n).length = L' at *
  go_enter Try.func47, Try.ntmps47
  go_wp2_with (fail)
  refine (HC.out).mono ?_
  rintro e w1 ⟨rfl, rfl⟩
  go_wp2_with (fail)
  refine (HF1.out _ HA1.out).mono ?_
  rintro e w2 ⟨v1, rfl, hv1, hb2⟩
  have b2 := below_at hbA (Nat.le_refl _) hb2
  have kb_2 := HB1.out.keep hb2
  have k1_2 := hv1.is
  go_wp2_with (fail)
  refine (HF2.out _ kb_2).mono ?_
  rintro e w3 ⟨v2, rfl, hv2, hb3⟩
  have b3 := below_at b2 (Nat.le_refl _) hb3
  have k1_3 := k1_2.keep hb3
  have k2_3 := hv2.is
  go_wp2_with (fail)
  refine (HDV.out _ _ _ k1_3 k2_3).mono ?_
  rintro e w4 ⟨q, r, rfl, hq, hr, hb4⟩
  have b4 := below_at b3 (Nat.le_refl _) hb4
  have kq_4 := hq
  have kr_4 := hr
  go_wp2_with (fail)
  refine (HN1.out _ _ kq_4).mono ?_
  rintro e w5 ⟨v4, rfl, hv4, hb5⟩
  have b5 := below_at b4 (Nat.le_refl _) hb5
  have kr_5 := kr_4.keep hb5
  go_wp2_with (fail)
  refine (HN2.out _ _ kr_5).mono ?_
  rintro e w6 ⟨v5, rfl, hv5, hb6⟩
  have b6 := below_at b5 (Nat.le_refl _) hb6
  go_wp2
  go_ret3
  exact ⟨_, _, rfl, (hv4.keep hb6).mono b4.size, hv5.mono b5.size, b6⟩

end Go.Proofs.Ytaegkhdkhgemmaa
