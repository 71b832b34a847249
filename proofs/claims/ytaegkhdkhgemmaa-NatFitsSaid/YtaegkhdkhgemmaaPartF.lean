/- Part of the proof of NatFits: RootW, RefC, RefAdd, RefSub, AddsW, RefMul, MulsW, RefPow. -/
import Derived.Test.YtaegkhdkhgemmaaPartB
import Derived.Test.YtaegkhdkhgemmaaPartE
import Derived.Test.YtaegkhdkhgemmaaPartD
namespace Go.Proofs.Ytaegkhdkhgemmaa
open Go.RowKit Num

theorem own_v (v : Nat) (h0 : 0 < v) (hv : v < B64) (w : World) : W64 (w.alloc (.cells #[.int .u64 (v : Int)] 24)) (.slice (some ⟨w.heap.size, 0, none⟩) 1 1) v := by
  have hr := row_one w v
  have hlow : Low B64 [v] := Low.cons hv (Low.nil _)
  have := (own_of_trim b64_two hr hlow (Nat.le_refl w.heap.size)).is
  have hval : val B64 [v] = v := by simp [val]
  have hd : dig B64 v = [v] := dig1 b64_two (by omega) hv
  rw [hval, hd] at this
  exact this
/-- The numbers of a root that is not found at once. -/
theorem root_numbers {n m r : Nat} (h : IsRoot n m r) (hn : 0 < n) (hs : n < nbits m) : ∃ D, (nbits m - 1) / n + 1 = D ∧ 2 ^ (D - 1) ≤ r ∧ r < 2 ^ D ∧ n * (D - 1) ≤ nbits m - 1 ∧ 2 ≤ D ∧ D ≤ nbits m := by
  have hm0 : m ≠ 0 := fun h0 => by rw [h0] at hs; simp [nbits] at hs
  have h1 := nbits_ge hm0
  have h2 := nbits_lt m
  have hd := Nat.div_add_mod (nbits m - 1) n
  have hr := Nat.mod_lt (nbits m - 1) hn
  have hge : 1 ≤ (nbits m - 1) / n := (Nat.le_div_iff_mul_le hn).2 (by omega)
  have hle := Nat.div_le_self (nbits m - 1) n
  refine ⟨_, rfl, ?_, ?_, ?_, by omega, by omega⟩
  all_goals generalize (nbits m - 1) / n = q at *
  · have : 2 ^ q < r + 1 := by
      refine pow_lt_iff (n := n) (Nat.lt_of_le_of_lt ?_ h.2)
      rw [← Nat.pow_mul, Nat.mul_comm]
      exact Nat.le_trans (Nat.pow_le_pow_right (by omega) (by omega)) h1
    rw [Nat.add_sub_cancel]; omega
  · refine pow_lt_iff (n := n) (Nat.lt_of_le_of_lt h.1 (Nat.lt_of_lt_of_le h2 ?_))
    rw [← Nat.pow_mul, Nat.mul_comm]
    refine Nat.pow_le_pow_right (by omega) ?_
    rw [Nat.mul_add]; omega
  · rw [Nat.add_sub_cancel]; omega
theorem pow_len {n m r : Nat} (h : r ^ n ≤ m) (h0 : 0 < r) (hn : n ≤ nbits m) (hb : nbits m ≤ 8000) : ∀ y, y ≤ 2 * r → ∀ j, j ≤ n → (dig B64 (y ^ j)).length ≤ 251 := by
  intro y hy j hj
  refine dig_len_le b64_two ?_
  have h1 : y ^ j ≤ (2 * r) ^ n := Nat.le_trans (Nat.pow_le_pow_left hy j) (Nat.pow_le_pow_right (by omega) hj)
  rw [Nat.mul_pow] at h1
  have h2 := Nat.mul_le_mul_left (2 ^ n) h
  have h3 : 2 ^ n * m < 2 ^ n * 2 ^ nbits m := Nat.mul_lt_mul_of_pos_left (nbits_lt m) (Nat.two_pow_pos n)
  rw [← Nat.pow_add] at h3
  have h4 : ∀ K, n + nbits m ≤ 64 * K → y ^ j < B64 ^ K := fun K hK => by
    rw [← pow_b64]
    exact Nat.lt_of_le_of_lt (Nat.le_trans h1 h2) (Nat.lt_of_lt_of_le h3 (Nat.pow_le_pow_right (by omega) hK))
  exact h4 251 (by omega)
theorem newton_y {D L low n r : Nat} (hn : n + 1 < 2 ^ L) (hl : 2 * low + L ≤ D) (hr : 2 ^ (D - 1) ≤ r) (hD : 1 ≤ D) (X : Nat) (hX : X = (r / 2 ^ low + 1) * 2 ^ low) : r < X ∧ X ≤ r + 2 ^ low ∧ n * ((X - (r + 1)) * (X - (r + 1))) ≤ 2 * (r + 1) := by
  have hp := Nat.two_pow_pos low
  have h1 := Nat.lt_div_mul_add (a := r) hp
  have h2 := Nat.div_mul_le_self r (2 ^ low)
  rw [Nat.add_mul, Nat.one_mul] at hX
  refine ⟨by omega, by omega, ?_⟩
  have h3 : X - (r + 1) ≤ 2 ^ low := by omega
  have h4 : n * ((X - (r + 1)) * (X - (r + 1))) ≤ 2 ^ L * (2 ^ low * 2 ^ low) := Nat.mul_le_mul (by omega) (Nat.mul_le_mul h3 h3)
  rw [← Nat.pow_add, ← Nat.pow_add] at h4
  have h5 : 2 ^ (L + (low + low)) ≤ 2 ^ D := Nat.pow_le_pow_right (by omega) (by omega)
  have h6 : 2 ^ D = 2 * 2 ^ (D - 1) := by rw [← Nat.pow_succ']; congr 1; omega
  omega

set_option maxHeartbeats 2000000 in
set_option maxRecDepth 100000 in
theorem newton_any (a x : Value) (m n k X : Nat) (w : World) (ha : W64 w a m) (hx : W64 w x X) (hk : n = k + 1) (hk0 : 0 < k) (hn : n ≤ 10000) (hX : 0 < X) (hm : (dig B64 m).length ≤ 190) (hp : ∀ j, j ≤ k → (dig B64 (X ^ j)).length ≤ 300) (hp1 : (dig B64 X).length ≤ 300) :
    Calls Try.prog 117 #[a, .int .i64 (n : Int), x] w (NumPost w ((k * X + m / X ^ k) / n)) := by
  have e1 : (n : Int) - 1 = (k : Int) := by omega
  have e2 : IntKind.u64.wrap (k : Int) = (k : Int) := by rw [IntKind.wrap_u64]; omega
  have e3 : IntKind.u64.wrap (n : Int) = (n : Int) := by rw [IntKind.wrap_u64]; omega
  have hpw := fun w' (h : W64 w' x X) => power_any (mulSpec_all 300 (by omega)) x X k w' h (by omega) hp1 hp
  have hXk : 0 < X ^ k := Nat.pow_pos hX
  have hdv := fun v w' (h : W64 w' a m) (l : W64 w' v (X ^ k)) => divide_any a v m _ w' h l hXk (by have := hp k (Nat.le_refl _); omega) (by omega) (.inr (by omega))
  have hok := fun w' => own_v k hk0 (by unfold B64; omega) w'
  have hkl : (dig B64 k).length ≤ 1 := small64 (by unfold B64; omega)
  have hmu := fun v w' (h : W64 w' x X) (l : W64 w' v k) => mulAt_all (m := X) (n := k) (by omega) (by omega) x v w' h l
  have hxl : (dig B64 (X * k)).length ≤ 301 := by
    have g : ∀ K, (dig B64 X).length ≤ K → (dig B64 (X * k)).length ≤ K + 1 := fun K hK => by
      refine dig_len_le b64_two ?_
      have h1 := Nat.lt_of_lt_of_le (dig_len_lt b64_two (n := X)) (Nat.pow_le_pow_right b64_pos hK)
      rw [Nat.pow_succ]
      exact Nat.mul_lt_mul_of_lt_of_lt h1 (by unfold B64; omega)
    exact g 300 hp1
  have hql : (dig B64 (m / X ^ k)).length ≤ 190 := Nat.le_trans (lenm (Nat.div_le_self _ _)) hm
  have hsu := fun u v w' (h : W64 w' u (X * k)) (l : W64 w' v (m / X ^ k)) => sum_any u v _ _ w' h l (by omega) (by omega)
  have g2 : ∀ K, (dig B64 (X * k)).length ≤ K → (dig B64 (m / X ^ k)).length ≤ K → (dig B64 (X * k + m / X ^ k)).length ≤ K + 1 := fun K h1 h2 =>
    dig_len_le b64_two (two_pow_lt b64_two (Nat.lt_of_lt_of_le (dig_len_lt b64_two) (Nat.pow_le_pow_right b64_pos h1)) (Nat.lt_of_lt_of_le (dig_len_lt b64_two) (Nat.pow_le_pow_right b64_pos h2)))
  have hsl := g2 301 hxl (by omega)
  clear g2
  have hdw := fun u w' (h : W64 w' u (X * k + m / X ^ k)) => divideWord_call u _ n w' h (by omega) (by omega) (by unfold B64; omega)
  rw [Nat.mul_comm k X]
  generalize X * k + m / X ^ k = S at *
  generalize m / X ^ k = Q at *
  generalize X ^ k = P at *
  generalize X * k = M at *
  have HPW := Lib.hid hpw
  have HDV := Lib.hid hdv
  have HOK := Lib.hid hok
  have HMU := Lib.hid hmu
  have HSU := Lib.hid hsu
  have HDW := Lib.hid hdw
  clear hpw hdv hok hmu hsu hdw
  have HA := Lib.hid ha
  have HX := Lib.hid hx
  clear hp hp1 hkl hxl hql hsl hXk hm ha hx hk hX
  go_enter Try.func117, Try.ntmps117
  go_wp2_with (fail)
  refine (HPW.out _ HX.out).mono ?_
  rintro e w1 ⟨v1, rfl, hv1, hb1⟩
  have b1 := below_at (Below.refl _ _) (Nat.le_refl _) hb1
  have ka_1 := HA.out.keep hb1
  have kx_1 := HX.out.keep hb1
  have k1_1 := hv1.is
  go_wp2_with (fail)
  refine (HDV.out _ _ ka_1 k1_1).mono ?_
  rintro e w2 ⟨q, r, rfl, hq, _, hb2⟩
  have b2 := below_at b1 (Nat.le_refl _) hb2
  have kx_2 := kx_1.keep hb2
  have kq_2 := hq
  go_wp2_with (fail)
  refine (HMU.out _ _ (kx_2.keep (below_new _ (.cells #[.int .u64 (k : Int)] 24))) (HOK.out _)).mono ?_
  rintro e w3 ⟨v3, rfl, hv3, hb3⟩
  have b3 := below_at (b2.alloc b2.size _) (Nat.le_refl _) hb3
  have kq_3 := (kq_2.keep (below_new _ (.cells #[.int .u64 (k : Int)] 24))).keep hb3
  have k3_3 := hv3.is
  go_wp2_with (fail)
  refine (HSU.out _ _ _ k3_3 kq_3).mono ?_
  rintro e w4 ⟨v4, rfl, hv4, hb4⟩
  have b4 := below_at b3 (Nat.le_refl _) hb4
  have k4_4 := hv4.is
  go_wp2_with (fail)
  refine (HDW.out _ _ k4_4).mono ?_
  rintro e w5 ⟨v5, rfl, hv5, hb5⟩
  have b5 := below_at b4 (Nat.le_refl _) hb5
  have k4_5 := k4_4.keep hb5
  go_wp2
  go_ret
  exact ⟨_, rfl, hv5.is, b5⟩

set_option maxHeartbeats 1200000 in
set_option maxRecDepth 100000 in
theorem root_a0 (N : Nat) (IH : ∀ m, m < N → ∀ (n r : Nat) (a : Value) (w : World), W64 w a m → 0 < m → 0 < n → nbits m ≤ 8000 → IsRoot n m r → Calls Try.prog 97 #[a, .int .i64 (n : Int)] w (NumPost w r)) (m n r D L low : Nat) (a : Value) (w : World) (hmN : m ≤ N) (ha : W64 w a m) (hr : IsRoot n m r) (hn2 : 2 ≤ n) (hns : n < nbits m) (hb : nbits m ≤ 8000) (hD : (nbits m - 1) / n + 1 = D) (hr1 : 2 ^ (D - 1) ≤ r) (hnD : n * (D - 1) ≤ nbits m - 1) (hD2 : 2 ≤ D) (hDs : D ≤ nbits m) (hL : nbits n = L) (hl : 2 * low + L ≤ D) (hl2 : D ≤ 2 * low + L + 1) (hl1 : 1 ≤ low) (hz : ((n - 1) * ((r / 2 ^ low + 1) * 2 ^ low) + m / ((r / 2 ^ low + 1) * 2 ^ low) ^ (n - 1)) / n = r) :
    Calls Try.prog 97 #[a, .int .i64 (n : Int)] w (NumPost w r) := by
  have hm0 : 0 < m := by
    rcases Nat.eq_zero_or_pos m with h | h
    · rw [h] at hns; simp [nbits] at hns
    · exact h
  have hr0 : 0 < r := Nat.lt_of_lt_of_le (Nat.two_pow_pos _) hr1
  have hpl := pow_len hr.1 hr0 (Nat.le_of_lt hns) hb
  have hbm := nbits_ge (Nat.pos_iff_ne_zero.1 hm0)
  have hwl : (dig B64 m).length ≤ 125 := len_of_bits (by omega)
  have hLn : n < 2 ^ L := by rw [← hL]; exact nbits_lt n
  have hL64 : L ≤ 13 := by rw [← hL]; exact nbits_le (by omega)
  have hbits := fun w' (h : W64 w' a m) => bits_call a m w' h (by omega)
  have hlen := fun w' => len_nat n w' (by unfold B64; omega)
  rw [hL] at hlen
  have hwn : IntKind.u64.wrap (n : Int) = (n : Int) := by rw [IntKind.wrap_u64]; omega
  have hdd : ((nbits m : Nat) : Int) - 1 = ((nbits m - 1 : Nat) : Int) := by omega
  have hdq : ((nbits m - 1 : Nat) : Int) / (n : Int) = (((nbits m - 1) / n : Nat) : Int) := (Int.natCast_ediv _ _).symm
  have hn0 : ((n : Int) == 0) = false := by simp; omega
  have hn1 : ((n : Int) == 1) = false := by simp; omega
  have hrl : (dig B64 r).length ≤ 251 := by have := hpl r (by omega) 1 (by omega); rwa [Nat.pow_one] at this
  have hown := fun w' => own_v 1 (by omega) (by unfold B64; omega) w'
  have h1l : (dig B64 1).length ≤ 1 := small64 (by unfold B64; omega)
  obtain ⟨X, hX⟩ : ∃ X, (r / 2 ^ low + 1) * 2 ^ low = X := ⟨_, rfl⟩
  have hlr : 2 ^ low ≤ r := Nat.le_trans (Nat.pow_le_pow_right (by omega) (by omega)) hr1
  have hy := newton_y (n := n - 1) (by omega) hl hr1 (by omega) X hX.symm
  have hl0 : low < D := by omega
  obtain ⟨nl, hnl⟩ : ∃ nl, n * low = nl := ⟨_, rfl⟩
  have hnl1 : nl ≤ nbits m - 1 := by rw [← hnl]; exact Nat.le_trans (Nat.mul_le_mul_left n (by omega)) hnD
  have hnl2 : 1 ≤ nl := by rw [← hnl]; exact Nat.mul_pos (by omega) hl1
  have hnlI : (n : Int) * (low : Int) = (nl : Int) := by rw [← hnl]; exact (Int.natCast_mul n low).symm
  have hhigh := hr.high low
  rw [hnl] at hhigh
  have hm1 : 0 < m / 2 ^ nl := Nat.div_pos (Nat.le_trans (Nat.pow_le_pow_right (by omega) hnl1) hbm) (Nat.two_pow_pos _)
  have hm2 : m / 2 ^ nl < N := Nat.lt_of_lt_of_le (Nat.div_lt_self hm0 (Nat.one_lt_two_pow (by omega))) hmN
  have hb1 : nbits (m / 2 ^ nl) ≤ 8000 := Nat.le_trans (nbits_le (Nat.lt_of_le_of_lt (Nat.div_le_self _ _) (nbits_lt m))) hb
  have hsr := fun w' (h : W64 w' a m) => shiftRight_any a m nl w' h (by omega) (by omega)
  have hrt := fun v w' (h : W64 w' v (m / 2 ^ nl)) => IH _ hm2 n _ v w' h hm1 (by omega) hb1 hhigh
  have hrr : (dig B64 (r / 2 ^ low)).length ≤ 251 := Nat.le_trans (lenm (Nat.div_le_self _ _)) hrl
  have hs1 := fun u v w' (h : W64 w' u (r / 2 ^ low)) (l : W64 w' v 1) => sum_any u v _ 1 w' h l (by omega) (by omega)
  have hXl : (dig B64 X).length ≤ 251 := by have := hpl X (by omega) 1 (by omega); rwa [Nat.pow_one] at this
  have hpp : r / 2 ^ low + 1 ≤ X := by rw [← hX]; exact Nat.le_mul_of_pos_right _ (Nat.two_pow_pos low)
  have hal : (dig B64 (r / 2 ^ low + 1)).length ≤ 251 := Nat.le_trans (lenm hpp) hXl
  have hsl := fun v w' (h : W64 w' v (r / 2 ^ low + 1)) => shiftLeft_any v _ low w' h (by omega) (by omega)
  rw [hX] at hsl hz
  have hnw := fun v w' (h : W64 w' a m) (l : W64 w' v X) => newton_any a v m n (n - 1) X w' h l (by omega) (by omega) (by omega) (by omega) (by omega) (fun j hj => Nat.le_trans (hpl X (by omega) j (by omega)) (by omega)) (by omega)
  rw [hz] at hnw
  have hlq : (D : Int) - (L : Int) = ((D - L : Nat) : Int) := by omega
  have hl5 : ((D - L : Nat) : Int) / 2 = (low : Int) := by omega
  have hl6 : ((D - L : Nat) : Int).tdiv 2 = (low : Int) := by rw [Int.tdiv_eq_ediv_of_nonneg (by omega)]; exact hl5
  have hpw := fun v w' (h : W64 w' v (r)) => power_any (mulSpec_all 251 (by omega)) v (r) n w' h (by omega) (by have := hpl (r) (by omega) 1 (by omega); rwa [Nat.pow_one] at this) (fun j hj => hpl (r) (by omega) j hj)
  have hzl := hpl (r) (by omega) n (Nat.le_refl _)
  have hcm := fun v w' (h : W64 w' v ((r) ^ n)) (k : W64 w' a m) => cmp64_call v a _ m w' h k (by omega) (by omega)
  have hcc : cmpN (r ^ n) m ≤ 0 := by
    rcases Nat.lt_or_ge (r ^ n) m with h | h
    · rw [cmpN_lt h]; omega
    · rw [show r ^ n = m from Nat.le_antisymm hr.1 h, cmpN_eq]; omega
  generalize cmpN (r ^ n) m = cc at *
  have HBITS := Lib.hid hbits
  have HLEN := Lib.hid hlen
  have HOWN := Lib.hid hown
  have HSR := Lib.hid hsr
  have HRT := Lib.hid hrt
  have HS1 := Lib.hid hs1
  have HSL := Lib.hid hsl
  have HNW := Lib.hid hnw
  have HPW := Lib.hid hpw
  have HCM := Lib.hid hcm
  clear hbits hlen hown hsr hrt hs1 hsl hnw hpw hcm
  have HA := Lib.hid ha
  obtain ⟨sz, hsz⟩ : ∃ sz, nbits m = sz := ⟨_, rfl⟩
  obtain ⟨A, c, rfl, _⟩ := ha
  rw [hsz] at HBITS hdd hdq hD hns hDs hb hnD hnl1
  obtain ⟨sm, hsm⟩ : ∃ sm, sz - 1 = sm := ⟨_, rfl⟩
  rw [hsm] at hdd hdq hD hnl1
  obtain ⟨q, hq⟩ : ∃ q, sm / n = q := ⟨_, rfl⟩
  rw [hq] at hdq hD
  have hD' : (q : Int) + 1 = (D : Int) := by omega
  have hqt : (sm : Int).tdiv (n : Int) = (q : Int) := by rw [Int.tdiv_eq_ediv_of_nonneg (by omega)]; exact hdq
  have hns' : ¬ sz ≤ n := by omega
  clear hsz hsm hq hD hr hr1 hnD hL hpl hbm hLn hrl h1l hz hzl hal hrr hb1 hm1 hm2 hhigh IH hwl hmN hr0 hm0 hX hlr hy hl0 hnl hXl hpp
  generalize (dig B64 m).length = LL at *
  obtain ⟨x, hx⟩ : ∃ x, D - L = x := ⟨_, rfl⟩
  rw [hx] at hlq hl5 hl6
  clear hx
  go_enter Try.func97, Try.ntmps97
  go_wp2_with (fail)
  refine (HBITS.out _ HA.out).mono ?_
  rintro e w1 ⟨rfl, rfl⟩
  go_wp2_with (fail)
  refine (HLEN.out _).mono ?_
  rintro e w2 ⟨rfl, rfl⟩
  go_wp2_with (fail)
  refine (HSR.out _ HA.out).mono ?_
  rintro e w3 ⟨v3, rfl, hv3, hb3⟩
  have b3 := below_at (Below.refl _ _) (Nat.le_refl _) hb3
  have ka_3 := HA.out.keep hb3
  have k3_3 := hv3
  go_wp2_with (fail)
  refine (HRT.out _ _ k3_3).mono ?_
  rintro e w4 ⟨v4, rfl, hv4, hb4⟩
  have b4 := below_at b3 (Nat.le_refl _) hb4
  have ka_4 := ka_3.keep hb4
  have k4_4 := hv4
  go_wp2_with (fail)
  refine (HS1.out _ _ _ (k4_4.keep (below_new _ (.cells #[.int .u64 1] 24))) (HOWN.out _)).mono ?_
  rintro e w5 ⟨v5, rfl, hv5, hb5⟩
  have b5 := below_at (Below.alloc b4 b4.size _) (Nat.le_refl _) hb5
  have ka_5 := (ka_4.keep (below_new _ (.cells #[.int .u64 1] 24))).keep hb5
  have k5_5 := hv5.is
  go_wp2_with (fail)
  refine (HSL.out _ _ k5_5).mono ?_
  rintro e w6 ⟨v6, rfl, hv6, hb6⟩
  have b6 := below_at b5 (Nat.le_refl _) hb6
  have ka_6 := ka_5.keep hb6
  have k6_6 := hv6.is
  go_wp2_with (fail)
  refine (HNW.out _ _ ka_6 k6_6).mono ?_
  rintro e w7 ⟨v7, rfl, hv7, hb7⟩
  have b7 := below_at b6 (Nat.le_refl _) hb7
  have ka_7 := ka_6.keep hb7
  have kz_7 := hv7
  go_wp2_with (fail)
  refine (HPW.out _ _ kz_7).mono ?_
  rintro e w8 ⟨v8, rfl, hv8, hb8⟩
  have b8 := below_at b7 (Nat.le_refl _) hb8
  have ka_8 := ka_7.keep hb8
  have kz_8 := kz_7.keep hb8
  have k8_8 := hv8.is
  go_wp2_with (fail)
  refine (HCM.out _ _ k8_8 ka_8).mono ?_
  rintro e w9 ⟨rfl, hb9⟩
  have b9 := below_at b8 (Nat.le_refl _) hb9
  have kz_9 := kz_8.keep hb9
  go_wp2
  go_ret
  exact ⟨_, rfl, kz_9, b9⟩

set_option maxHeartbeats 1200000 in
set_option maxRecDepth 100000 in
theorem root_a1 (N : Nat) (IH : ∀ m, m < N → ∀ (n r : Nat) (a : Value) (w : World), W64 w a m → 0 < m → 0 < n → nbits m ≤ 8000 → IsRoot n m r → Calls Try.prog 97 #[a, .int .i64 (n : Int)] w (NumPost w r)) (m n r D L low : Nat) (a : Value) (w : World) (hmN : m ≤ N) (ha : W64 w a m) (hr : IsRoot n m r) (hn2 : 2 ≤ n) (hns : n < nbits m) (hb : nbits m ≤ 8000) (hD : (nbits m - 1) / n + 1 = D) (hr1 : 2 ^ (D - 1) ≤ r) (hnD : n * (D - 1) ≤ nbits m - 1) (hD2 : 2 ≤ D) (hDs : D ≤ nbits m) (hL : nbits n = L) (hl : 2 * low + L ≤ D) (hl2 : D ≤ 2 * low + L + 1) (hl1 : 1 ≤ low) (hz : ((n - 1) * ((r / 2 ^ low + 1) * 2 ^ low) + m / ((r / 2 ^ low + 1) * 2 ^ low) ^ (n - 1)) / n = r + 1) :
    Calls Try.prog 97 #[a, .int .i64 (n : Int)] w (NumPost w r) := by
  have hm0 : 0 < m := by
    rcases Nat.eq_zero_or_pos m with h | h
    · rw [h] at hns; simp [nbits] at hns
    · exact h
  have hr0 : 0 < r := Nat.lt_of_lt_of_le (Nat.two_pow_pos _) hr1
  have hpl := pow_len hr.1 hr0 (Nat.le_of_lt hns) hb
  have hbm := nbits_ge (Nat.pos_iff_ne_zero.1 hm0)
  have hwl : (dig B64 m).length ≤ 125 := len_of_bits (by omega)
  have hLn : n < 2 ^ L := by rw [← hL]; exact nbits_lt n
  have hL64 : L ≤ 13 := by rw [← hL]; exact nbits_le (by omega)
  have hbits := fun w' (h : W64 w' a m) => bits_call a m w' h (by omega)
  have hlen := fun w' => len_nat n w' (by unfold B64; omega)
  rw [hL] at hlen
  have hwn : IntKind.u64.wrap (n : Int) = (n : Int) := by rw [IntKind.wrap_u64]; omega
  have hdd : ((nbits m : Nat) : Int) - 1 = ((nbits m - 1 : Nat) : Int) := by omega
  have hdq : ((nbits m - 1 : Nat) : Int) / (n : Int) = (((nbits m - 1) / n : Nat) : Int) := (Int.natCast_ediv _ _).symm
  have hn0 : ((n : Int) == 0) = false := by simp; omega
  have hn1 : ((n : Int) == 1) = false := by simp; omega
  have hrl : (dig B64 r).length ≤ 251 := by have := hpl r (by omega) 1 (by omega); rwa [Nat.pow_one] at this
  have hown := fun w' => own_v 1 (by omega) (by unfold B64; omega) w'
  have h1l : (dig B64 1).length ≤ 1 := small64 (by unfold B64; omega)
  obtain ⟨X, hX⟩ : ∃ X, (r / 2 ^ low + 1) * 2 ^ low = X := ⟨_, rfl⟩
  have hlr : 2 ^ low ≤ r := Nat.le_trans (Nat.pow_le_pow_right (by omega) (by omega)) hr1
  have hy := newton_y (n := n - 1) (by omega) hl hr1 (by omega) X hX.symm
  have hl0 : low < D := by omega
  obtain ⟨nl, hnl⟩ : ∃ nl, n * low = nl := ⟨_, rfl⟩
  have hnl1 : nl ≤ nbits m - 1 := by rw [← hnl]; exact Nat.le_trans (Nat.mul_le_mul_left n (by omega)) hnD
  have hnl2 : 1 ≤ nl := by rw [← hnl]; exact Nat.mul_pos (by omega) hl1
  have hnlI : (n : Int) * (low : Int) = (nl : Int) := by rw [← hnl]; exact (Int.natCast_mul n low).symm
  have hhigh := hr.high low
  rw [hnl] at hhigh
  have hm1 : 0 < m / 2 ^ nl := Nat.div_pos (Nat.le_trans (Nat.pow_le_pow_right (by omega) hnl1) hbm) (Nat.two_pow_pos _)
  have hm2 : m / 2 ^ nl < N := Nat.lt_of_lt_of_le (Nat.div_lt_self hm0 (Nat.one_lt_two_pow (by omega))) hmN
  have hb1 : nbits (m / 2 ^ nl) ≤ 8000 := Nat.le_trans (nbits_le (Nat.lt_of_le_of_lt (Nat.div_le_self _ _) (nbits_lt m))) hb
  have hsr := fun w' (h : W64 w' a m) => shiftRight_any a m nl w' h (by omega) (by omega)
  have hrt := fun v w' (h : W64 w' v (m / 2 ^ nl)) => IH _ hm2 n _ v w' h hm1 (by omega) hb1 hhigh
  have hrr : (dig B64 (r / 2 ^ low)).length ≤ 251 := Nat.le_trans (lenm (Nat.div_le_self _ _)) hrl
  have hs1 := fun u v w' (h : W64 w' u (r / 2 ^ low)) (l : W64 w' v 1) => sum_any u v _ 1 w' h l (by omega) (by omega)
  have hXl : (dig B64 X).length ≤ 251 := by have := hpl X (by omega) 1 (by omega); rwa [Nat.pow_one] at this
  have hpp : r / 2 ^ low + 1 ≤ X := by rw [← hX]; exact Nat.le_mul_of_pos_right _ (Nat.two_pow_pos low)
  have hal : (dig B64 (r / 2 ^ low + 1)).length ≤ 251 := Nat.le_trans (lenm hpp) hXl
  have hsl := fun v w' (h : W64 w' v (r / 2 ^ low + 1)) => shiftLeft_any v _ low w' h (by omega) (by omega)
  rw [hX] at hsl hz
  have hnw := fun v w' (h : W64 w' a m) (l : W64 w' v X) => newton_any a v m n (n - 1) X w' h l (by omega) (by omega) (by omega) (by omega) (by omega) (fun j hj => Nat.le_trans (hpl X (by omega) j (by omega)) (by omega)) (by omega)
  rw [hz] at hnw
  have hlq : (D : Int) - (L : Int) = ((D - L : Nat) : Int) := by omega
  have hl5 : ((D - L : Nat) : Int) / 2 = (low : Int) := by omega
  have hl6 : ((D - L : Nat) : Int).tdiv 2 = (low : Int) := by rw [Int.tdiv_eq_ediv_of_nonneg (by omega)]; exact hl5
  have hpw := fun v w' (h : W64 w' v (r + 1)) => power_any (mulSpec_all 251 (by omega)) v (r + 1) n w' h (by omega) (by have := hpl (r + 1) (by omega) 1 (by omega); rwa [Nat.pow_one] at this) (fun j hj => hpl (r + 1) (by omega) j hj)
  have hzl := hpl (r + 1) (by omega) n (Nat.le_refl _)
  have hcm := fun v w' (h : W64 w' v ((r + 1) ^ n)) (k : W64 w' a m) => cmp64_call v a _ m w' h k (by omega) (by omega)
  have hcc : cmpN ((r + 1) ^ n) m = 1 := cmpN_gt hr.2
  rw [hcc] at hcm
  have hdf := fun u v w' (h : W64 w' u (r + 1)) (k : W64 w' v 1) => diff_any u v (r + 1) 1 w' h k (by have := hpl (r + 1) (by omega) 1 (by omega); rw [Nat.pow_one] at this; omega) (by omega)
  rw [Nat.add_sub_cancel] at hdf
  have HBITS := Lib.hid hbits
  have HLEN := Lib.hid hlen
  have HOWN := Lib.hid hown
  have HSR := Lib.hid hsr
  have HRT := Lib.hid hrt
  have HS1 := Lib.hid hs1
  have HSL := Lib.hid hsl
  have HNW := Lib.hid hnw
  have HPW := Lib.hid hpw
  have HCM := Lib.hid hcm
  have HDF := Lib.hid hdf
  clear hbits hlen hown hsr hrt hs1 hsl hnw hpw hcm hdf
  have HA := Lib.hid ha
  obtain ⟨sz, hsz⟩ : ∃ sz, nbits m = sz := ⟨_, rfl⟩
  obtain ⟨A, c, rfl, _⟩ := ha
  rw [hsz] at HBITS hdd hdq hD hns hDs hb hnD hnl1
  obtain ⟨sm, hsm⟩ : ∃ sm, sz - 1 = sm := ⟨_, rfl⟩
  rw [hsm] at hdd hdq hD hnl1
  obtain ⟨q, hq⟩ : ∃ q, sm / n = q := ⟨_, rfl⟩
  rw [hq] at hdq hD
  have hD' : (q : Int) + 1 = (D : Int) := by omega
  have hqt : (sm : Int).tdiv (n : Int) = (q : Int) := by rw [Int.tdiv_eq_ediv_of_nonneg (by omega)]; exact hdq
  have hns' : ¬ sz ≤ n := by omega
  clear hsz hsm hq hD hr hr1 hnD hL hpl hbm hLn hrl h1l hz hzl hal hrr hb1 hm1 hm2 hhigh IH hwl hmN hr0 hm0 hX hlr hy hl0 hnl hXl hpp hcc
  generalize (dig B64 m).length = LL at *
  obtain ⟨x, hx⟩ : ∃ x, D - L = x := ⟨_, rfl⟩
  rw [hx] at hlq hl5 hl6
  clear hx
  go_enter Try.func97, Try.ntmps97
  go_wp2_with (fail)
  refine (HBITS.out _ HA.out).mono ?_
  rintro e w1 ⟨rfl, rfl⟩
  go_wp2_with (fail)
  refine (HLEN.out _).mono ?_
  rintro e w2 ⟨rfl, rfl⟩
  go_wp2_with (fail)
  refine (HSR.out _ HA.out).mono ?_
  rintro e w3 ⟨v3, rfl, hv3, hb3⟩
  have b3 := below_at (Below.refl _ _) (Nat.le_refl _) hb3
  have ka_3 := HA.out.keep hb3
  have k3_3 := hv3
  go_wp2_with (fail)
  refine (HRT.out _ _ k3_3).mono ?_
  rintro e w4 ⟨v4, rfl, hv4, hb4⟩
  have b4 := below_at b3 (Nat.le_refl _) hb4
  have ka_4 := ka_3.keep hb4
  have k4_4 := hv4
  go_wp2_with (fail)
  refine (HS1.out _ _ _ (k4_4.keep (below_new _ (.cells #[.int .u64 1] 24))) (HOWN.out _)).mono ?_
  rintro e w5 ⟨v5, rfl, hv5, hb5⟩
  have b5 := below_at (Below.alloc b4 b4.size _) (Nat.le_refl _) hb5
  have ka_5 := (ka_4.keep (below_new _ (.cells #[.int .u64 1] 24))).keep hb5
  have k5_5 := hv5.is
  go_wp2_with (fail)
  refine (HSL.out _ _ k5_5).mono ?_
  rintro e w6 ⟨v6, rfl, hv6, hb6⟩
  have b6 := below_at b5 (Nat.le_refl _) hb6
  have ka_6 := ka_5.keep hb6
  have k6_6 := hv6.is
  go_wp2_with (fail)
  refine (HNW.out _ _ ka_6 k6_6).mono ?_
  rintro e w7 ⟨v7, rfl, hv7, hb7⟩
  have b7 := below_at b6 (Nat.le_refl _) hb7
  have ka_7 := ka_6.keep hb7
  have kz_7 := hv7
  go_wp2_with (fail)
  refine (HPW.out _ _ kz_7).mono ?_
  rintro e w8 ⟨v8, rfl, hv8, hb8⟩
  have b8 := below_at b7 (Nat.le_refl _) hb8
  have ka_8 := ka_7.keep hb8
  have kz_8 := kz_7.keep hb8
  have k8_8 := hv8.is
  go_wp2_with (fail)
  refine (HCM.out _ _ k8_8 ka_8).mono ?_
  rintro e w9 ⟨rfl, hb9⟩
  have b9 := below_at b8 (Nat.le_refl _) hb9
  have kz_9 := kz_8.keep hb9
  go_wp2_with (fail)
  refine (HDF.out _ _ _ (kz_9.keep (below_new _ (.cells #[.int .u64 1] 24))) (HOWN.out _)).mono ?_
  rintro e w10 ⟨v9, rfl, hv9, hb10⟩
  have b10 := below_at (Below.alloc b9 b9.size _) (Nat.le_refl _) hb10
  have k9_10 := hv9.is
  go_wp2
  go_ret
  exact ⟨_, rfl, k9_10, b10⟩

set_option maxHeartbeats 1200000 in
set_option maxRecDepth 100000 in
theorem root_b0 (N : Nat) (IH : ∀ m, m < N → ∀ (n r : Nat) (a : Value) (w : World), W64 w a m → 0 < m → 0 < n → nbits m ≤ 8000 → IsRoot n m r → Calls Try.prog 97 #[a, .int .i64 (n : Int)] w (NumPost w r)) (m n r D L : Nat) (a : Value) (w : World) (hmN : m ≤ N) (ha : W64 w a m) (hr : IsRoot n m r) (hn2 : 2 ≤ n) (hns : n < nbits m) (hb : nbits m ≤ 8000) (hD : (nbits m - 1) / n + 1 = D) (hr1 : 2 ^ (D - 1) ≤ r) (hnD : n * (D - 1) ≤ nbits m - 1) (hD2 : 2 ≤ D) (hDs : D ≤ nbits m) (hL : nbits n = L) (hl : D < L + 2) (hz : r / 2 * 2 + 1 = r) :
    Calls Try.prog 97 #[a, .int .i64 (n : Int)] w (NumPost w r) := by
  have hm0 : 0 < m := by
    rcases Nat.eq_zero_or_pos m with h | h
    · rw [h] at hns; simp [nbits] at hns
    · exact h
  have hr0 : 0 < r := Nat.lt_of_lt_of_le (Nat.two_pow_pos _) hr1
  have hpl := pow_len hr.1 hr0 (Nat.le_of_lt hns) hb
  have hbm := nbits_ge (Nat.pos_iff_ne_zero.1 hm0)
  have hwl : (dig B64 m).length ≤ 125 := len_of_bits (by omega)
  have hLn : n < 2 ^ L := by rw [← hL]; exact nbits_lt n
  have hL64 : L ≤ 13 := by rw [← hL]; exact nbits_le (by omega)
  have hbits := fun w' (h : W64 w' a m) => bits_call a m w' h (by omega)
  have hlen := fun w' => len_nat n w' (by unfold B64; omega)
  rw [hL] at hlen
  have hwn : IntKind.u64.wrap (n : Int) = (n : Int) := by rw [IntKind.wrap_u64]; omega
  have hdd : ((nbits m : Nat) : Int) - 1 = ((nbits m - 1 : Nat) : Int) := by omega
  have hdq : ((nbits m - 1 : Nat) : Int) / (n : Int) = (((nbits m - 1) / n : Nat) : Int) := (Int.natCast_ediv _ _).symm
  have hn0 : ((n : Int) == 0) = false := by simp; omega
  have hn1 : ((n : Int) == 1) = false := by simp; omega
  have hrl : (dig B64 r).length ≤ 251 := by have := hpl r (by omega) 1 (by omega); rwa [Nat.pow_one] at this
  have hown := fun w' => own_v 1 (by omega) (by unfold B64; omega) w'
  have h1l : (dig B64 1).length ≤ 1 := small64 (by unfold B64; omega)
  have hhigh := hr.high 1
  rw [Nat.mul_one, Nat.pow_one] at hhigh
  have hm1 : 0 < m / 2 ^ n := Nat.div_pos (Nat.le_trans (Nat.pow_le_pow_right (by omega) (by omega)) hbm) (Nat.two_pow_pos _)
  have hm2 : m / 2 ^ n < N := Nat.lt_of_lt_of_le (Nat.div_lt_self hm0 (Nat.one_lt_two_pow (by omega))) hmN
  have hb1 : nbits (m / 2 ^ n) ≤ 8000 := Nat.le_trans (nbits_le (Nat.lt_of_le_of_lt (Nat.div_le_self _ _) (nbits_lt m))) hb
  have hsr := fun w' (h : W64 w' a m) => shiftRight_any a m n w' h (by omega) (by omega)
  have hrt := fun v w' (h : W64 w' v (m / 2 ^ n)) => IH _ hm2 n _ v w' h hm1 (by omega) hb1 hhigh
  have hrr : (dig B64 (r / 2)).length ≤ 251 := Nat.le_trans (lenm (Nat.div_le_self _ _)) hrl
  have hsl := fun v w' (h : W64 w' v (r / 2)) => shiftLeft_any v _ 1 w' h (by omega) (by omega)
  rw [Nat.pow_one] at hsl
  have hal : (dig B64 (r / 2 * 2)).length ≤ 251 := Nat.le_trans (lenm (Nat.div_mul_le_self _ _)) hrl
  have hs1 := fun u v w' (h : W64 w' u (r / 2 * 2)) (l : W64 w' v 1) => sum_any u v _ 1 w' h l (by omega) (by omega)
  rw [hz] at hs1
  obtain ⟨sd, hsd⟩ : ∃ sd : Int, (D : Int) - (L : Int) = sd := ⟨_, rfl⟩
  have hsd1 : -13 ≤ sd := by omega
  have hsd2 : sd ≤ 1 := by omega
  obtain ⟨t, ht⟩ : ∃ t : Int, sd.tdiv 2 = t := ⟨_, rfl⟩
  have ht0 : t ≤ 0 := by
    rw [← ht]
    rcases Int.lt_or_le sd 0 with h | h
    · obtain ⟨u, rfl⟩ : ∃ u, sd = -u := ⟨-sd, by omega⟩
      rw [Int.neg_tdiv, Int.tdiv_eq_ediv_of_nonneg (by omega)]; omega
    · rw [Int.tdiv_eq_ediv_of_nonneg h]; omega
  have ht1 : -10 ≤ t := by
    rw [← ht]
    rcases Int.lt_or_le sd 0 with h | h
    · obtain ⟨u, rfl⟩ : ∃ u, sd = -u := ⟨-sd, by omega⟩
      rw [Int.neg_tdiv, Int.tdiv_eq_ediv_of_nonneg (by omega)]; omega
    · rw [Int.tdiv_eq_ediv_of_nonneg h]; omega
  have hpw := fun v w' (h : W64 w' v (r)) => power_any (mulSpec_all 251 (by omega)) v (r) n w' h (by omega) (by have := hpl (r) (by omega) 1 (by omega); rwa [Nat.pow_one] at this) (fun j hj => hpl (r) (by omega) j hj)
  have hzl := hpl (r) (by omega) n (Nat.le_refl _)
  have hcm := fun v w' (h : W64 w' v ((r) ^ n)) (k : W64 w' a m) => cmp64_call v a _ m w' h k (by omega) (by omega)
  have hcc : cmpN (r ^ n) m ≤ 0 := by
    rcases Nat.lt_or_ge (r ^ n) m with h | h
    · rw [cmpN_lt h]; omega
    · rw [show r ^ n = m from Nat.le_antisymm hr.1 h, cmpN_eq]; omega
  generalize cmpN (r ^ n) m = cc at *
  have HBITS := Lib.hid hbits
  have HLEN := Lib.hid hlen
  have HOWN := Lib.hid hown
  have HSR := Lib.hid hsr
  have HRT := Lib.hid hrt
  have HS1 := Lib.hid hs1
  have HSL := Lib.hid hsl
  have HPW := Lib.hid hpw
  have HCM := Lib.hid hcm
  clear hbits hlen hown hsr hrt hs1 hsl hpw hcm
  have HA := Lib.hid ha
  obtain ⟨sz, hsz⟩ : ∃ sz, nbits m = sz := ⟨_, rfl⟩
  obtain ⟨A, c, rfl, _⟩ := ha
  rw [hsz] at HBITS hdd hdq hD hns hDs hb hnD 
  obtain ⟨sm, hsm⟩ : ∃ sm, sz - 1 = sm := ⟨_, rfl⟩
  rw [hsm] at hdd hdq hD 
  obtain ⟨q, hq⟩ : ∃ q, sm / n = q := ⟨_, rfl⟩
  rw [hq] at hdq hD
  have hD' : (q : Int) + 1 = (D : Int) := by omega
  have hqt : (sm : Int).tdiv (n : Int) = (q : Int) := by rw [Int.tdiv_eq_ediv_of_nonneg (by omega)]; exact hdq
  have hns' : ¬ sz ≤ n := by omega
  clear hsz hsm hq hD hr hr1 hnD hL hpl hbm hLn hrl h1l hz hzl hal hrr hb1 hm1 hm2 hhigh IH hwl hmN hr0 hm0
  generalize (dig B64 m).length = LL at *
  go_enter Try.func97, Try.ntmps97
  go_wp2_with (fail)
  refine (HBITS.out _ HA.out).mono ?_
  rintro e w1 ⟨rfl, rfl⟩
  go_wp2_with (fail)
  refine (HLEN.out _).mono ?_
  rintro e w2 ⟨rfl, rfl⟩
  go_wp2_with (fail)
  refine (HSR.out _ HA.out).mono ?_
  rintro e w3 ⟨v3, rfl, hv3, hb3⟩
  have b3 := below_at (Below.refl _ _) (Nat.le_refl _) hb3
  have ka_3 := HA.out.keep hb3
  have k3_3 := hv3
  go_wp2_with (fail)
  refine (HRT.out _ _ k3_3).mono ?_
  rintro e w4 ⟨v4, rfl, hv4, hb4⟩
  have b4 := below_at b3 (Nat.le_refl _) hb4
  have ka_4 := ka_3.keep hb4
  have k4_4 := hv4
  go_wp2_with (fail)
  refine (HSL.out _ _ k4_4).mono ?_
  rintro e w5 ⟨v5, rfl, hv5, hb5⟩
  have b5 := below_at b4 (Nat.le_refl _) hb5
  have ka_5 := ka_4.keep hb5
  have k5_5 := hv5.is
  go_wp2_with (fail)
  refine (HS1.out _ _ _ (k5_5.keep (below_new _ (.cells #[.int .u64 1] 24))) (HOWN.out _)).mono ?_
  rintro e w6 ⟨v7, rfl, hv7, hb6⟩
  have b6 := below_at (Below.alloc b5 b5.size _) (Nat.le_refl _) hb6
  have ka_6 := (ka_5.keep (below_new _ (.cells #[.int .u64 1] 24))).keep hb6
  have kz_6 := hv7.is
  go_wp2_with (fail)
  refine (HPW.out _ _ kz_6).mono ?_
  rintro e w7 ⟨v8, rfl, hv8, hb7⟩
  have b7 := below_at b6 (Nat.le_refl _) hb7
  have ka_7 := ka_6.keep hb7
  have kz_7 := kz_6.keep hb7
  have k8_7 := hv8.is
  go_wp2_with (fail)
  refine (HCM.out _ _ k8_7 ka_7).mono ?_
  rintro e w8 ⟨rfl, hb8⟩
  have b8 := below_at b7 (Nat.le_refl _) hb8
  have kz_8 := kz_7.keep hb8
  go_wp2
  go_ret
  exact ⟨_, rfl, kz_8, b8⟩

set_option maxHeartbeats 1200000 in
set_option maxRecDepth 100000 in
theorem root_b1 (N : Nat) (IH : ∀ m, m < N → ∀ (n r : Nat) (a : Value) (w : World), W64 w a m → 0 < m → 0 < n → nbits m ≤ 8000 → IsRoot n m r → Calls Try.prog 97 #[a, .int .i64 (n : Int)] w (NumPost w r)) (m n r D L : Nat) (a : Value) (w : World) (hmN : m ≤ N) (ha : W64 w a m) (hr : IsRoot n m r) (hn2 : 2 ≤ n) (hns : n < nbits m) (hb : nbits m ≤ 8000) (hD : (nbits m - 1) / n + 1 = D) (hr1 : 2 ^ (D - 1) ≤ r) (hnD : n * (D - 1) ≤ nbits m - 1) (hD2 : 2 ≤ D) (hDs : D ≤ nbits m) (hL : nbits n = L) (hl : D < L + 2) (hz : r / 2 * 2 + 1 = r + 1) :
    Calls Try.prog 97 #[a, .int .i64 (n : Int)] w (NumPost w r) := by
  have hm0 : 0 < m := by
    rcases Nat.eq_zero_or_pos m with h | h
    · rw [h] at hns; simp [nbits] at hns
    · exact h
  have hr0 : 0 < r := Nat.lt_of_lt_of_le (Nat.two_pow_pos _) hr1
  have hpl := pow_len hr.1 hr0 (Nat.le_of_lt hns) hb
  have hbm := nbits_ge (Nat.pos_iff_ne_zero.1 hm0)
  have hwl : (dig B64 m).length ≤ 125 := len_of_bits (by omega)
  have hLn : n < 2 ^ L := by rw [← hL]; exact nbits_lt n
  have hL64 : L ≤ 13 := by rw [← hL]; exact nbits_le (by omega)
  have hbits := fun w' (h : W64 w' a m) => bits_call a m w' h (by omega)
  have hlen := fun w' => len_nat n w' (by unfold B64; omega)
  rw [hL] at hlen
  have hwn : IntKind.u64.wrap (n : Int) = (n : Int) := by rw [IntKind.wrap_u64]; omega
  have hdd : ((nbits m : Nat) : Int) - 1 = ((nbits m - 1 : Nat) : Int) := by omega
  have hdq : ((nbits m - 1 : Nat) : Int) / (n : Int) = (((nbits m - 1) / n : Nat) : Int) := (Int.natCast_ediv _ _).symm
  have hn0 : ((n : Int) == 0) = false := by simp; omega
  have hn1 : ((n : Int) == 1) = false := by simp; omega
  have hrl : (dig B64 r).length ≤ 251 := by have := hpl r (by omega) 1 (by omega); rwa [Nat.pow_one] at this
  have hown := fun w' => own_v 1 (by omega) (by unfold B64; omega) w'
  have h1l : (dig B64 1).length ≤ 1 := small64 (by unfold B64; omega)
  have hhigh := hr.high 1
  rw [Nat.mul_one, Nat.pow_one] at hhigh
  have hm1 : 0 < m / 2 ^ n := Nat.div_pos (Nat.le_trans (Nat.pow_le_pow_right (by omega) (by omega)) hbm) (Nat.two_pow_pos _)
  have hm2 : m / 2 ^ n < N := Nat.lt_of_lt_of_le (Nat.div_lt_self hm0 (Nat.one_lt_two_pow (by omega))) hmN
  have hb1 : nbits (m / 2 ^ n) ≤ 8000 := Nat.le_trans (nbits_le (Nat.lt_of_le_of_lt (Nat.div_le_self _ _) (nbits_lt m))) hb
  have hsr := fun w' (h : W64 w' a m) => shiftRight_any a m n w' h (by omega) (by omega)
  have hrt := fun v w' (h : W64 w' v (m / 2 ^ n)) => IH _ hm2 n _ v w' h hm1 (by omega) hb1 hhigh
  have hrr : (dig B64 (r / 2)).length ≤ 251 := Nat.le_trans (lenm (Nat.div_le_self _ _)) hrl
  have hsl := fun v w' (h : W64 w' v (r / 2)) => shiftLeft_any v _ 1 w' h (by omega) (by omega)
  rw [Nat.pow_one] at hsl
  have hal : (dig B64 (r / 2 * 2)).length ≤ 251 := Nat.le_trans (lenm (Nat.div_mul_le_self _ _)) hrl
  have hs1 := fun u v w' (h : W64 w' u (r / 2 * 2)) (l : W64 w' v 1) => sum_any u v _ 1 w' h l (by omega) (by omega)
  rw [hz] at hs1
  obtain ⟨sd, hsd⟩ : ∃ sd : Int, (D : Int) - (L : Int) = sd := ⟨_, rfl⟩
  have hsd1 : -13 ≤ sd := by omega
  have hsd2 : sd ≤ 1 := by omega
  obtain ⟨t, ht⟩ : ∃ t : Int, sd.tdiv 2 = t := ⟨_, rfl⟩
  have ht0 : t ≤ 0 := by
    rw [← ht]
    rcases Int.lt_or_le sd 0 with h | h
    · obtain ⟨u, rfl⟩ : ∃ u, sd = -u := ⟨-sd, by omega⟩
      rw [Int.neg_tdiv, Int.tdiv_eq_ediv_of_nonneg (by omega)]; omega
    · rw [Int.tdiv_eq_ediv_of_nonneg h]; omega
  have ht1 : -10 ≤ t := by
    rw [← ht]
    rcases Int.lt_or_le sd 0 with h | h
    · obtain ⟨u, rfl⟩ : ∃ u, sd = -u := ⟨-sd, by omega⟩
      rw [Int.neg_tdiv, Int.tdiv_eq_ediv_of_nonneg (by omega)]; omega
    · rw [Int.tdiv_eq_ediv_of_nonneg h]; omega
  have hpw := fun v w' (h : W64 w' v (r + 1)) => power_any (mulSpec_all 251 (by omega)) v (r + 1) n w' h (by omega) (by have := hpl (r + 1) (by omega) 1 (by omega); rwa [Nat.pow_one] at this) (fun j hj => hpl (r + 1) (by omega) j hj)
  have hzl := hpl (r + 1) (by omega) n (Nat.le_refl _)
  have hcm := fun v w' (h : W64 w' v ((r + 1) ^ n)) (k : W64 w' a m) => cmp64_call v a _ m w' h k (by omega) (by omega)
  have hcc : cmpN ((r + 1) ^ n) m = 1 := cmpN_gt hr.2
  rw [hcc] at hcm
  have hdf := fun u v w' (h : W64 w' u (r + 1)) (k : W64 w' v 1) => diff_any u v (r + 1) 1 w' h k (by have := hpl (r + 1) (by omega) 1 (by omega); rw [Nat.pow_one] at this; omega) (by omega)
  rw [Nat.add_sub_cancel] at hdf
  have HBITS := Lib.hid hbits
  have HLEN := Lib.hid hlen
  have HOWN := Lib.hid hown
  have HSR := Lib.hid hsr
  have HRT := Lib.hid hrt
  have HS1 := Lib.hid hs1
  have HSL := Lib.hid hsl
  have HPW := Lib.hid hpw
  have HCM := Lib.hid hcm
  have HDF := Lib.hid hdf
  clear hbits hlen hown hsr hrt hs1 hsl hpw hcm hdf
  have HA := Lib.hid ha
  obtain ⟨sz, hsz⟩ : ∃ sz, nbits m = sz := ⟨_, rfl⟩
  obtain ⟨A, c, rfl, _⟩ := ha
  rw [hsz] at HBITS hdd hdq hD hns hDs hb hnD 
  obtain ⟨sm, hsm⟩ : ∃ sm, sz - 1 = sm := ⟨_, rfl⟩
  rw [hsm] at hdd hdq hD 
  obtain ⟨q, hq⟩ : ∃ q, sm / n = q := ⟨_, rfl⟩
  rw [hq] at hdq hD
  have hD' : (q : Int) + 1 = (D : Int) := by omega
  have hqt : (sm : Int).tdiv (n : Int) = (q : Int) := by rw [Int.tdiv_eq_ediv_of_nonneg (by omega)]; exact hdq
  have hns' : ¬ sz ≤ n := by omega
  clear hsz hsm hq hD hr hr1 hnD hL hpl hbm hLn hrl h1l hz hzl hal hrr hb1 hm1 hm2 hhigh IH hwl hmN hr0 hm0 hcc
  generalize (dig B64 m).length = LL at *
  go_enter Try.func97, Try.ntmps97
  go_wp2_with (fail)
  refine (HBITS.out _ HA.out).mono ?_
  rintro e w1 ⟨rfl, rfl⟩
  go_wp2_with (fail)
  refine (HLEN.out _).mono ?_
  rintro e w2 ⟨rfl, rfl⟩
  go_wp2_with (fail)
  refine (HSR.out _ HA.out).mono ?_
  rintro e w3 ⟨v3, rfl, hv3, hb3⟩
  have b3 := below_at (Below.refl _ _) (Nat.le_refl _) hb3
  have ka_3 := HA.out.keep hb3
  have k3_3 := hv3
  go_wp2_with (fail)
  refine (HRT.out _ _ k3_3).mono ?_
  rintro e w4 ⟨v4, rfl, hv4, hb4⟩
  have b4 := below_at b3 (Nat.le_refl _) hb4
  have ka_4 := ka_3.keep hb4
  have k4_4 := hv4
  go_wp2_with (fail)
  refine (HSL.out _ _ k4_4).mono ?_
  rintro e w5 ⟨v5, rfl, hv5, hb5⟩
  have b5 := below_at b4 (Nat.le_refl _) hb5
  have ka_5 := ka_4.keep hb5
  have k5_5 := hv5.is
  go_wp2_with (fail)
  refine (HS1.out _ _ _ (k5_5.keep (below_new _ (.cells #[.int .u64 1] 24))) (HOWN.out _)).mono ?_
  rintro e w6 ⟨v7, rfl, hv7, hb6⟩
  have b6 := below_at (Below.alloc b5 b5.size _) (Nat.le_refl _) hb6
  have ka_6 := (ka_5.keep (below_new _ (.cells #[.int .u64 1] 24))).keep hb6
  have kz_6 := hv7.is
  go_wp2_with (fail)
  refine (HPW.out _ _ kz_6).mono ?_
  rintro e w7 ⟨v8, rfl, hv8, hb7⟩
  have b7 := below_at b6 (Nat.le_refl _) hb7
  have ka_7 := ka_6.keep hb7
  have kz_7 := kz_6.keep hb7
  have k8_7 := hv8.is
  go_wp2_with (fail)
  refine (HCM.out _ _ k8_7 ka_7).mono ?_
  rintro e w8 ⟨rfl, hb8⟩
  have b8 := below_at b7 (Nat.le_refl _) hb8
  have kz_8 := kz_7.keep hb8
  go_wp2_with (fail)
  refine (HDF.out _ _ _ (kz_8.keep (below_new _ (.cells #[.int .u64 1] 24))) (HOWN.out _)).mono ?_
  rintro e w9 ⟨v9, rfl, hv9, hb9⟩
  have b9 := below_at (Below.alloc b8 b8.size _) (Nat.le_refl _) hb9
  have k9_9 := hv9.is
  go_wp2
  go_ret
  exact ⟨_, rfl, k9_9, b9⟩

set_option maxHeartbeats 1000000 in
set_option maxRecDepth 100000 in
theorem root_id (a : Value) (m : Nat) (w : World) (ha : W64 w a m) (hb : nbits m ≤ 8000) (h1 : 1 < nbits m) : Calls Try.prog 97 #[a, .int .i64 1] w (NumPost w m) := by
  have hwl : (dig B64 m).length ≤ 125 := len_of_bits (by omega)
  have hbits := bits_call a m w ha (by omega)
  have HB := Lib.hid hbits
  have HA := Lib.hid ha
  obtain ⟨A, c, rfl, _⟩ := ha
  clear hbits
  generalize (dig B64 m).length = LL at *
  generalize nbits m = sz at *
  have h2 : ¬ sz ≤ 1 := by omega
  go_enter Try.func97, Try.ntmps97
  go_wp2_with (go_at_call 91; refine HB.out.mono ?_; rintro e w1 ⟨rfl, rfl⟩)
  go_ret
  exact ⟨_, rfl, HA.out, Below.refl _ _⟩

/-- root: the integer part of the nth root. -/
theorem root_all (N : Nat) : ∀ m, m ≤ N → ∀ (n r : Nat) (a : Value) (w : World), W64 w a m → 0 < m → 0 < n → nbits m ≤ 8000 → IsRoot n m r → Calls Try.prog 97 #[a, .int .i64 (n : Int)] w (NumPost w r) := by
  induction N with
  | zero => intro m h n r a w _ h0; omega
  | succ N ih =>
    intro m hm n r a w ha h0 hn hb hr
    have IH : ∀ m', m' < N + 1 → ∀ (n r : Nat) (a : Value) (w : World), W64 w a m' → 0 < m' → 0 < n → nbits m' ≤ 8000 → IsRoot n m' r → Calls Try.prog 97 #[a, .int .i64 (n : Int)] w (NumPost w r) := fun m' h => ih m' (by omega)
    rcases Nat.lt_or_ge n (nbits m) with hs | hs
    · rcases Nat.lt_or_ge n 2 with h2 | h2
      · obtain rfl : n = 1 := by omega
        have e : r = m := hr.unique ⟨by rw [Nat.pow_one]; exact Nat.le_refl _, by rw [Nat.pow_one]; omega⟩
        rw [e]
        exact root_id a m w ha hb hs
      · obtain ⟨D, hD, k1, _, k3, k4, k5⟩ := root_numbers hr hn hs
        have hr0 : 0 < r := Nat.lt_of_lt_of_le (Nat.two_pow_pos _) k1
        rcases Nat.lt_or_ge D (nbits n + 2) with hl | hl
        · have hz : r / 2 * 2 + 1 = r ∨ r / 2 * 2 + 1 = r + 1 := by omega
          rcases hz with hz | hz
          · exact root_b0 (N + 1) IH m n r D _ a w hm ha hr h2 hs hb hD k1 k3 k4 k5 rfl hl hz
          · exact root_b1 (N + 1) IH m n r D _ a w hm ha hr h2 hs hb hD k1 k3 k4 k5 rfl hl hz
        · obtain ⟨low, hlow⟩ : ∃ low, (D - nbits n) / 2 = low := ⟨_, rfl⟩
          have hLn := nbits_lt n
          obtain ⟨X, hX⟩ : ∃ X, (r / 2 ^ low + 1) * 2 ^ low = X := ⟨_, rfl⟩
          have hy := newton_y (D := D) (L := nbits n) (low := low) (n := n - 1) (r := r) (by omega) (by omega) k1 (by omega) X hX.symm
          have g1 : r ≤ ((n - 1) * X + m / X ^ (n - 1)) / (n - 1 + 1) := newton_ge (by rw [show n - 1 + 1 = n by omega]; exact hr.1) (by omega) (by omega)
          have g2 : ((n - 1) * X + m / X ^ (n - 1)) / (n - 1 + 1) ≤ r + 1 := newton_le (by rw [show n - 1 + 1 = n by omega]; exact hr.2) hy.1 hy.2.2
          rw [show n - 1 + 1 = n by omega] at g1 g2
          have hz : ((n - 1) * X + m / X ^ (n - 1)) / n = r ∨ ((n - 1) * X + m / X ^ (n - 1)) / n = r + 1 := by
            generalize ((n - 1) * X + m / X ^ (n - 1)) / n = z at *
            omega
          rw [← hX] at hz
          rcases hz with hz | hz
          · exact root_a0 (N + 1) IH m n r D _ low a w hm ha hr h2 hs hb hD k1 k3 k4 k5 rfl (by omega) (by omega) (by omega) hz
          · exact root_a1 (N + 1) IH m n r D _ low a w hm ha hr h2 hs hb hD k1 k3 k4 k5 rfl (by omega) (by omega) (by omega) hz
    · have e : r = 1 := hr.unique ⟨by rw [Nat.one_pow]; exact h0, Nat.lt_of_lt_of_le (nbits_lt m) (Nat.pow_le_pow_right (by omega) hs)⟩
      rw [e]
      exact root_one a m n w ha (Nat.le_trans (len_of_bits (k := 125) (by omega)) (by omega)) hs
theorem root_any (a : Value) (m n r : Nat) (w : World) (ha : W64 w a m) (h0 : 0 < m) (hn : 0 < n) (hb : nbits m ≤ 8000) (hr : IsRoot n m r) : Calls Try.prog 97 #[a, .int .i64 (n : Int)] w (NumPost w r) :=
  root_all m m (Nat.le_refl _) n r a w ha h0 hn hb hr
end Go.Proofs.Ytaegkhdkhgemmaa

namespace Go.Proofs.Ytaegkhdkhgemmaa
open Go.RowKit Num

set_option maxHeartbeats 1000000 in
theorem refCmp_any (A A' : Option Addr) (c c' L L' m n : Nat) (w : World) (h : Nums .u32 w A (dig B32 m)) (h' : Nums .u32 w A' (dig B32 n)) (hL : L = (dig B32 m).length) (hL' : L' = (dig B32 n).length) (hl : L ≤ 1000000000000) (hl' : L' ≤ 1000000000000) :
    Calls Try.prog 42 #[.slice A L c, .slice A' L' c'] w fun e w' => e = .returned (.int .i64 (cmpN m n)) ∧ Below w.heap.size w w' := by
  obtain ⟨r, hr⟩ : ∃ r, cmpN m n = r := ⟨_, rfl⟩
  rw [hr]
  by_cases hne : L = L'
  · subst hne
    have HL := Lib.hid hL
    have HL' := Lib.hid hL'
    have HR := Lib.hid hr
    clear hL hL' hr
    go_enter Try.func42, Try.ntmps42
    go_wp2
    go_loopw [5] (fun t wr => ∃ k : Nat, k ≤ L ∧ t = .int .i64 ((k : Int) - 1) ∧ Hid (m / B32 ^ k = n / B32 ^ k) ∧ Below w.heap.size w wr) (fun t _ => (intOf t + 1).toNat)
    case atStart => exact ⟨L, Nat.le_refl _, rfl, Lib.hid (by rw [div_pow_len b32_two (by rw [← HL.out]; exact Nat.le_refl _), div_pow_len b32_two (by rw [← HL'.out]; exact Nat.le_refl _)]), Below.refl _ _⟩
    case round =>
      obtain ⟨k, hk, rfl, hd, hb⟩ := hrel
      by_cases h0 : k = 0
      · subst h0
        have hmn : m = n := by have := hd.out; simpa using this
        have hr0 : r = 0 := by have := HR.out; rw [hmn, cmpN_eq] at this; exact this.symm
        have H0 := Lib.hid hr0
        clear hmn hr0
        go_wp2
        go_ret
        exact ⟨ret_i H0.out.symm, hb⟩
      · obtain ⟨j, rfl⟩ : ∃ j, k = j + 1 := ⟨k - 1, by omega⟩
        obtain ⟨g, off, x, rfl, hg, hx, hcx⟩ := (h.keep hb).at_ (i := j) (by have := HL.out; omega)
        obtain ⟨g', off', y, rfl, hg', hy, hcy⟩ := (h'.keep hb).at_ (i := j) (by have := HL'.out; omega)
        clear h h'
        rcases Nat.lt_trichotomy x y with hxy | hxy | hxy
        · have hc : r = -1 := by rw [← HR.out]; exact cmpN_lt (lt_of_digit b32_two hx hy hd.out hxy)
          have HC := Lib.hid hc
          clear hc hx hy
          go_wp2
          go_quiet (fail)
          go_wp2
          go_ret
          exact ⟨ret_i HC.out.symm, below_drewN hb _⟩
        · have hd' : m / B32 ^ j = n / B32 ^ j := eq_step b32_two hx (by rw [hxy]; exact hy) hd.out
          have HD := Lib.hid hd'
          have h1 : ¬ x < y := by omega
          have h2 : ¬ y < x := by omega
          clear hxy hd' hx hy
          go_wp2
          go_quiet (fail)
          go_wp2
          go_quiet (fail)
          go_wp2
          go_roundw
          case rel => exact ⟨j, by omega, by congr 1, HD, below_drewN hb _⟩
          case measure => simp [intOf]
        · have hc : r = 1 := by rw [← HR.out]; exact cmpN_gt (lt_of_digit b32_two hy hx hd.out.symm hxy)
          have HC := Lib.hid hc
          have h1 : ¬ x < y := by omega
          clear hc hx hy
          go_wp2
          go_quiet (fail)
          go_wp2
          go_quiet (fail)
          go_wp2
          go_ret
          exact ⟨ret_i HC.out.symm, below_drewN (below_drewN hb _) _⟩
  · have hn' : ((L : Int) != (L' : Int)) = true := by simp; omega
    have hc : cmpN L L' = r := by rw [← hr, hL, hL'] at *; exact cmp_of_len b32_two hne
    have HC := Lib.hid hc
    clear hc h h' hL hL' hr
    by_cases hlt : L < L'
    · have hr1 : r = -1 := by rw [← HC.out]; exact cmpN_lt hlt
      have H1 := Lib.hid hr1
      clear hr1
      go_enter Try.func42, Try.ntmps42
      go_wp2
      go_ret
      exact ⟨ret_i H1.out.symm, Below.refl _ _⟩
    · have hr1 : r = 1 := by rw [← HC.out]; exact cmpN_gt (by omega)
      have H1 := Lib.hid hr1
      clear hr1
      go_enter Try.func42, Try.ntmps42
      go_wp2
      go_ret
      exact ⟨ret_i H1.out.symm, Below.refl _ _⟩

theorem refCmp_call (a b : Value) (m n : Nat) (w : World) (ha : N32 w a m) (hb : N32 w b n) (hm : (dig B32 m).length ≤ 1000000000) (hn : (dig B32 n).length ≤ 1000000000) :
    Calls Try.prog 42 #[a, b] w fun e w' => e = .returned (.int .i64 (cmpN m n)) ∧ Below w.heap.size w w' := by
  obtain ⟨A, c, rfl, _, hA⟩ := ha
  obtain ⟨A', c', rfl, _, hA'⟩ := hb
  exact refCmp_any A A' c c' _ _ m n w hA hA' rfl rfl (by omega) (by omega)

set_option maxHeartbeats 400000 in
/-- at: limb i, or 0 beyond the end. -/
theorem at_any (A : Option Addr) (c L i : Nat) (xs : List Nat) (w : World) (h : Nums .u32 w A xs) (hlow : Low B32 xs) (hL : L = xs.length) :
    Calls Try.prog 86 #[.slice A L c, .int .i64 (i : Int)] w fun e w' => e = .returned (.int .u64 ((xs.getD i 0 : Nat) : Int)) ∧ w = w' := by
  obtain ⟨r, hr⟩ : ∃ r, xs.getD i 0 = r := ⟨_, rfl⟩
  rw [hr]
  by_cases hi : i < L
  · obtain ⟨g, off, x, rfl, hg, hx, hcx⟩ := h.at_ (i := i) (by omega)
    have e : r = x := by rw [← hr, List.getD_eq_getElem?_getD, hx]; rfl
    subst e
    have hxl : r < B32 := hlow r (List.mem_of_getElem? hx)
    have w1 : IntKind.u64.wrap (r : Int) = (r : Int) := by rw [IntKind.wrap_u64]; unfold B32 at hxl; omega
    have hii : (i : Int) < (L : Int) := by omega
    clear hr hx h hL hlow hxl
    go_enter Try.func86, Try.ntmps86
    go_wp2
    go_ret
    exact ⟨rfl, rfl⟩
  · have e : r = 0 := by rw [← hr, List.getD_eq_getElem?_getD, List.getElem?_eq_none (by omega)]; rfl
    subst e
    have hii : ¬ (i : Int) < (L : Int) := by omega
    clear hr h hL hlow
    go_enter Try.func86, Try.ntmps86
    go_wp2
    go_ret
    exact ⟨rfl, rfl⟩
end Go.Proofs.Ytaegkhdkhgemmaa

namespace Go.Proofs.Ytaegkhdkhgemmaa
open Go.RowKit Num

theorem val_take_getD (b : Nat) (xs : List Nat) (k : Nat) : val b (xs.take (k + 1)) = val b (xs.take k) + b ^ k * xs.getD k 0 := by
  by_cases hk : k < xs.length
  · rw [val_take_succ b xs k hk]
    simp [List.getD_eq_getElem?_getD, List.getElem?_eq_getElem hk]
  · rw [List.take_of_length_le (by omega), List.take_of_length_le (by omega)]
    simp [List.getD_eq_getElem?_getD, List.getElem?_eq_none (show xs.length ≤ k by omega)]
theorem getD_low {b : Nat} (hb : 0 < b) {xs : List Nat} (h : Low b xs) (k : Nat) : xs.getD k 0 < b := by
  rw [List.getD_eq_getElem?_getD]
  cases e : xs[k]? with
  | none => simpa using hb
  | some v => exact h v (List.mem_of_getElem? e)

/-- Digits that are appended, one after the other: the sum of the first k of both, but for the carry. -/
structure AddOut (xs ys : List Nat) (k : Nat) (os : List Nat) (c : Nat) : Prop where
  len : os.length = k
  low : Low B32 os
  le : c ≤ 1
  eq : val B32 os + B32 ^ k * c = val B32 (xs.take k) + val B32 (ys.take k)
theorem AddOut.start (xs ys : List Nat) : AddOut xs ys 0 [] 0 := ⟨rfl, Low.nil _, by omega, by simp [val]⟩
theorem AddOut.step {xs ys os : List Nat} {k c lo hi : Nat} (h : AddOut xs ys k os c) (hs : lo + B32 * hi = xs.getD k 0 + ys.getD k 0 + c) (hlo : lo < B32) (hhi : hi ≤ 1) :
    AddOut xs ys (k + 1) (os ++ [lo]) hi := by
  refine ⟨by simp [h.len], h.low.append (Low.cons hlo (Low.nil _)), hhi, ?_⟩
  rw [val_snoc, val_take_getD, val_take_getD, h.len]
  have e := h.eq
  have : B32 ^ k * (lo + B32 * hi) = B32 ^ k * (xs.getD k 0 + ys.getD k 0 + c) := by rw [hs]
  rw [Nat.pow_succ]
  grind
theorem AddOut.fin {xs ys os : List Nat} {k c : Nat} (h : AddOut xs ys k os c) (hx : xs.length ≤ k) (hy : ys.length ≤ k) : val B32 (os ++ [c]) = val B32 xs + val B32 ys := by
  have e := h.eq
  rw [List.take_of_length_le hx, List.take_of_length_le hy] at e
  rw [val_snoc, h.len]
  exact e

/-- A sum of three words that stay below 2^64, and its two halves: as the walk shows them. -/
theorem add3_ex (x y c : Nat) (hx : x < B32) (hy : y < B32) (hc : c ≤ 1) : ∃ s1 s lo hi : Nat,
    IntKind.u64.wrap ((x : Int) + (y : Int)) = (s1 : Int) ∧ IntKind.u64.wrap ((s1 : Int) + (c : Int)) = (s : Int) ∧ (s : Int) % 4294967296 = (lo : Int) ∧ (s : Int) / 4294967296 = (hi : Int) ∧
    IntKind.u32.wrap (lo : Int) = (lo : Int) ∧ (lo : Int) % 4294967296 = (lo : Int) ∧ IntKind.u64.wrap (hi : Int) = (hi : Int) ∧ lo + B32 * hi = x + y + c ∧ lo < B32 ∧ hi ≤ 1 := by
  unfold B32 at *
  refine ⟨x + y, x + y + c, (x + y + c) % 4294967296, (x + y + c) / 4294967296, ?_, ?_, by omega, by omega, ?_, by omega, ?_, by omega, by omega, by omega⟩
  · rw [IntKind.wrap_u64]; omega
  · rw [IntKind.wrap_u64]; omega
  · rw [IntKind.wrap_u32']; omega
  · rw [IntKind.wrap_u64]; omega

theorem refTrim_l (a : Value) (xs : List Nat) (w : World) (h : Limbs w a xs) (hlow : Low B32 xs) (hl : xs.length ≤ 1000000000) : Calls Try.prog 80 #[a] w (LsPost w (dig B32 (val B32 xs))) := by
  obtain ⟨A, c, rfl, _, _, hA⟩ := h
  exact refTrim_any A c _ xs w hA hlow rfl hl
theorem OwnLs.mono {B B' : Nat} {w : World} {v : Value} {ys : List Nat} (h : OwnLs B w v ys) (hB : B' ≤ B) : OwnLs B' w v ys := by
  obtain ⟨h1, h2⟩ := h
  refine ⟨h1, ?_⟩
  rcases h2 with h2 | ⟨g, c, cur, e, hg, r⟩
  · exact .inl h2
  · exact .inr ⟨g, c, cur, e, by omega, r⟩

set_option maxHeartbeats 2000000 in
set_option maxRecDepth 100000 in
theorem refAdd_any (A A' : Option Addr) (c c' L L' : Nat) (xs ys : List Nat) (w : World) (hA : Nums .u32 w A xs) (hA' : Nums .u32 w A' ys) (hx : Low B32 xs) (hy : Low B32 ys) (hL : L = xs.length) (hL' : L' = ys.length)
    (hl : L ≤ 1000000) (hl' : L' ≤ 1000000) : Calls Try.prog 43 #[.slice A L c, .slice A' L' c'] w (LsPost w (dig B32 (val B32 xs + val B32 ys))) := by
  obtain ⟨i0, hi, hz0, hz1, hz2⟩ := info_parts info56
  have ho := own_empty w 56
  have hbA := below_new w (.cells #[] 56)
  have HO := Lib.hid ho
  have HL := Lib.hid hL
  have HL' := Lib.hid hL'
  clear ho hL hL'
  obtain ⟨ds, hds⟩ : ∃ ds, dig B32 (val B32 xs + val B32 ys) = ds := ⟨_, rfl⟩
  rw [hds]
  have HDS := Lib.hid hds
  clear hds
  go_enter Try.func43, Try.ntmps43
  go_wp2
  go_loopw [5, 6, 7] (fun out q t wr => ∃ (k cy : Nat) (os : List Nat), (k ≤ L ∨ k ≤ L') ∧ t = .int .i64 (k : Int) ∧ q = .int .u64 (cy : Int) ∧ AddOut xs ys k os cy ∧ wr.ownsRow w.heap.size 56 1 out k (ints .u32 os) ∧ Below w.heap.size w wr) (fun _ _ t _ => L + L' - (intOf t).toNat)
  case atStart => exact ⟨0, 0, [], .inl (Nat.zero_le _), rfl, rfl, AddOut.start xs ys, HO.out, hbA⟩
  case round =>
    clear hbA HO
    obtain ⟨k, cy, os, hk, rfl, rfl, hst, hown, hbl⟩ := hrel
    have hk1 : k ≤ 1000000 := by omega
    by_cases hlt : k < L ∨ k < L'
    · have ha := at_any A c L k xs wr (hA.keep hbl) hx HL.out
      have hb := at_any A' c' L' k ys wr (hA'.keep hbl) hy HL'.out
      obtain ⟨s1, s, lo, hi', w1, w2, w3, w4, w5, w6, w7, hs, hlo, hhi⟩ := add3_ex _ _ cy (getD_low b32_pos hx k) (getD_low b32_pos hy k) hst.le
      have hst' := hst.step hs hlo hhi
      generalize xs.getD k 0 = x at *
      generalize ys.getD k 0 = y at *
      have HA := Lib.hid ha
      have HB := Lib.hid hb
      have HST := Lib.hid hst'
      have HS := Lib.hid hs
      clear ha hb hst' hA hA' hx hy hs hlo hst
      by_cases h1 : k < L
      all_goals
        go_wp2_with (fail)
        refine HA.out.mono ?_
        rintro e w9 ⟨rfl, rfl⟩
        go_wp2_with (fail)
        refine HB.out.mono ?_
        rintro e w9 ⟨rfl, rfl⟩
        go_wp2_with (at_builtin
                     refine wpList_append_own _ rfl _ _ 35 rfl w.heap.size 56 i0 (.int .u32 0) 1 4 Try.underlying35 hi hz0 hz1 hz2 rfl (by decide) _ k _ rfl (hown.alloc _) ⟨wr.heap.size, 0, none⟩ 1 1 [.int .u32 (lo : Int)] rfl rfl (cell_one_new _ _ _) (ints_one .u32 [lo]) ?c4 ?c5 (Nat.le_trans hbl.size (by simp)) ?_)
        case c4 => unfold maxLen; omega
        case c5 => omega
        intro v' w8 hown1 hgr1 _
        have hb1 : Below w.heap.size w w8 := (hbl.alloc hbl.size _).grown hgr1 (Nat.le_trans hbl.size (by simp)) (fun g' hg' => by
          rcases hown.2 with ⟨rfl, _⟩ | ⟨g2, cap, cur, rfl, hg2, _⟩
          · simp [Value.ownBlock] at hg'
          · simp [Value.ownBlock] at hg'; omega)
        have H1 := Lib.hid hown1
        have H0 := Lib.hid hown
        clear hown1 hown
        go_wp2
        go_roundw
        case rel => exact ⟨k + 1, hi', os ++ [lo], by omega, by go_num, rfl, HST.out, by have := H1.out; simpa [ints] using this, hb1⟩
        case measure => simp [intOf]; omega
    · have hst' := hst.fin (by have := HL.out; omega) (by have := HL'.out; omega)
      have hlow2 : Low B32 (os ++ [cy]) := hst.low.append (Low.cons (by have := hst.le; unfold B32; omega) (Low.nil _))
      have hlen2 : (os ++ [cy]).length = k + 1 := by simp [hst.len]
      have hcy := hst.le
      have w1 : IntKind.u32.wrap (cy : Int) = (cy : Int) := by rw [IntKind.wrap_u32']; omega
      have w2 : (cy : Int) % 4294967296 = (cy : Int) := by omega
      have HV := Lib.hid hst'
      have HLO := Lib.hid hlow2
      have HLE := Lib.hid hlen2
      have hA1 : ¬ k < L := by omega
      have hA2 : ¬ k < L' := by omega
      clear hst' hst hA hA' hx hy hlt hlow2 hlen2 hk
      go_wp2_with (at_builtin
                   refine wpList_append_own _ rfl _ _ 35 rfl w.heap.size 56 i0 (.int .u32 0) 1 4 Try.underlying35 hi hz0 hz1 hz2 rfl (by decide) _ k _ rfl (hown.alloc _) ⟨wr.heap.size, 0, none⟩ 1 1 [.int .u32 (cy : Int)] rfl rfl (cell_one_new _ _ _) (ints_one .u32 [cy]) ?c4 ?c5 (Nat.le_trans hbl.size (by simp)) ?_)
      case c4 => unfold maxLen; omega
      case c5 => omega
      intro v' w8 hown1 hgr1 _
      have hb1 : Below w.heap.size w w8 := (hbl.alloc hbl.size _).grown hgr1 (Nat.le_trans hbl.size (by simp)) (fun g' hg' => by
        rcases hown.2 with ⟨rfl, _⟩ | ⟨g2, cap, cur, rfl, hg2, _⟩
        · simp [Value.ownBlock] at hg'
        · simp [Value.ownBlock] at hg'; omega)
      have hls : OwnLs w.heap.size w8 v' (os ++ [cy]) := by
        unfold OwnLs
        rw [HLE.out]
        simpa [ints] using hown1
      have hlim := hls.limbs (by rw [HLE.out]; omega)
      have htr := refTrim_l v' (os ++ [cy]) w8 hlim HLO.out (by rw [HLE.out]; omega)
      rw [HV.out, HDS.out] at htr
      have HT := Lib.hid htr
      clear htr hlim hls hown1 hown
      go_wp2_with (go_at_call 80; refine HT.out.mono ?_; rintro e w9 ⟨v9, rfl, hv9, hb9⟩)
      go_ret
      exact ⟨_, rfl, hv9.mono hb1.size, below_at hb1 (Nat.le_refl _) hb9⟩

theorem refAdd_call (a b : Value) (m n : Nat) (w : World) (ha : N32 w a m) (hb : N32 w b n) (hm : (dig B32 m).length ≤ 1000000) (hn : (dig B32 n).length ≤ 1000000) : Calls Try.prog 43 #[a, b] w (LsPost w (dig B32 (m + n))) := by
  obtain ⟨A, c, rfl, _, hA⟩ := ha
  obtain ⟨A', c', rfl, _, hA'⟩ := hb
  have := refAdd_any A A' c c' _ _ _ _ w hA hA' (low_dig b32_two m) (low_dig b32_two n) rfl rfl hm hn
  rw [val_dig b32_two, val_dig b32_two] at this
  exact this
end Go.Proofs.Ytaegkhdkhgemmaa

namespace Go.Proofs.Ytaegkhdkhgemmaa
open Go.RowKit Num

structure SubOut (xs ys : List Nat) (k : Nat) (os : List Nat) (c : Nat) : Prop where
  len : os.length = k
  low : Low B32 os
  le : c ≤ 1
  eq : val B32 os + val B32 (ys.take k) = val B32 (xs.take k) + B32 ^ k * c
theorem SubOut.start (xs ys : List Nat) : SubOut xs ys 0 [] 0 := ⟨rfl, Low.nil _, by omega, by simp [val]⟩
theorem SubOut.step {xs ys os : List Nat} {k c lo hi : Nat} (h : SubOut xs ys k os c) (hs : lo + ys.getD k 0 + c = xs.getD k 0 + B32 * hi) (hlo : lo < B32) (hhi : hi ≤ 1) :
    SubOut xs ys (k + 1) (os ++ [lo]) hi := by
  refine ⟨by simp [h.len], h.low.append (Low.cons hlo (Low.nil _)), hhi, ?_⟩
  rw [val_snoc, val_take_getD, val_take_getD, h.len]
  have e := h.eq
  have : B32 ^ k * (lo + ys.getD k 0 + c) = B32 ^ k * (xs.getD k 0 + B32 * hi) := by rw [hs]
  rw [Nat.pow_succ]
  grind
theorem SubOut.fin {xs ys os : List Nat} {k c : Nat} (h : SubOut xs ys k os c) (hx : xs.length ≤ k) (hy : ys.length ≤ k) (hle : val B32 ys ≤ val B32 xs) (hylow : Low B32 ys) : val B32 os = val B32 xs - val B32 ys := by
  have e := h.eq
  rw [List.take_of_length_le hx, List.take_of_length_le hy] at e
  have h1 := val_lt B32 os h.low
  rw [h.len] at h1
  have h5 : c = 0 := by
    rcases Nat.eq_zero_or_pos c with h0 | h0
    · exact h0
    · have : B32 ^ k * 1 ≤ B32 ^ k * c := Nat.mul_le_mul_left _ h0
      have h2 := val_lt B32 ys hylow
      have h3 : B32 ^ ys.length ≤ B32 ^ k := Nat.pow_le_pow_right b32_pos hy
      omega
  subst h5
  simp at e
  omega

theorem sub3_ex (x y c : Nat) (hx : x < B32) (hy : y < B32) (hc : c ≤ 1) : ∃ s1 s2 s lo q hi : Nat,
    IntKind.u64.wrap (4294967296 + (x : Int)) = (s1 : Int) ∧ IntKind.u64.wrap ((s1 : Int) - (y : Int)) = (s2 : Int) ∧ IntKind.u64.wrap ((s2 : Int) - (c : Int)) = (s : Int) ∧ (s : Int) % 4294967296 = (lo : Int) ∧ (s : Int) / 4294967296 = (q : Int) ∧
    IntKind.u32.wrap (lo : Int) = (lo : Int) ∧ (lo : Int) % 4294967296 = (lo : Int) ∧ IntKind.u64.wrap (q : Int) = (q : Int) ∧ IntKind.u64.wrap (1 - (q : Int)) = (hi : Int) ∧ lo + y + c = x + B32 * hi ∧ lo < B32 ∧ hi ≤ 1 := by
  unfold B32 at *
  refine ⟨4294967296 + x, 4294967296 + x - y, 4294967296 + x - y - c, (4294967296 + x - y - c) % 4294967296, (4294967296 + x - y - c) / 4294967296, 1 - (4294967296 + x - y - c) / 4294967296, ?_, ?_, ?_, by omega, by omega, ?_, by omega, ?_, ?_, by omega, by omega, by omega⟩
  · rw [IntKind.wrap_u64]; omega
  · rw [IntKind.wrap_u64]; omega
  · rw [IntKind.wrap_u64]; omega
  · rw [IntKind.wrap_u32']; omega
  · rw [IntKind.wrap_u64]; omega
  · rw [IntKind.wrap_u64]; omega

set_option maxHeartbeats 2000000 in
set_option maxRecDepth 100000 in
theorem refSub_any (A A' : Option Addr) (c c' L L' : Nat) (xs ys : List Nat) (w : World) (hA : Nums .u32 w A xs) (hA' : Nums .u32 w A' ys) (hx : Low B32 xs) (hy : Low B32 ys) (hL : L = xs.length) (hL' : L' = ys.length)
    (hl : L ≤ 1000000) (hle' : L' ≤ L) (hle : val B32 ys ≤ val B32 xs) : Calls Try.prog 44 #[.slice A L c, .slice A' L' c'] w (LsPost w (dig B32 (val B32 xs - val B32 ys))) := by
  obtain ⟨i0, hi, hz0, hz1, hz2⟩ := info_parts info56
  have ho := own_empty w 56
  have hbA := below_new w (.cells #[] 56)
  have HO := Lib.hid ho
  have HL := Lib.hid hL
  have HL' := Lib.hid hL'
  have HLE := Lib.hid hle
  have HY := Lib.hid hy
  clear ho hL hL' hle
  obtain ⟨ds, hds⟩ : ∃ ds, dig B32 (val B32 xs - val B32 ys) = ds := ⟨_, rfl⟩
  rw [hds]
  have HDS := Lib.hid hds
  clear hds
  go_enter Try.func44, Try.ntmps44
  go_wp2
  go_loopw [5, 6, 7] (fun out q t wr => ∃ (k cy : Nat) (os : List Nat), k ≤ L ∧ t = .int .i64 (k : Int) ∧ q = .int .u64 (cy : Int) ∧ SubOut xs ys k os cy ∧ wr.ownsRow w.heap.size 56 1 out k (ints .u32 os) ∧ Below w.heap.size w wr) (fun _ _ t _ => L - (intOf t).toNat)
  case atStart => exact ⟨0, 0, [], Nat.zero_le _, rfl, rfl, SubOut.start xs ys, HO.out, hbA⟩
  case round =>
    clear hbA HO
    obtain ⟨k, cy, os, hk, rfl, rfl, hst, hown, hbl⟩ := hrel
    by_cases hlt : k < L
    · have ha := at_any A c L k xs wr (hA.keep hbl) hx HL.out
      have hb := at_any A' c' L' k ys wr (hA'.keep hbl) hy HL'.out
      obtain ⟨s1, s2, s, lo, qq, hi', w1, w2, w3, w4, w5, w6, w7, w8, w9, hs, hlo, hhi⟩ := sub3_ex _ _ cy (getD_low b32_pos hx k) (getD_low b32_pos hy k) hst.le
      have hst' := hst.step hs hlo hhi
      generalize xs.getD k 0 = x at *
      generalize ys.getD k 0 = y at *
      have HA := Lib.hid ha
      have HB := Lib.hid hb
      have HST := Lib.hid hst'
      have HS := Lib.hid hs
      clear ha hb hst' hA hA' hx hy hs hlo hst
      go_wp2_with (fail)
      refine HA.out.mono ?_
      rintro e wq ⟨rfl, rfl⟩
      go_wp2_with (fail)
      refine HB.out.mono ?_
      rintro e wq ⟨rfl, rfl⟩
      go_wp2_with (at_builtin
                   refine wpList_append_own _ rfl _ _ 35 rfl w.heap.size 56 i0 (.int .u32 0) 1 4 Try.underlying35 hi hz0 hz1 hz2 rfl (by decide) _ k _ rfl (hown.alloc _) ⟨wr.heap.size, 0, none⟩ 1 1 [.int .u32 (lo : Int)] rfl rfl (cell_one_new _ _ _) (ints_one .u32 [lo]) ?c4 ?c5 (Nat.le_trans hbl.size (by simp)) ?_)
      case c4 => unfold maxLen; omega
      case c5 => omega
      intro v' wv hown1 hgr1 _
      have hb1 : Below w.heap.size w wv := (hbl.alloc hbl.size _).grown hgr1 (Nat.le_trans hbl.size (by simp)) (fun g' hg' => by
        rcases hown.2 with ⟨rfl, _⟩ | ⟨g2, cap, cur, rfl, hg2, _⟩
        · simp [Value.ownBlock] at hg'
        · simp [Value.ownBlock] at hg'; omega)
      have H1 := Lib.hid hown1
      have H0 := Lib.hid hown
      clear hown1 hown
      go_wp2
      go_roundw
      case rel => exact ⟨k + 1, hi', os ++ [lo], by omega, by go_num, rfl, HST.out, by have := H1.out; simpa [ints] using this, hb1⟩
      case measure => simp [intOf]; omega
    · have hkL : k = L := by omega
      subst hkL
      have hst' := hst.fin (by have := HL.out; omega) (by have := HL'.out; omega) HLE.out HY.out
      have hlen2 : os.length = k := hst.len
      have hls : OwnLs w.heap.size wr u5 os := by
        unfold OwnLs
        rw [hlen2]
        exact hown
      have hlim := hls.limbs (by rw [hlen2]; omega)
      have htr := refTrim_l u5 os wr hlim hst.low (by rw [hlen2]; omega)
      rw [hst', HDS.out] at htr
      have HT := Lib.hid htr
      clear htr hlim hls hown hst' hst hA hA' hx hy hlt hlen2 hk
      go_wp2_with (go_at_call 80; refine HT.out.mono ?_; rintro e w9 ⟨v9, rfl, hv9, hb9⟩)
      go_ret
      exact ⟨_, rfl, hv9.mono hbl.size, below_at hbl (Nat.le_refl _) hb9⟩

theorem refSub_call (a b : Value) (m n : Nat) (w : World) (ha : N32 w a m) (hb : N32 w b n) (hm : (dig B32 m).length ≤ 1000000) (hle : n ≤ m) : Calls Try.prog 44 #[a, b] w (LsPost w (dig B32 (m - n))) := by
  obtain ⟨A, c, rfl, _, hA⟩ := ha
  obtain ⟨A', c', rfl, _, hA'⟩ := hb
  have := refSub_any A A' c c' _ _ _ _ w hA hA' (low_dig b32_two m) (low_dig b32_two n) rfl rfl hm (dig_len_le b32_two (Nat.lt_of_le_of_lt hle (dig_len_lt b32_two))) (by rw [val_dig b32_two, val_dig b32_two]; exact hle)
  rw [val_dig b32_two, val_dig b32_two] at this
  exact this
end Go.Proofs.Ytaegkhdkhgemmaa

namespace Go.Proofs.Ytaegkhdkhgemmaa
open Go.RowKit Num

set_option maxHeartbeats 2000000 in
set_option maxRecDepth 100000 in
theorem adds_bad (A A' : Option Addr) (c c' L L' : Nat) (xs ys : List Nat) (w : World) (hA : Nums .u32 w A xs) (hA' : Nums .u32 w A' ys) (hL : L = xs.length) (hL' : L' = ys.length) (hc : L ≤ c) (hc' : L' ≤ c') (hnil : A = none → c = 0) (hnil' : A' = none → c' = 0)
    (hbad : chk2 (xs.take 60) (ys.take 60) ≠ 0) : Calls Try.prog 4 #[.slice A L c, .slice A' L' c'] w (LivesPost w) := by
  have hcut := fun w' (h : Below w.heap.size w w') => cut_any A c L 60 xs w' (hA.keep h) hL hc hnil (by omega)
  have hcut' := fun w' (h : Below w.heap.size w w') => cut_any A' c' L' 60 ys w' (hA'.keep h) hL' hc' hnil' (by omega)
  have l1 : (xs.take 60).length ≤ 60 := by rw [List.length_take]; omega
  have l2 : (ys.take 60).length ≤ 60 := by rw [List.length_take]; omega
  generalize xs.take 60 = us at *
  generalize ys.take 60 = vs at *
  have hlu : ∀ B w' a, OwnLs B w' a us → Limbs w' a us := fun B w' a h => h.limbs (by omega)
  have hlv : ∀ B w' a, OwnLs B w' a vs → Limbs w' a vs := fun B w' a h => h.limbs (by omega)
  have h37 := fun a b w h k => add_bad a b us vs w h k hbad
  have h38 := fun a b w h k => sub_bad a b us vs w h k hbad
  have h39 := fun a b w h k => cmp_bad a b us vs w h k hbad
  have h40 := fun a b w h k => both_any a b us vs w h k
  generalize chk2 us vs = r at *
  have hq : (r != 0) = true := by simp [hbad]
  have hq0 : (r == r) = true := by simp
  have h41 := fun b w => is_err b r w hbad
  have HC := Lib.hid hcut
  have HC' := Lib.hid hcut'
  have HLU := Lib.hid hlu
  have HLV := Lib.hid hlv
  have H37 := Lib.hid h37
  have H38 := Lib.hid h38
  have H39 := Lib.hid h39
  have H40 := Lib.hid h40
  have H41 := Lib.hid h41
  have HB := Lib.hid hbad
  clear hcut hcut' hlu hlv h37 h38 h39 h40 h41 hbad hA hA' hL hL' hnil hnil' l1 l2
  go_enter Try.func4, Try.ntmps4
  go_wp2_with (fail)
  refine (HC.out _ (Below.refl _ _)).mono ?_
  rintro e w1 ⟨va, rfl, hva, hb1⟩
  have ka := HLU.out _ _ _ hva
  go_wp2_with (fail)
  refine (HC'.out _ hb1).mono ?_
  rintro e w2 ⟨vb, rfl, hvb, hb2⟩
  have kb := HLV.out _ _ _ hvb
  have b2 := below_at hb1 (Nat.le_refl _) hb2
  have ka2 := ka.keep hb2
  go_wp2_with (first
    | (go_at_call 37; refine (H37.out _ _ _ ka2 kb).mono ?_; rintro e w3 ⟨rfl, hb3⟩
       have b3 := below_at b2 (Nat.le_refl _) hb3
       have ka3 := ka2.keep hb3
       have kb3 := kb.keep hb3)
    | (go_at_call 38; refine (H38.out _ _ _ ka3 kb3).mono ?_; rintro e w4 ⟨rfl, hb4⟩
       have b4 := below_at b3 (Nat.le_refl _) hb4
       have ka4 := ka3.keep hb4
       have kb4 := kb3.keep hb4)
    | (go_at_call 39; refine (H39.out _ _ _ ka4 kb4).mono ?_; rintro e w5 ⟨rfl, hb5⟩
       have b5 := below_at b4 (Nat.le_refl _) hb5
       have ka5 := ka4.keep hb5
       have kb5 := kb4.keep hb5)
    | (go_at_call 40; refine (H40.out _ _ _ ka5 kb5).mono ?_; rintro e w6 ⟨rfl, rfl⟩)
    | (go_at_call 30; refine (lives_any _).mono ?_; rintro e w7 ⟨rfl, hb7⟩
       have b7 := below_at b5 (Nat.le_refl _) hb7))
  refine (H41.out _ _).mono ?_
  rintro e w8 ⟨rfl, hb8⟩
  have b8 := below_at b7 (Nat.le_refl _) hb8
  go_wp2_with (fail)
  refine (H41.out _ _).mono ?_
  rintro e w9 ⟨rfl, hb9⟩
  have b9 := below_at b8 (Nat.le_refl _) hb9
  go_wp2
  go_ret
  exact ⟨rfl, b9⟩

theorem sum_len {m n : Nat} (hm : (dig B32 m).length ≤ 60) (hn : (dig B32 n).length ≤ 60) : (dig B32 (m + n)).length ≤ 61 := by
  have h1 := Nat.lt_of_lt_of_le (dig_len_lt b32_two (n := m)) (Nat.pow_le_pow_right b32_pos hm)
  have h2 := Nat.lt_of_lt_of_le (dig_len_lt b32_two (n := n)) (Nat.pow_le_pow_right b32_pos hn)
  exact dig_len_le b32_two (two_pow_lt b32_two h1 h2)
theorem bits_of_len {n K : Nat} (h : (dig B32 n).length ≤ K) : nbits n ≤ 32 * K := by
  refine nbits_le (Nat.lt_of_lt_of_le (dig_len_lt b32_two) ?_)
  rw [Nat.pow_mul]
  exact Nat.pow_le_pow_right b32_pos h
theorem sum_small {m n : Nat} (hm : (dig B32 m).length ≤ 60) (hn : (dig B32 n).length ≤ 60) : nbits (m + n) ≤ 8388608 := Nat.le_trans (bits_of_len (sum_len hm hn)) (by omega)

set_option maxHeartbeats 2000000 in
set_option maxRecDepth 100000 in
theorem adds_lt (A A' : Option Addr) (c c' L L' m n : Nat) (xs ys : List Nat) (w : World) (hA : Nums .u32 w A xs) (hA' : Nums .u32 w A' ys) (hL : L = xs.length) (hL' : L' = ys.length) (hc : L ≤ c) (hc' : L' ≤ c') (hnil : A = none → c = 0) (hnil' : A' = none → c' = 0)
    (hm : xs.take 60 = dig B32 m) (hn : ys.take 60 = dig B32 n) (hcmp : m < n) : Calls Try.prog 4 #[.slice A L c, .slice A' L' c'] w (LivesPost w) := by
  have hcut := fun w' (h : Below w.heap.size w w') => cut_any A c L 60 xs w' (hA.keep h) hL hc hnil (by omega)
  have hcut' := fun w' (h : Below w.heap.size w w') => cut_any A' c' L' 60 ys w' (hA'.keep h) hL' hc' hnil' (by omega)
  have l1 : (xs.take 60).length ≤ 60 := by rw [List.length_take]; omega
  have l2 : (ys.take 60).length ≤ 60 := by rw [List.length_take]; omega
  rw [hm] at hcut l1
  rw [hn] at hcut' l2
  have hp := sum_small l1 l2
  have ls := sum_len l1 l2
  have hlu : ∀ B w' a, OwnLs B w' a (dig B32 m) → Limbs w' a (dig B32 m) := fun B w' a h => h.limbs (by omega)
  have hlv : ∀ B w' a, OwnLs B w' a (dig B32 n) → Limbs w' a (dig B32 n) := fun B w' a h => h.limbs (by omega)
  have h37 := fun a b w (h : Limbs w a (dig B32 m)) (k : Limbs w b (dig B32 n)) => add_ok a b m n w h.is k.is (by omega) (by omega) hp
  have h38 := fun a b w (h : Limbs w a (dig B32 m)) (k : Limbs w b (dig B32 n)) => sub_range a b m n w h.is k.is (by omega) (by omega) hcmp
  have h39 := fun a b w (h : Limbs w a (dig B32 m)) (k : Limbs w b (dig B32 n)) => cmp_ok a b m n w h.is k.is (by omega) (by omega)
  have h40 := fun a b w h k => both_any a b (dig B32 m) (dig B32 n) w h k
  have h42 := fun a b w (h : Limbs w a (dig B32 m)) (k : Limbs w b (dig B32 n)) => refCmp_call a b m n w h.is k.is (by omega) (by omega)
  have h43 := fun a b w (h : Limbs w a (dig B32 m)) (k : Limbs w b (dig B32 n)) => refAdd_call a b m n w h.is k.is (by omega) (by omega)
  have h41 := fun a b w (h : N32 w a (m + n)) (k : OwnLs w.heap.size w b (dig B32 (m + n))) => is_ok a b (m + n) w h (k.limbs (by omega)) (by omega)
  have h41b : ∀ B a b w, N32 w a (m + n) → OwnLs B w b (dig B32 (m + n)) → Calls Try.prog 41 #[a, .int .i64 0, b, .int .i64 0] w (LivesPost w) := fun B a b w h k => is_ok a b (m + n) w h (k.limbs (by omega)) (by omega)
  have h41e := fun b w => is_err b 5 w (by omega)
  rw [chk2, if_pos (chk_dig (by omega)), chk_dig (by omega)] at h40
  have hcv : cmpN m n = -1 := cmpN_lt hcmp
  generalize cmpN m n = r at *
  have hq : (r != r) = false := by simp
  subst hcv
  have HC := Lib.hid hcut
  have HC' := Lib.hid hcut'
  have HLU := Lib.hid hlu
  have HLV := Lib.hid hlv
  have H37 := Lib.hid h37
  have H38 := Lib.hid h38
  have H39 := Lib.hid h39
  have H40 := Lib.hid h40
  have H41 := Lib.hid h41b
  have H42 := Lib.hid h42
  have H43 := Lib.hid h43
  have H41E := Lib.hid h41e
  clear hcut hcut' hlu hlv h37 h38 h39 h40 h41 h41b h42 h43 hA hA' hL hL' hnil hnil' l1 l2 hp ls hm hn hcmp h41e
  go_enter Try.func4, Try.ntmps4
  go_wp2_with (fail)
  refine (HC.out _ (Below.refl _ _)).mono ?_
  rintro e w1 ⟨va, rfl, hva, hb1⟩
  have ka := HLU.out _ _ _ hva
  go_wp2_with (fail)
  refine (HC'.out _ hb1).mono ?_
  rintro e w2 ⟨vb, rfl, hvb, hb2⟩
  have kb := HLV.out _ _ _ hvb
  have b2 := below_at hb1 (Nat.le_refl _) hb2
  have ka2 := ka.keep hb2
  go_wp2_with (first
    | (go_at_call 37; refine (H37.out _ _ _ ka2 kb).mono ?_; rintro e w3 ⟨vs, rfl, hvs, hb3⟩
       have b3 := below_at b2 (Nat.le_refl _) hb3
       have ka3 := ka2.keep hb3
       have kb3 := kb.keep hb3)
    | (go_at_call 38; refine (H38.out _ _ _ ka3 kb3).mono ?_; rintro e w4 ⟨rfl, hb4⟩
       have b4 := below_at b3 (Nat.le_refl _) hb4
       have ka4 := ka3.keep hb4
       have kb4 := kb3.keep hb4
       have ks4 := hvs.is.keep hb4)
    | (go_at_call 39; refine (H39.out _ _ _ ka4 kb4).mono ?_; rintro e w5 ⟨rfl, hb5⟩
       have b5 := below_at b4 (Nat.le_refl _) hb5
       have ka5 := ka4.keep hb5
       have kb5 := kb4.keep hb5
       have ks5 := ks4.keep hb5)
    | (go_at_call 40; refine (H40.out _ _ _ ka5 kb5).mono ?_; rintro e w6 ⟨rfl, rfl⟩)
    | (go_at_call 30; refine (lives_any _).mono ?_; rintro e w7 ⟨rfl, hb7⟩
       have b7 := below_at b5 (Nat.le_refl _) hb7
       have ka7 := ka5.keep hb7
       have kb7 := kb5.keep hb7
       have ks7 := ks5.keep hb7)
    | (go_at_call 42; refine (H42.out _ _ _ ka7 kb7).mono ?_; rintro e w8 ⟨rfl, hb8⟩
       have b8 := below_at b7 (Nat.le_refl _) hb8
       have ka8 := ka7.keep hb8
       have kb8 := kb7.keep hb8
       have ks8 := ks7.keep hb8)
    | (go_at_call 43; refine (H43.out _ _ _ ka8 kb8).mono ?_; rintro e w9 ⟨v9, rfl, hv9, hb9⟩
       have b9 := below_at b8 (Nat.le_refl _) hb9
       have ka9 := ka8.keep hb9
       have kb9 := kb8.keep hb9
       have ks9 := ks8.keep hb9))
  refine (H41.out _ _ _ _ ks9 hv9).mono ?_
  rintro e w10 ⟨rfl, hb10⟩
  have b10 := below_at b9 (Nat.le_refl _) hb10
  go_wp2_with (fail)
  refine (H41E.out _ _).mono ?_
  rintro e w11 ⟨rfl, hb11⟩
  have b11 := below_at b10 (Nat.le_refl _) hb11
  go_wp2
  go_ret
  exact ⟨rfl, b11⟩

set_option maxHeartbeats 2000000 in
set_option maxRecDepth 100000 in
theorem adds_ge (A A' : Option Addr) (c c' L L' m n : Nat) (xs ys : List Nat) (w : World) (hA : Nums .u32 w A xs) (hA' : Nums .u32 w A' ys) (hL : L = xs.length) (hL' : L' = ys.length) (hc : L ≤ c) (hc' : L' ≤ c') (hnil : A = none → c = 0) (hnil' : A' = none → c' = 0)
    (hm : xs.take 60 = dig B32 m) (hn : ys.take 60 = dig B32 n) (hcmp : n ≤ m) : Calls Try.prog 4 #[.slice A L c, .slice A' L' c'] w (LivesPost w) := by
  have hcut := fun w' (h : Below w.heap.size w w') => cut_any A c L 60 xs w' (hA.keep h) hL hc hnil (by omega)
  have hcut' := fun w' (h : Below w.heap.size w w') => cut_any A' c' L' 60 ys w' (hA'.keep h) hL' hc' hnil' (by omega)
  have l1 : (xs.take 60).length ≤ 60 := by rw [List.length_take]; omega
  have l2 : (ys.take 60).length ≤ 60 := by rw [List.length_take]; omega
  rw [hm] at hcut l1
  rw [hn] at hcut' l2
  have hp := sum_small l1 l2
  have ls := sum_len l1 l2
  have hlu : ∀ B w' a, OwnLs B w' a (dig B32 m) → Limbs w' a (dig B32 m) := fun B w' a h => h.limbs (by omega)
  have hlv : ∀ B w' a, OwnLs B w' a (dig B32 n) → Limbs w' a (dig B32 n) := fun B w' a h => h.limbs (by omega)
  have h37 := fun a b w (h : Limbs w a (dig B32 m)) (k : Limbs w b (dig B32 n)) => add_ok a b m n w h.is k.is (by omega) (by omega) hp
  have h38 := fun a b w (h : Limbs w a (dig B32 m)) (k : Limbs w b (dig B32 n)) => sub_ok a b m n w h.is k.is (by omega) (by omega) hcmp
  have h39 := fun a b w (h : Limbs w a (dig B32 m)) (k : Limbs w b (dig B32 n)) => cmp_ok a b m n w h.is k.is (by omega) (by omega)
  have h40 := fun a b w h k => both_any a b (dig B32 m) (dig B32 n) w h k
  have h42 := fun a b w (h : Limbs w a (dig B32 m)) (k : Limbs w b (dig B32 n)) => refCmp_call a b m n w h.is k.is (by omega) (by omega)
  have h43 := fun a b w (h : Limbs w a (dig B32 m)) (k : Limbs w b (dig B32 n)) => refAdd_call a b m n w h.is k.is (by omega) (by omega)
  have h41 := fun a b w (h : N32 w a (m + n)) (k : OwnLs w.heap.size w b (dig B32 (m + n))) => is_ok a b (m + n) w h (k.limbs (by omega)) (by omega)
  have h41b : ∀ B a b w, N32 w a (m + n) → OwnLs B w b (dig B32 (m + n)) → Calls Try.prog 41 #[a, .int .i64 0, b, .int .i64 0] w (LivesPost w) := fun B a b w h k => is_ok a b (m + n) w h (k.limbs (by omega)) (by omega)
  have ld : (dig B32 (m - n)).length ≤ 60 := Nat.le_trans (dig_len_le b32_two (Nat.lt_of_le_of_lt (Nat.sub_le m n) (dig_len_lt b32_two))) l1
  have h44 := fun a b w (h : Limbs w a (dig B32 m)) (k : Limbs w b (dig B32 n)) => refSub_call a b m n w h.is k.is (by omega) hcmp
  have h41d : ∀ B a b w, N32 w a (m - n) → OwnLs B w b (dig B32 (m - n)) → Calls Try.prog 41 #[a, .int .i64 0, b, .int .i64 0] w (LivesPost w) := fun B a b w h k => is_ok a b (m - n) w h (k.limbs (by omega)) (by omega)
  rw [chk2, if_pos (chk_dig (by omega)), chk_dig (by omega)] at h40
  have hcv : 0 ≤ cmpN m n := by unfold cmpN; split <;> (try split) <;> omega
  generalize cmpN m n = r at *
  have hq : (r != r) = false := by simp
  have HC := Lib.hid hcut
  have HC' := Lib.hid hcut'
  have HLU := Lib.hid hlu
  have HLV := Lib.hid hlv
  have H37 := Lib.hid h37
  have H38 := Lib.hid h38
  have H39 := Lib.hid h39
  have H40 := Lib.hid h40
  have H41 := Lib.hid h41b
  have H42 := Lib.hid h42
  have H43 := Lib.hid h43
  have H41D := Lib.hid h41d
  have H44 := Lib.hid h44
  clear hcut hcut' hlu hlv h37 h38 h39 h40 h41 h41b h42 h43 hA hA' hL hL' hnil hnil' l1 l2 hp ls hm hn hcmp h41d h44 ld
  go_enter Try.func4, Try.ntmps4
  go_wp2_with (fail)
  refine (HC.out _ (Below.refl _ _)).mono ?_
  rintro e w1 ⟨va, rfl, hva, hb1⟩
  have ka := HLU.out _ _ _ hva
  go_wp2_with (fail)
  refine (HC'.out _ hb1).mono ?_
  rintro e w2 ⟨vb, rfl, hvb, hb2⟩
  have kb := HLV.out _ _ _ hvb
  have b2 := below_at hb1 (Nat.le_refl _) hb2
  have ka2 := ka.keep hb2
  go_wp2_with (first
    | (go_at_call 37; refine (H37.out _ _ _ ka2 kb).mono ?_; rintro e w3 ⟨vs, rfl, hvs, hb3⟩
       have b3 := below_at b2 (Nat.le_refl _) hb3
       have ka3 := ka2.keep hb3
       have kb3 := kb.keep hb3)
    | (go_at_call 38; refine (H38.out _ _ _ ka3 kb3).mono ?_; rintro e w4 ⟨vd, rfl, hvd, hb4⟩
       have b4 := below_at b3 (Nat.le_refl _) hb4
       have ka4 := ka3.keep hb4
       have kb4 := kb3.keep hb4
       have ks4 := hvs.is.keep hb4)
    | (go_at_call 39; refine (H39.out _ _ _ ka4 kb4).mono ?_; rintro e w5 ⟨rfl, hb5⟩
       have b5 := below_at b4 (Nat.le_refl _) hb5
       have ka5 := ka4.keep hb5
       have kb5 := kb4.keep hb5
       have ks5 := ks4.keep hb5)
    | (go_at_call 40; refine (H40.out _ _ _ ka5 kb5).mono ?_; rintro e w6 ⟨rfl, rfl⟩)
    | (go_at_call 30; refine (lives_any _).mono ?_; rintro e w7 ⟨rfl, hb7⟩
       have b7 := below_at b5 (Nat.le_refl _) hb7
       have ka7 := ka5.keep hb7
       have kb7 := kb5.keep hb7
       have ks7 := ks5.keep hb7)
    | (go_at_call 42; refine (H42.out _ _ _ ka7 kb7).mono ?_; rintro e w8 ⟨rfl, hb8⟩
       have b8 := below_at b7 (Nat.le_refl _) hb8
       have ka8 := ka7.keep hb8
       have kb8 := kb7.keep hb8
       have ks8 := ks7.keep hb8)
    | (go_at_call 43; refine (H43.out _ _ _ ka8 kb8).mono ?_; rintro e w9 ⟨v9, rfl, hv9, hb9⟩
       have b9 := below_at b8 (Nat.le_refl _) hb9
       have ka9 := ka8.keep hb9
       have kb9 := kb8.keep hb9
       have ks9 := ks8.keep hb9))
  refine (H41.out _ _ _ _ ks9 hv9).mono ?_
  rintro e w10 ⟨rfl, hb10⟩
  have b10 := below_at b9 (Nat.le_refl _) hb10
  have kd := (((((hvd.is.keep hb5).keep hb7).keep hb8).keep hb9).keep hb10)
  have ka10 := ka9.keep hb10
  have kb10 := kb9.keep hb10
  go_wp2_with (fail)
  refine (H44.out _ _ _ ka10 kb10).mono ?_
  rintro e w11 ⟨v11, rfl, hv11, hb11⟩
  have b11 := below_at b10 (Nat.le_refl _) hb11
  go_wp2_with (fail)
  refine (H41D.out _ _ _ _ (kd.keep hb11) hv11).mono ?_
  rintro e w12 ⟨rfl, hb12⟩
  have b12 := below_at b11 (Nat.le_refl _) hb12
  go_wp2
  go_ret
  exact ⟨rfl, b12⟩

/-- The law NatAdds, for whatever limbs. -/
theorem adds_walk (A A' : Option Addr) (c c' L L' : Nat) (xs ys : List Nat) (w : World) (hA : Nums .u32 w A xs) (hA' : Nums .u32 w A' ys) (hlow : Low B32 xs) (hlow' : Low B32 ys) (hL : L = xs.length) (hL' : L' = ys.length) (hc : L ≤ c) (hc' : L' ≤ c') (hnil : A = none → c = 0) (hnil' : A' = none → c' = 0) :
    Calls Try.prog 4 #[.slice A L c, .slice A' L' c'] w (LivesPost w) := by
  by_cases h0 : chk2 (xs.take 60) (ys.take 60) = 0
  · have h1 : chk (xs.take 60) = 0 ∧ chk (ys.take 60) = 0 := by
      unfold chk2 at h0
      split at h0
      · rename_i h; exact ⟨h, h0⟩
      · rename_i h; exact absurd h0 h
    have hm := chk_zero (hlow.take 60) h1.1
    have hn := chk_zero (hlow'.take 60) h1.2
    rcases Nat.lt_or_ge (val B32 (xs.take 60)) (val B32 (ys.take 60)) with h2 | h2
    · exact adds_lt A A' c c' L L' _ _ xs ys w hA hA' hL hL' hc hc' hnil hnil' hm hn h2
    · exact adds_ge A A' c c' L L' _ _ xs ys w hA hA' hL hL' hc hc' hnil hnil' hm hn h2
  · exact adds_bad A A' c c' L L' xs ys w hA hA' hL hL' hc hc' hnil hnil' h0
end Go.Proofs.Ytaegkhdkhgemmaa

namespace Go.Proofs.Ytaegkhdkhgemmaa
open Go.RowKit Num
theorem make35 (n : Nat) (h : n ≤ 1000000000000) (w : World) : (Instr.makeSlice 35 (.int .i64 (n : Int)) (.int .i64 (n : Int))).run Try.prog w = .ok (.slice (some ⟨w.heap.size, 0, none⟩) n n) (w.alloc (.cells (madeCells #[.int .u32 0] n) 56)) :=
  run_make_row' 35 56 (.int .u32 0) 4 Try.underlying35 info56 rfl .i64 .i64 n (by omega) (by omega) w
/-- One step: a product, a digit and a carry that stay below 2^64, and the two halves of their sum: as the walk shows them. -/
theorem mac_ex (m x o c : Nat) (hm : m < B32) (hx : x < B32) (ho : o < B32) (hc : c < B32) : ∃ p s1 s lo hi : Nat,
    IntKind.u64.wrap ((m : Int) * (x : Int)) = (p : Int) ∧ IntKind.u64.wrap ((p : Int) + (o : Int)) = (s1 : Int) ∧ IntKind.u64.wrap ((s1 : Int) + (c : Int)) = (s : Int) ∧ (s : Int) % 4294967296 = (lo : Int) ∧ (s : Int) / 4294967296 = (hi : Int) ∧
    IntKind.u32.wrap (lo : Int) = (lo : Int) ∧ (lo : Int) % 4294967296 = (lo : Int) ∧ IntKind.u64.wrap (hi : Int) = (hi : Int) ∧ IntKind.u32.wrap (hi : Int) = (hi : Int) ∧ (hi : Int) % 4294967296 = (hi : Int) ∧ (s : Int).tmod 4294967296 = (lo : Int) ∧ (s : Int).tdiv 4294967296 = (hi : Int) ∧
    IntKind.u64.wrap (m : Int) = (m : Int) ∧ IntKind.u64.wrap (x : Int) = (x : Int) ∧ IntKind.u64.wrap (o : Int) = (o : Int) ∧ lo + B32 * hi = o + x * m + c ∧ lo < B32 ∧ hi < B32 := by
  have hb := word_bound (b := B32) ho hx hm hc (lo := (o + x * m + c) % 4294967296) (hi := (o + x * m + c) / 4294967296) (by unfold B32; omega)
  unfold B32 at *
  have hp : x * m < 4294967296 * 4294967296 := Nat.mul_lt_mul_of_lt_of_lt hx hm
  have hmx : (m : Int) * (x : Int) = ((x * m : Nat) : Int) := by push_cast; exact Int.mul_comm _ _
  generalize x * m = p at *
  refine ⟨p, p + o, p + o + c, (o + p + c) % 4294967296, (o + p + c) / 4294967296, ?_, ?_, ?_, by omega, by omega, ?_, by omega, ?_, ?_, by omega, ?_, ?_, ?_, ?_, ?_, by omega, by omega, by omega⟩
  · rw [IntKind.wrap_u64, hmx]; omega
  · rw [IntKind.wrap_u64]; omega
  · rw [IntKind.wrap_u64]; omega
  · rw [IntKind.wrap_u32']; omega
  · rw [IntKind.wrap_u64]; omega
  · rw [IntKind.wrap_u32']; omega
  · rw [Int.tmod_eq_emod_of_nonneg (by omega)]; omega
  · rw [Int.tdiv_eq_ediv_of_nonneg (by omega)]; omega
  · rw [IntKind.wrap_u64]; omega
  · rw [IntKind.wrap_u64]; omega
  · rw [IntKind.wrap_u64]; omega
set_option maxHeartbeats 2000000 in
set_option maxRecDepth 100000 in
theorem refMul_any (A A' : Option Addr) (c c' L L' : Nat) (xs ys : List Nat) (w : World) (hA : Nums .u32 w A xs) (hA' : Nums .u32 w A' ys) (hx : Low B32 xs) (hy : Low B32 ys) (hL : L = xs.length) (hL' : L' = ys.length)
    (hl : L ≤ 1000000) (hl' : L' ≤ 1000000) : Calls Try.prog 46 #[.slice A L c, .slice A' L' c'] w (LsPost w (dig B32 (val B32 xs * val B32 ys))) := by
  have hmk := make35 (L + L' + 1) (by omega)
  push_cast at hmk
  have hr0 := Row.made w .u32 (L + L' + 1) 56
  have hbA : Below w.heap.size w (w.alloc (.cells (madeCells #[.int .u32 0] (L + L' + 1)) 56)) := (Below.refl _ _).alloc (Nat.le_refl _) _
  have hst0 := MulSt.start b32_two ys (xs ++ [0])
  rw [List.length_append, List.length_singleton, ← hL, ← hL', show L' + (L + 1) = L + L' + 1 by omega] at hst0
  have HR0 := Lib.hid hr0
  have HL := Lib.hid hL
  have HL' := Lib.hid hL'
  clear hL hL' hr0
  go_enter Try.func46, Try.ntmps46
  go_wp2
  go_loopw [6] (fun t wr => ∃ (i : Nat) (zs : List Nat), i ≤ L ∧ t = .int .i64 (i : Int) ∧ MulSt B32 ys (xs ++ [0]) i zs ∧ Row .u32 56 wr w.heap.size zs ∧ Below w.heap.size w wr) (fun t _ => L - (intOf t).toNat)
  case atStart => exact ⟨0, _, Nat.zero_le _, rfl, hst0, HR0.out, hbA⟩
  case round =>
    clear hst0 HR0 hbA hmk
    obtain ⟨i, zs, hi, rfl, hst, hrow, hbl⟩ := hrel
    have hlen := hst.len
    rw [List.length_append, List.length_singleton, ← HL.out, ← HL'.out] at hlen
    have HLEN := Lib.hid hlen
    clear hlen
    by_cases hlt : i < L
    · obtain ⟨q, qo, v, rfl, hq, hv, hcv⟩ := (hA.keep hbl).at_ (i := i) (by have := HL.out; omega)
      have hvl : v < B32 := hx v (List.mem_of_getElem? hv)
      have HV := Lib.hid hv
      clear hv
      go_wp2_with (fail)
      go_loopw [7, 8] (fun q t wr2 => ∃ (k cy : Nat) (zs' : List Nat), k ≤ L' ∧ q = .int .u64 (cy : Int) ∧ t = .int .i64 (k : Int) ∧ ScaleSt B32 zs ys v i k zs' cy ∧ Row .u32 56 wr2 w.heap.size zs' ∧ Below w.heap.size w wr2) (fun _ t _ => L' - (intOf t).toNat)
      case atStart => exact ⟨0, 0, zs, Nat.zero_le _, rfl, rfl, ScaleSt.start b32_two hst.low, hrow, hbl⟩
      case round =>
        obtain ⟨k, cy, zs', hk, rfl, rfl, hsc, hrow2, hbl2⟩ := hrel
        by_cases hlk : k < L'
        · obtain ⟨q2, qo2, x, rfl, hq2, hxv, hcx⟩ := (hA'.keep hbl2).at_ (i := k) (by have := HL'.out; omega)
          have hxl : x < B32 := hy x (List.mem_of_getElem? hxv)
          obtain ⟨g', off', v', e', hq', hv', hcv'⟩ := (hA.keep hbl2).at_ (i := i) (by have := HL.out; omega)
          injection e' with e'
          injection e' with e1 e2
          subst e1 e2
          rw [HV.out] at hv'
          injection hv' with hv'
          subst hv'
          have hzl : i + k < zs'.length := by have h1 := hsc.len; have h2 := HLEN.out; omega
          obtain ⟨o, ho⟩ : ∃ o, zs'[i + k]? = some o := ⟨zs'[i + k], List.getElem?_eq_getElem _⟩
          have hol : o < B32 := hsc.low o (List.mem_of_getElem? ho)
          have hco := hrow2.cell ho
          have hfo := hrow2.frozen (i + k)
          obtain ⟨p, s1, s, lo, hi', w1, w2, w3, w4, w5, w6, w7, w8, w9, wa, wb, wc, wd, we, wf, hs, hlo, hhi⟩ := mac_ex v x o cy hvl hxl hol hsc.le
          have hstep := hsc.step ho hxv hs hlo hhi
          have HST := Lib.hid hstep
          clear hstep hs hlo hhi ho hxv hol hxl hsc hcv
          go_wp2_with (fail)
          go_quiet (fail)
          go_wp2
          go_roundw
          case rel => exact ⟨k + 1, hi', zs'.set (i + k) lo, by omega, rfl, by go_num, HST.out, (Row.of_block hrow2 (by rfl)).set (i + k) lo, below_set (below_drewN hbl2 _) (Nat.le_refl _) _⟩
          case measure => simp [intOf]; omega
        · have hkL : k = L' := by omega
          subst hkL
          have hzl : i + k < zs'.length := by have h1 := hsc.len; have h2 := HLEN.out; omega
          have hcy : IntKind.u32.wrap (cy : Int) = (cy : Int) := by have := hsc.le; unfold B32 at this; rw [IntKind.wrap_u32']; omega
          have hcy2 : (cy : Int) % 4294967296 = (cy : Int) := by have := hsc.le; unfold B32 at this; omega
          have hik : i + k < L + k + 1 := by omega
          obtain ⟨o, ho⟩ : ∃ o, zs'[i + k]? = some o := ⟨zs'[i + k], List.getElem?_eq_getElem _⟩
          have hco := hrow2.cell ho
          have hfo := hrow2.frozen (i + k)
          have HSC := Lib.hid hsc
          clear hsc ho
          go_wp2
          go_roundw
          case rel =>
            refine ⟨i + 1, zs'.set (i + k) cy, by omega, by go_num, ?_, hrow2.set (i + k) cy, below_set hbl2 (Nat.le_refl _) _⟩
            have := hst.step (by rw [List.length_append]; have := HL.out; omega) (by rw [List.getElem?_append_left (by have := HL.out; omega)]; exact HV.out) (by rw [← HL'.out]; exact HSC.out)
            rw [← HL'.out, Nat.add_comm k i] at this
            exact this
          case measure => simp [intOf]; omega
    · have hiL : i = L := by omega
      subst hiL
      have hv := hst.eq
      rw [HL.out, List.take_left, Nat.mul_comm] at hv
      have hn := hrow.nums0 zs.length
      rw [List.take_length] at hn
      have hzl : zs.length = i + L' + 1 := by have := HLEN.out; omega
      have htr := refTrim_l (.slice (some ⟨w.heap.size, 0, none⟩) (i + L' + 1) (i + L' + 1)) zs wr ⟨_, _, by rw [hzl], by omega, by omega, hn⟩ hst.low (by omega)
      rw [hv] at htr
      have HT := Lib.hid htr
      clear htr hv hn hzl hst hx hy hA hA'
      go_wp2_with (go_at_call 80; refine HT.out.mono ?_; rintro e w9 ⟨v9, rfl, hv9, hb9⟩)
      go_ret
      exact ⟨_, rfl, hv9.mono hbl.size, below_at hbl (Nat.le_refl _) hb9⟩
end Go.Proofs.Ytaegkhdkhgemmaa

namespace Go.Proofs.Ytaegkhdkhgemmaa
open Go.RowKit Num

theorem prod_len {m n K J : Nat} (hm : (dig B32 m).length ≤ K) (hn : (dig B32 n).length ≤ J) : (dig B32 (m * n)).length ≤ K + J := by
  have h1 := Nat.lt_of_lt_of_le (dig_len_lt b32_two (n := m)) (Nat.pow_le_pow_right b32_pos hm)
  have h2 := Nat.lt_of_lt_of_le (dig_len_lt b32_two (n := n)) (Nat.pow_le_pow_right b32_pos hn)
  refine dig_len_le b32_two ?_
  rw [Nat.pow_add]
  exact Nat.mul_lt_mul_of_lt_of_lt h1 h2
theorem refMul_call (a b : Value) (m n : Nat) (w : World) (ha : N32 w a m) (hb : N32 w b n) (hm : (dig B32 m).length ≤ 1000) (hn : (dig B32 n).length ≤ 1000) : Calls Try.prog 46 #[a, b] w (LsPost w (dig B32 (m * n))) := by
  obtain ⟨A, c, rfl, _, hA⟩ := ha
  obtain ⟨A', c', rfl, _, hB⟩ := hb
  have := refMul_any A A' c c' _ _ _ _ w hA hB (low_dig b32_two m) (low_dig b32_two n) rfl rfl (by omega) (by omega)
  rw [val_dig b32_two, val_dig b32_two] at this
  exact this

set_option maxHeartbeats 2000000 in
set_option maxRecDepth 100000 in
theorem muls_bad (A A' : Option Addr) (c c' L L' : Nat) (xs ys : List Nat) (w : World) (hA : Nums .u32 w A xs) (hA' : Nums .u32 w A' ys) (hL : L = xs.length) (hL' : L' = ys.length) (hc : L ≤ c) (hc' : L' ≤ c') (hnil : A = none → c = 0) (hnil' : A' = none → c' = 0)
    (hbad : chk2 (xs.take 160) (ys.take 160) ≠ 0) : Calls Try.prog 5 #[.slice A L c, .slice A' L' c'] w (LivesPost w) := by
  have hcut := fun w' (h : Below w.heap.size w w') => cut_any A c L 160 xs w' (hA.keep h) hL hc hnil (by omega)
  have hcut' := fun w' (h : Below w.heap.size w w') => cut_any A' c' L' 160 ys w' (hA'.keep h) hL' hc' hnil' (by omega)
  have l1 : (xs.take 160).length ≤ 160 := by rw [List.length_take]; omega
  have l2 : (ys.take 160).length ≤ 160 := by rw [List.length_take]; omega
  generalize xs.take 160 = us at *
  generalize ys.take 160 = vs at *
  have hlu : ∀ B w' a, OwnLs B w' a us → Limbs w' a us := fun B w' a h => h.limbs (by omega)
  have hlv : ∀ B w' a, OwnLs B w' a vs → Limbs w' a vs := fun B w' a h => h.limbs (by omega)
  have h45 := fun a b w h k => mul_bad a b us vs w h k hbad
  have h40 := fun a b w h k => both_any a b us vs w h k
  generalize chk2 us vs = r at *
  have hq : (r != 0) = true := by simp [hbad]
  have hq0 : (r == r) = true := by simp
  have h41 := fun b w => is_err b r w hbad
  have HC := Lib.hid hcut
  have HC' := Lib.hid hcut'
  have HLU := Lib.hid hlu
  have HLV := Lib.hid hlv
  have H45 := Lib.hid h45
  have H40 := Lib.hid h40
  have H41 := Lib.hid h41
  have HB := Lib.hid hbad
  clear hcut hcut' hlu hlv h45 h40 h41 hbad hA hA' hL hL' hnil hnil' l1 l2
  go_enter Try.func5, Try.ntmps5
  go_wp2_with (fail)
  refine (HC.out _ (Below.refl _ _)).mono ?_
  rintro e w1 ⟨va, rfl, hva, hb1⟩
  have ka := HLU.out _ _ _ hva
  go_wp2_with (fail)
  refine (HC'.out _ hb1).mono ?_
  rintro e w2 ⟨vb, rfl, hvb, hb2⟩
  have kb := HLV.out _ _ _ hvb
  have b2 := below_at hb1 (Nat.le_refl _) hb2
  have ka2 := ka.keep hb2
  go_wp2_with (first
    | (go_at_call 45; refine (H45.out _ _ _ ka2 kb).mono ?_; rintro e w3 ⟨rfl, hb3⟩
       have b3 := below_at b2 (Nat.le_refl _) hb3
       have ka3 := ka2.keep hb3
       have kb3 := kb.keep hb3)
    | (go_at_call 40; refine (H40.out _ _ _ ka3 kb3).mono ?_; rintro e w6 ⟨rfl, rfl⟩))
  refine (H41.out _ _).mono ?_
  rintro e w8 ⟨rfl, hb8⟩
  have b8 := below_at b3 (Nat.le_refl _) hb8
  go_wp2_with (fail)
  refine (lives_any _).mono ?_
  rintro e w9 ⟨rfl, hb9⟩
  have b9 := below_at b8 (Nat.le_refl _) hb9
  go_wp2
  go_ret
  exact ⟨rfl, b9⟩

set_option maxHeartbeats 2000000 in
set_option maxRecDepth 100000 in
theorem muls_ok (A A' : Option Addr) (c c' L L' m n : Nat) (xs ys : List Nat) (w : World) (hA : Nums .u32 w A xs) (hA' : Nums .u32 w A' ys) (hL : L = xs.length) (hL' : L' = ys.length) (hc : L ≤ c) (hc' : L' ≤ c') (hnil : A = none → c = 0) (hnil' : A' = none → c' = 0)
    (hm : xs.take 160 = dig B32 m) (hn : ys.take 160 = dig B32 n) : Calls Try.prog 5 #[.slice A L c, .slice A' L' c'] w (LivesPost w) := by
  have hcut := fun w' (h : Below w.heap.size w w') => cut_any A c L 160 xs w' (hA.keep h) hL hc hnil (by omega)
  have hcut' := fun w' (h : Below w.heap.size w w') => cut_any A' c' L' 160 ys w' (hA'.keep h) hL' hc' hnil' (by omega)
  have l1 : (xs.take 160).length ≤ 160 := by rw [List.length_take]; omega
  have l2 : (ys.take 160).length ≤ 160 := by rw [List.length_take]; omega
  rw [hm] at hcut l1
  rw [hn] at hcut' l2
  have ls : (dig B32 (m * n)).length ≤ 320 := prod_len l1 l2
  have hp : nbits (m * n) ≤ 8388608 := Nat.le_trans (bits_of_len ls) (by omega)
  have w1 := words_le (n := m) (K := 500) (by omega)
  have w2 := words_le (n := n) (K := 500) (by omega)
  have hat : MulAt m n := mulAt_all (by omega) (by omega)
  have hlu : ∀ B w' a, OwnLs B w' a (dig B32 m) → Limbs w' a (dig B32 m) := fun B w' a h => h.limbs (by omega)
  have hlv : ∀ B w' a, OwnLs B w' a (dig B32 n) → Limbs w' a (dig B32 n) := fun B w' a h => h.limbs (by omega)
  have h45 := fun a b w (h : Limbs w a (dig B32 m)) (k : Limbs w b (dig B32 n)) => mul_at (N := 500) a b m n w hat (by omega) h.is k.is (by omega) (by omega) (by omega) (by omega) hp
  have h40 := fun a b w h k => both_any a b (dig B32 m) (dig B32 n) w h k
  have h46 := fun a b w (h : Limbs w a (dig B32 m)) (k : Limbs w b (dig B32 n)) => refMul_call a b m n w h.is k.is (by omega) (by omega)
  have h41b : ∀ B a b w, N32 w a (m * n) → OwnLs B w b (dig B32 (m * n)) → Calls Try.prog 41 #[a, .int .i64 0, b, .int .i64 0] w (LivesPost w) := fun B a b w h k => is_ok a b (m * n) w h (k.limbs (by omega)) (by omega)
  rw [chk2, if_pos (chk_dig (by omega)), chk_dig (by omega)] at h40
  have HC := Lib.hid hcut
  have HC' := Lib.hid hcut'
  have HLU := Lib.hid hlu
  have HLV := Lib.hid hlv
  have H45 := Lib.hid h45
  have H40 := Lib.hid h40
  have H41 := Lib.hid h41b
  have H46 := Lib.hid h46
  clear hcut hcut' hlu hlv h45 h40 h41b h46 hA hA' hL hL' hnil hnil' l1 l2 hp ls hm hn hat w1 w2
  go_enter Try.func5, Try.ntmps5
  go_wp2_with (fail)
  refine (HC.out _ (Below.refl _ _)).mono ?_
  rintro e w1 ⟨va, rfl, hva, hb1⟩
  have ka := HLU.out _ _ _ hva
  go_wp2_with (fail)
  refine (HC'.out _ hb1).mono ?_
  rintro e w2 ⟨vb, rfl, hvb, hb2⟩
  have kb := HLV.out _ _ _ hvb
  have b2 := below_at hb1 (Nat.le_refl _) hb2
  have ka2 := ka.keep hb2
  go_wp2_with (first
    | (go_at_call 45; refine (H45.out _ _ _ ka2 kb).mono ?_; rintro e w3 ⟨vs, rfl, hvs, hb3⟩
       have b3 := below_at b2 (Nat.le_refl _) hb3
       have ka3 := ka2.keep hb3
       have kb3 := kb.keep hb3)
    | (go_at_call 40; refine (H40.out _ _ _ ka3 kb3).mono ?_; rintro e w6 ⟨rfl, rfl⟩)
    | (go_at_call 46; refine (H46.out _ _ _ ka3 kb3).mono ?_; rintro e w9 ⟨v9, rfl, hv9, hb9⟩
       have b9 := below_at b3 (Nat.le_refl _) hb9
       have ks9 := hvs.is.keep hb9))
  refine (H41.out _ _ _ _ ks9 hv9).mono ?_
  rintro e w10 ⟨rfl, hb10⟩
  have b10 := below_at b9 (Nat.le_refl _) hb10
  go_wp2_with (fail)
  refine (lives_any _).mono ?_
  rintro e w11 ⟨rfl, hb11⟩
  have b11 := below_at b10 (Nat.le_refl _) hb11
  go_wp2
  go_ret
  exact ⟨rfl, b11⟩

/-- The law NatMuls, for whatever limbs. -/
theorem muls_walk (A A' : Option Addr) (c c' L L' : Nat) (xs ys : List Nat) (w : World) (hA : Nums .u32 w A xs) (hA' : Nums .u32 w A' ys) (hlow : Low B32 xs) (hlow' : Low B32 ys) (hL : L = xs.length) (hL' : L' = ys.length) (hc : L ≤ c) (hc' : L' ≤ c') (hnil : A = none → c = 0) (hnil' : A' = none → c' = 0) :
    Calls Try.prog 5 #[.slice A L c, .slice A' L' c'] w (LivesPost w) := by
  by_cases h0 : chk2 (xs.take 160) (ys.take 160) = 0
  · have h1 : chk (xs.take 160) = 0 ∧ chk (ys.take 160) = 0 := by
      unfold chk2 at h0
      split at h0
      · rename_i h; exact ⟨h, h0⟩
      · rename_i h; exact absurd h0 h
    have hm := chk_zero (hlow.take 160) h1.1
    have hn := chk_zero (hlow'.take 160) h1.2
    exact muls_ok A A' c c' L L' _ _ xs ys w hA hA' hL hL' hc hc' hnil hnil' hm hn
  · exact muls_bad A A' c c' L L' xs ys w hA hA' hL hL' hc hc' hnil hnil' h0
end Go.Proofs.Ytaegkhdkhgemmaa

namespace Go.Proofs.Ytaegkhdkhgemmaa
open Go.RowKit Num

/-- A number comes back. -/
def N32Post (w : World) (n : Nat) (e : Ending) (w' : World) : Prop := ∃ v, e = .returned v ∧ N32 w' v n ∧ Below w.heap.size w w'

/-- The bits of the exponent from i on are done; p is the next one's weight. -/
structure PowSt (m n i p V : Nat) : Prop where
  wt : p = if i = 0 then 0 else 2 ^ (i - 1)
  eq : V = m ^ (n / 2 ^ i)
theorem PowSt.start {m n : Nat} (hn : n < 2 ^ 41) : PowSt m n 41 1099511627776 1 := ⟨rfl, by rw [Nat.div_eq_of_lt hn]; rfl⟩
theorem PowSt.next {m n i p V : Nat} (h : PowSt m n (i + 1) p V) : ∃ q r : Nat, n / p = q ∧ q % 2 = r ∧ 0 < p ∧ q ≤ n ∧ (r = 0 → V * V = m ^ q ∧ PowSt m n i (p / 2) (V * V)) ∧ (r = 1 → V * V * m = m ^ q ∧ PowSt m n i (p / 2) (V * V * m)) := by
  have hp : p = 2 ^ i := by rw [h.wt, if_neg (by omega)]; rfl
  have hV : V = m ^ (n / 2 ^ i / 2) := by rw [h.eq, Nat.div_div_eq_div_mul, ← Nat.pow_succ]
  have hp2 : p / 2 = if i = 0 then 0 else 2 ^ (i - 1) := by
    rw [hp]
    by_cases h0 : i = 0
    · subst h0; rfl
    · rw [if_neg h0]
      obtain ⟨j, rfl⟩ : ∃ j, i = j + 1 := ⟨i - 1, by omega⟩
      rw [Nat.pow_succ]; simp
  have hd := Nat.div_add_mod (n / 2 ^ i) 2
  refine ⟨_, _, rfl, rfl, by rw [hp]; exact Nat.pow_pos (by omega), Nat.div_le_self _ _, fun h0 => ?_, fun h1 => ?_⟩
  · have e : V * V = m ^ (n / p) := by
      rw [hV, ← Nat.pow_add, hp]; congr 1; rw [hp] at h0; omega
    exact ⟨e, hp2, by rw [e, hp]⟩
  · have e : V * V * m = m ^ (n / p) := by
      rw [hV, ← Nat.pow_add, ← Nat.pow_succ, hp]; congr 1; rw [hp] at h1; omega
    exact ⟨e, hp2, by rw [e, hp]⟩

set_option maxHeartbeats 2000000 in
set_option maxRecDepth 100000 in
theorem refPow_any (a : Value) (m n : Nat) (w : World) (ha : N32 w a m) (hm : (dig B32 m).length ≤ 500) (hn : n ≤ 1000000000) (hp : ∀ j, j ≤ n → (dig B32 (m ^ j)).length ≤ 500) :
    Calls Try.prog 53 #[a, .int .i64 (n : Int)] w (N32Post w (m ^ n)) := by
  have hof := refOf_any 1 (by decide) w
  have hst0 := @PowSt.start m n (by omega)
  have hmul := fun b c x y w' (h : N32 w' b x) (k : N32 w' c y) (h1 : (dig B32 x).length ≤ 1000) (h2 : (dig B32 y).length ≤ 1000) => refMul_call b c x y w' h k h1 h2
  have hl1 : (dig B32 1).length ≤ 1000000 := Nat.le_trans (len_u64 (by decide)) (by omega)
  have HA := Lib.hid ha
  have HOF := Lib.hid hof
  have HST0 := Lib.hid hst0
  have HP := Lib.hid hp
  have HM := Lib.hid hmul
  have HLM := Lib.hid hm
  clear ha hof hst0 hp hmul hm
  go_enter Try.func53, Try.ntmps53
  go_wp2_with (fail)
  refine HOF.out.mono ?_
  rintro e w1 ⟨v1, rfl, hv1, hb1⟩
  have k1 : N32 w1 v1 1 := (hv1.limbs (by omega)).is
  clear hl1
  go_wp2_with (fail)
  go_loopw [5, 6] (fun out t wr => ∃ i p V : Nat, i ≤ 41 ∧ t = .int .i64 (p : Int) ∧ p ≤ 1099511627776 ∧ PowSt m n i p V ∧ N32 wr out V ∧ Below w.heap.size w wr) (fun _ t _ => (intOf t).toNat)
  case atStart => exact ⟨41, _, 1, Nat.le_refl _, rfl, Nat.le_refl _, HST0.out, k1, hb1⟩
  case round =>
    clear hb1 hv1 k1
    obtain ⟨i, p, V, hi, rfl, hple, hst, hV, hbl⟩ := hrel
    by_cases h0 : i = 0
    · have hp0 : p = 0 := by rw [hst.wt, if_pos h0]
      have he := hst.eq
      subst h0
      subst hp0
      rw [Nat.pow_zero, Nat.div_one] at he
      have HE := Lib.hid he
      clear he hst
      go_wp2
      go_ret
      have := HE.out
      subst this
      exact ⟨_, rfl, hV, hbl⟩
    · obtain ⟨i, rfl⟩ : ∃ j, i = j + 1 := ⟨i - 1, by omega⟩
      obtain ⟨q, r, hq, hr, hp0, hqn, c0, c1⟩ := hst.next
      have hVl : (dig B32 V).length ≤ 500 := by rw [hst.eq]; exact HP.out _ (Nat.div_le_self _ _)
      have q1 : (n : Int) / (p : Int) = (q : Int) := by rw [← hq]; exact (Int.natCast_ediv _ _).symm
      have q2 : (n : Int).tdiv (p : Int) = (q : Int) := by rw [Int.tdiv_eq_ediv_of_nonneg (by omega)]; exact q1
      have q3 : (q : Int) % 2 = (r : Int) := by omega
      have q4 : (q : Int).tmod 2 = (r : Int) := by rw [Int.tmod_eq_emod_of_nonneg (by omega)]; exact q3
      have q5 : ((p : Int) == 0) = false := by simp; omega
      obtain ⟨p', hp'⟩ : ∃ p', p / 2 = p' := ⟨_, rfl⟩
      have q6 : (p : Int) / 2 = (p' : Int) := by omega
      have q7 : (p : Int).tdiv 2 = (p' : Int) := by rw [Int.tdiv_eq_ediv_of_nonneg (by omega)]; exact q6
      rw [hp'] at c0 c1
      have hlt : p' < p := by omega
      by_cases hr1 : r = 1
      · obtain ⟨e1, e2⟩ := c1 hr1
        have hVV : (dig B32 (V * V)).length ≤ 1000 := prod_len hVl hVl
        have t1 : ((r : Int) == 1) = true := by simp [hr1]
        have HE1 := Lib.hid e1
        have HE2 := Lib.hid e2
        have HV := Lib.hid hVl
        have HVV := Lib.hid hVV
        clear c0 c1 hr1 hq hr e1 e2 hst hVl hVV hp'
        go_wp2_with (fail)
        refine (HM.out _ _ _ _ _ hV hV (by have := HV.out; omega) (by have := HV.out; omega)).mono ?_
        rintro e w2 ⟨v2, rfl, hv2, hb2⟩
        have b2 := below_at hbl (Nat.le_refl _) hb2
        have k2 := (hv2.limbs (by have := HVV.out; omega)).is
        go_wp2_with (fail)
        refine (HM.out _ _ _ _ _ k2 (HA.out.keep b2) HVV.out (by have := HLM.out; omega)).mono ?_
        rintro e w3 ⟨v3, rfl, hv3, hb3⟩
        have b3 := below_at b2 (Nat.le_refl _) hb3
        have k3 : N32 w3 v3 (V * V * m) := (hv3.limbs (by rw [HE1.out]; have := HP.out q hqn; omega)).is
        go_wp2
        go_roundw
        case rel => exact ⟨i, p', _, by omega, rfl, by omega, HE2.out, k3, b3⟩
        case measure => simp [intOf]; omega
      · have hr0 : r = 0 := by omega
        obtain ⟨e1, e2⟩ := c0 hr0
        have t1 : ((r : Int) == 1) = false := by simp [hr0]
        have hVV : (dig B32 (V * V)).length ≤ 1000 := prod_len hVl hVl
        have HE1 := Lib.hid e1
        have HE2 := Lib.hid e2
        have HV := Lib.hid hVl
        have HVV := Lib.hid hVV
        clear c0 c1 hr1 hr0 hq hr e1 e2 hst hVl hVV hp'
        go_wp2_with (fail)
        refine (HM.out _ _ _ _ _ hV hV (by have := HV.out; omega) (by have := HV.out; omega)).mono ?_
        rintro e w2 ⟨v2, rfl, hv2, hb2⟩
        have b2 := below_at hbl (Nat.le_refl _) hb2
        have k2 := (hv2.limbs (by have := HVV.out; omega)).is
        go_wp2
        go_roundw
        case rel => exact ⟨i, p', _, by omega, rfl, by omega, HE2.out, k2, b2⟩
        case measure => simp [intOf]; omega
end Go.Proofs.Ytaegkhdkhgemmaa
