/- Part of the proof of WireLongs: RootW, RootApi, DivM, WNat, WStr, WStr2, MulU, Rep, CloneI. -/
import Derived.Test.YthgekjkgfccnaaaPartD
import Derived.Test.YthgekjkgfccnaaaPartE
import Derived.Test.YthgekjkgfccnaaaPartC
import Derived.Test.YthgekjkgfccnaaaPartB
import Derived.Deep.RegionLaw
import Derived.Lib.SliceRun
import Derived.Laws.AppendOwn
namespace Go.Proofs.Ythgekjkgfccnaaa
open Go.RowKit Num

theorem own_v (v : Nat) (h0 : 0 < v) (hv : v < B64) (w : World) : W64 (w.alloc (.cells #[.int .u64 (v : Int)] 55)) (.slice (some ⟨w.heap.size, 0, none⟩) 1 1) v := by
  have hr := row_one w v
  have hlow : Low B64 [v] := Low.cons hv (Low.nil _)
  have := (own_of_trim b64_two hr hlow (Nat.le_refl w.heap.size)).is
  have hval : val B64 [v] = v := by simp [val]
  have hd : dig B64 v = [v] := dig1 b64_two (by omega) hv
  rw [hval, hd] at this
  exact this
/-- The numbers of a root that is not found at once. -/
theorem root_numbers {n m r : Nat} (h : IsRoot n m r) (hn : 0 < n) (hs : n < nbits m) : ∃ D, (nbits m - 1) / n + 1 = D ∧ 2 ^ (D - 1) ≤ r ∧ r < 2 ^ D ∧ n * (D - 1) ≤ nbits m - 1 ∧ 2 ≤ D ∧ D ≤ nbits m := by
  have hm0 : m ≠ 0 := fun h0 => by rw [h0] at hs; simp [nbits] at hs
  have h1 := nbits_ge hm0
  have h2 := nbits_lt m
  have hd := Nat.div_add_mod (nbits m - 1) n
  have hr := Nat.mod_lt (nbits m - 1) hn
  have hge : 1 ≤ (nbits m - 1) / n := (Nat.le_div_iff_mul_le hn).2 (by omega)
  have hle := Nat.div_le_self (nbits m - 1) n
  refine ⟨_, rfl, ?_, ?_, ?_, by omega, by omega⟩
  all_goals generalize (nbits m - 1) / n = q at *
  · have : 2 ^ q < r + 1 := by
      refine pow_lt_iff (n := n) (Nat.lt_of_le_of_lt ?_ h.2)
      rw [← Nat.pow_mul, Nat.mul_comm]
      exact Nat.le_trans (Nat.pow_le_pow_right (by omega) (by omega)) h1
    rw [Nat.add_sub_cancel]; omega
  · refine pow_lt_iff (n := n) (Nat.lt_of_le_of_lt h.1 (Nat.lt_of_lt_of_le h2 ?_))
    rw [← Nat.pow_mul, Nat.mul_comm]
    refine Nat.pow_le_pow_right (by omega) ?_
    rw [Nat.mul_add]; omega
  · rw [Nat.add_sub_cancel]; omega
theorem pow_len {n m r : Nat} (h : r ^ n ≤ m) (h0 : 0 < r) (hn : n ≤ nbits m) (hb : nbits m ≤ 8000) : ∀ y, y ≤ 2 * r → ∀ j, j ≤ n → (dig B64 (y ^ j)).length ≤ 251 := by
  intro y hy j hj
  refine dig_len_le b64_two ?_
  have h1 : y ^ j ≤ (2 * r) ^ n := Nat.le_trans (Nat.pow_le_pow_left hy j) (Nat.pow_le_pow_right (by omega) hj)
  rw [Nat.mul_pow] at h1
  have h2 := Nat.mul_le_mul_left (2 ^ n) h
  have h3 : 2 ^ n * m < 2 ^ n * 2 ^ nbits m := Nat.mul_lt_mul_of_pos_left (nbits_lt m) (Nat.two_pow_pos n)
  rw [← Nat.pow_add] at h3
  have h4 : ∀ K, n + nbits m ≤ 64 * K → y ^ j < B64 ^ K := fun K hK => by
    rw [← pow_b64]
    exact Nat.lt_of_le_of_lt (Nat.le_trans h1 h2) (Nat.lt_of_lt_of_le h3 (Nat.pow_le_pow_right (by omega) hK))
  exact h4 251 (by omega)
theorem newton_y {D L low n r : Nat} (hn : n + 1 < 2 ^ L) (hl : 2 * low + L ≤ D) (hr : 2 ^ (D - 1) ≤ r) (hD : 1 ≤ D) (X : Nat) (hX : X = (r / 2 ^ low + 1) * 2 ^ low) : r < X ∧ X ≤ r + 2 ^ low ∧ n * ((X - (r + 1)) * (X - (r + 1))) ≤ 2 * (r + 1) := by
  have hp := Nat.two_pow_pos low
  have h1 := Nat.lt_div_mul_add (a := r) hp
  have h2 := Nat.div_mul_le_self r (2 ^ low)
  rw [Nat.add_mul, Nat.one_mul] at hX
  refine ⟨by omega, by omega, ?_⟩
  have h3 : X - (r + 1) ≤ 2 ^ low := by omega
  have h4 : n * ((X - (r + 1)) * (X - (r + 1))) ≤ 2 ^ L * (2 ^ low * 2 ^ low) := Nat.mul_le_mul (by omega) (Nat.mul_le_mul h3 h3)
  rw [← Nat.pow_add, ← Nat.pow_add] at h4
  have h5 : 2 ^ (L + (low + low)) ≤ 2 ^ D := Nat.pow_le_pow_right (by omega) (by omega)
  have h6 : 2 ^ D = 2 * 2 ^ (D - 1) := by rw [← Nat.pow_succ']; congr 1; omega
  omega

set_option maxHeartbeats 2000000 in
set_option maxRecDepth 100000 in
theorem newton_any (a x : Value) (m n k X : Nat) (w : World) (ha : W64 w a m) (hx : W64 w x X) (hk : n = k + 1) (hk0 : 0 < k) (hn : n ≤ 10000) (hX : 0 < X) (hm : (dig B64 m).length ≤ 190) (hp : ∀ j, j ≤ k → (dig B64 (X ^ j)).length ≤ 300) (hp1 : (dig B64 X).length ≤ 300) :
    Calls Try.prog 78 #[a, .int .i64 (n : Int), x] w (NumPost w ((k * X + m / X ^ k) / n)) := by
  have e1 : (n : Int) - 1 = (k : Int) := by omega
  have e2 : IntKind.u64.wrap (k : Int) = (k : Int) := by rw [IntKind.wrap_u64]; omega
  have e3 : IntKind.u64.wrap (n : Int) = (n : Int) := by rw [IntKind.wrap_u64]; omega
  have hpw := fun w' (h : W64 w' x X) => power_any (mulSpec_all 300 (by omega)) x X k w' h (by omega) hp1 hp
  have hXk : 0 < X ^ k := Nat.pow_pos hX
  have hdv := fun v w' (h : W64 w' a m) (l : W64 w' v (X ^ k)) => divide_any a v m _ w' h l hXk (by have := hp k (Nat.le_refl _); omega) (by omega) (.inr (by omega))
  have hok := fun w' => own_v k hk0 (by unfold B64; omega) w'
  have hkl : (dig B64 k).length ≤ 1 := small64 (by unfold B64; omega)
  have hmu := fun v w' (h : W64 w' x X) (l : W64 w' v k) => mulAt_all (m := X) (n := k) (by omega) (by omega) x v w' h l
  have hxl : (dig B64 (X * k)).length ≤ 301 := by
    have g : ∀ K, (dig B64 X).length ≤ K → (dig B64 (X * k)).length ≤ K + 1 := fun K hK => by
      refine dig_len_le b64_two ?_
      have h1 := Nat.lt_of_lt_of_le (dig_len_lt b64_two (n := X)) (Nat.pow_le_pow_right b64_pos hK)
      rw [Nat.pow_succ]
      exact Nat.mul_lt_mul_of_lt_of_lt h1 (by unfold B64; omega)
    exact g 300 hp1
  have hql : (dig B64 (m / X ^ k)).length ≤ 190 := Nat.le_trans (lenm (Nat.div_le_self _ _)) hm
  have hsu := fun u v w' (h : W64 w' u (X * k)) (l : W64 w' v (m / X ^ k)) => sum_any u v _ _ w' h l (by omega) (by omega)
  have g2 : ∀ K, (dig B64 (X * k)).length ≤ K → (dig B64 (m / X ^ k)).length ≤ K → (dig B64 (X * k + m / X ^ k)).length ≤ K + 1 := fun K h1 h2 =>
    dig_len_le b64_two (two_pow_lt b64_two (Nat.lt_of_lt_of_le (dig_len_lt b64_two) (Nat.pow_le_pow_right b64_pos h1)) (Nat.lt_of_lt_of_le (dig_len_lt b64_two) (Nat.pow_le_pow_right b64_pos h2)))
  have hsl := g2 301 hxl (by omega)
  clear g2
  have hdw := fun u w' (h : W64 w' u (X * k + m / X ^ k)) => divideWord_call u _ n w' h (by omega) (by omega) (by unfold B64; omega)
  rw [Nat.mul_comm k X]
  generalize X * k + m / X ^ k = S at *
  generalize m / X ^ k = Q at *
  generalize X ^ k = P at *
  generalize X * k = M at *
  have HPW := Lib.hid hpw
  have HDV := Lib.hid hdv
  have HOK := Lib.hid hok
  have HMU := Lib.hid hmu
  have HSU := Lib.hid hsu
  have HDW := Lib.hid hdw
  clear hpw hdv hok hmu hsu hdw
  have HA := Lib.hid ha
  have HX := Lib.hid hx
  clear hp hp1 hkl hxl hql hsl hXk hm ha hx hk hX
  go_enter Try.func78, Try.ntmps78
  go_wp2_with (fail)
  refine (HPW.out _ HX.out).mono ?_
  rintro e w1 ⟨v1, rfl, hv1, hb1⟩
  have b1 := below_at (Below.refl _ _) (Nat.le_refl _) hb1
  have ka_1 := HA.out.keep hb1
  have kx_1 := HX.out.keep hb1
  have k1_1 := hv1.is
  go_wp2_with (fail)
  refine (HDV.out _ _ ka_1 k1_1).mono ?_
  rintro e w2 ⟨q, r, rfl, hq, _, hb2⟩
  have b2 := below_at b1 (Nat.le_refl _) hb2
  have kx_2 := kx_1.keep hb2
  have kq_2 := hq
  go_wp2_with (fail)
  refine (HMU.out _ _ (kx_2.keep (below_new _ (.cells #[.int .u64 (k : Int)] 55))) (HOK.out _)).mono ?_
  rintro e w3 ⟨v3, rfl, hv3, hb3⟩
  have b3 := below_at (b2.alloc b2.size _) (Nat.le_refl _) hb3
  have kq_3 := (kq_2.keep (below_new _ (.cells #[.int .u64 (k : Int)] 55))).keep hb3
  have k3_3 := hv3.is
  go_wp2_with (fail)
  refine (HSU.out _ _ _ k3_3 kq_3).mono ?_
  rintro e w4 ⟨v4, rfl, hv4, hb4⟩
  have b4 := below_at b3 (Nat.le_refl _) hb4
  have k4_4 := hv4.is
  go_wp2_with (fail)
  refine (HDW.out _ _ k4_4).mono ?_
  rintro e w5 ⟨v5, rfl, hv5, hb5⟩
  have b5 := below_at b4 (Nat.le_refl _) hb5
  have k4_5 := k4_4.keep hb5
  go_wp2
  go_ret
  exact ⟨_, rfl, hv5.is, b5⟩

set_option maxHeartbeats 1200000 in
set_option maxRecDepth 100000 in
theorem root_a0 (N : Nat) (IH : ∀ m, m < N → ∀ (n r : Nat) (a : Value) (w : World), W64 w a m → 0 < m → 0 < n → nbits m ≤ 8000 → IsRoot n m r → Calls Try.prog 53 #[a, .int .i64 (n : Int)] w (NumPost w r)) (m n r D L low : Nat) (a : Value) (w : World) (hmN : m ≤ N) (ha : W64 w a m) (hr : IsRoot n m r) (hn2 : 2 ≤ n) (hns : n < nbits m) (hb : nbits m ≤ 8000) (hD : (nbits m - 1) / n + 1 = D) (hr1 : 2 ^ (D - 1) ≤ r) (hnD : n * (D - 1) ≤ nbits m - 1) (hD2 : 2 ≤ D) (hDs : D ≤ nbits m) (hL : nbits n = L) (hl : 2 * low + L ≤ D) (hl2 : D ≤ 2 * low + L + 1) (hl1 : 1 ≤ low) (hz : ((n - 1) * ((r / 2 ^ low + 1) * 2 ^ low) + m / ((r / 2 ^ low + 1) * 2 ^ low) ^ (n - 1)) / n = r) :
    Calls Try.prog 53 #[a, .int .i64 (n : Int)] w (NumPost w r) := by
  have hm0 : 0 < m := by
    rcases Nat.eq_zero_or_pos m with h | h
    · rw [h] at hns; simp [nbits] at hns
    · exact h
  have hr0 : 0 < r := Nat.lt_of_lt_of_le (Nat.two_pow_pos _) hr1
  have hpl := pow_len hr.1 hr0 (Nat.le_of_lt hns) hb
  have hbm := nbits_ge (Nat.pos_iff_ne_zero.1 hm0)
  have hwl : (dig B64 m).length ≤ 125 := len_of_bits (by omega)
  have hLn : n < 2 ^ L := by rw [← hL]; exact nbits_lt n
  have hL64 : L ≤ 13 := by rw [← hL]; exact nbits_le (by omega)
  have hbits := fun w' (h : W64 w' a m) => bits_call a m w' h (by omega)
  have hlen := fun w' => len_nat n w' (by unfold B64; omega)
  rw [hL] at hlen
  have hwn : IntKind.u64.wrap (n : Int) = (n : Int) := by rw [IntKind.wrap_u64]; omega
  have hdd : ((nbits m : Nat) : Int) - 1 = ((nbits m - 1 : Nat) : Int) := by omega
  have hdq : ((nbits m - 1 : Nat) : Int) / (n : Int) = (((nbits m - 1) / n : Nat) : Int) := (Int.natCast_ediv _ _).symm
  have hn0 : ((n : Int) == 0) = false := by simp; omega
  have hn1 : ((n : Int) == 1) = false := by simp; omega
  have hrl : (dig B64 r).length ≤ 251 := by have := hpl r (by omega) 1 (by omega); rwa [Nat.pow_one] at this
  have hown := fun w' => own_v 1 (by omega) (by unfold B64; omega) w'
  have h1l : (dig B64 1).length ≤ 1 := small64 (by unfold B64; omega)
  obtain ⟨X, hX⟩ : ∃ X, (r / 2 ^ low + 1) * 2 ^ low = X := ⟨_, rfl⟩
  have hlr : 2 ^ low ≤ r := Nat.le_trans (Nat.pow_le_pow_right (by omega) (by omega)) hr1
  have hy := newton_y (n := n - 1) (by omega) hl hr1 (by omega) X hX.symm
  have hl0 : low < D := by omega
  obtain ⟨nl, hnl⟩ : ∃ nl, n * low = nl := ⟨_, rfl⟩
  have hnl1 : nl ≤ nbits m - 1 := by rw [← hnl]; exact Nat.le_trans (Nat.mul_le_mul_left n (by omega)) hnD
  have hnl2 : 1 ≤ nl := by rw [← hnl]; exact Nat.mul_pos (by omega) hl1
  have hnlI : (n : Int) * (low : Int) = (nl : Int) := by rw [← hnl]; exact (Int.natCast_mul n low).symm
  have hhigh := hr.high low
  rw [hnl] at hhigh
  have hm1 : 0 < m / 2 ^ nl := Nat.div_pos (Nat.le_trans (Nat.pow_le_pow_right (by omega) hnl1) hbm) (Nat.two_pow_pos _)
  have hm2 : m / 2 ^ nl < N := Nat.lt_of_lt_of_le (Nat.div_lt_self hm0 (Nat.one_lt_two_pow (by omega))) hmN
  have hb1 : nbits (m / 2 ^ nl) ≤ 8000 := Nat.le_trans (nbits_le (Nat.lt_of_le_of_lt (Nat.div_le_self _ _) (nbits_lt m))) hb
  have hsr := fun w' (h : W64 w' a m) => shiftRight_any a m nl w' h (by omega) (by omega)
  have hrt := fun v w' (h : W64 w' v (m / 2 ^ nl)) => IH _ hm2 n _ v w' h hm1 (by omega) hb1 hhigh
  have hrr : (dig B64 (r / 2 ^ low)).length ≤ 251 := Nat.le_trans (lenm (Nat.div_le_self _ _)) hrl
  have hs1 := fun u v w' (h : W64 w' u (r / 2 ^ low)) (l : W64 w' v 1) => sum_any u v _ 1 w' h l (by omega) (by omega)
  have hXl : (dig B64 X).length ≤ 251 := by have := hpl X (by omega) 1 (by omega); rwa [Nat.pow_one] at this
  have hpp : r / 2 ^ low + 1 ≤ X := by rw [← hX]; exact Nat.le_mul_of_pos_right _ (Nat.two_pow_pos low)
  have hal : (dig B64 (r / 2 ^ low + 1)).length ≤ 251 := Nat.le_trans (lenm hpp) hXl
  have hsl := fun v w' (h : W64 w' v (r / 2 ^ low + 1)) => shiftLeft_any v _ low w' h (by omega) (by omega)
  rw [hX] at hsl hz
  have hnw := fun v w' (h : W64 w' a m) (l : W64 w' v X) => newton_any a v m n (n - 1) X w' h l (by omega) (by omega) (by omega) (by omega) (by omega) (fun j hj => Nat.le_trans (hpl X (by omega) j (by omega)) (by omega)) (by omega)
  rw [hz] at hnw
  have hlq : (D : Int) - (L : Int) = ((D - L : Nat) : Int) := by omega
  have hl5 : ((D - L : Nat) : Int) / 2 = (low : Int) := by omega
  have hl6 : ((D - L : Nat) : Int).tdiv 2 = (low : Int) := by rw [Int.tdiv_eq_ediv_of_nonneg (by omega)]; exact hl5
  have hpw := fun v w' (h : W64 w' v (r)) => power_any (mulSpec_all 251 (by omega)) v (r) n w' h (by omega) (by have := hpl (r) (by omega) 1 (by omega); rwa [Nat.pow_one] at this) (fun j hj => hpl (r) (by omega) j hj)
  have hzl := hpl (r) (by omega) n (Nat.le_refl _)
  have hcm := fun v w' (h : W64 w' v ((r) ^ n)) (k : W64 w' a m) => cmp64_call v a _ m w' h k (by omega) (by omega)
  have hcc : cmpN (r ^ n) m ≤ 0 := by
    rcases Nat.lt_or_ge (r ^ n) m with h | h
    · rw [cmpN_lt h]; omega
    · rw [show r ^ n = m from Nat.le_antisymm hr.1 h, cmpN_eq]; omega
  generalize cmpN (r ^ n) m = cc at *
  have HBITS := Lib.hid hbits
  have HLEN := Lib.hid hlen
  have HOWN := Lib.hid hown
  have HSR := Lib.hid hsr
  have HRT := Lib.hid hrt
  have HS1 := Lib.hid hs1
  have HSL := Lib.hid hsl
  have HNW := Lib.hid hnw
  have HPW := Lib.hid hpw
  have HCM := Lib.hid hcm
  clear hbits hlen hown hsr hrt hs1 hsl hnw hpw hcm
  have HA := Lib.hid ha
  obtain ⟨sz, hsz⟩ : ∃ sz, nbits m = sz := ⟨_, rfl⟩
  obtain ⟨A, c, rfl, _⟩ := ha
  rw [hsz] at HBITS hdd hdq hD hns hDs hb hnD hnl1
  obtain ⟨sm, hsm⟩ : ∃ sm, sz - 1 = sm := ⟨_, rfl⟩
  rw [hsm] at hdd hdq hD hnl1
  obtain ⟨q, hq⟩ : ∃ q, sm / n = q := ⟨_, rfl⟩
  rw [hq] at hdq hD
  have hD' : (q : Int) + 1 = (D : Int) := by omega
  have hqt : (sm : Int).tdiv (n : Int) = (q : Int) := by rw [Int.tdiv_eq_ediv_of_nonneg (by omega)]; exact hdq
  have hns' : ¬ sz ≤ n := by omega
  clear hsz hsm hq hD hr hr1 hnD hL hpl hbm hLn hrl h1l hz hzl hal hrr hb1 hm1 hm2 hhigh IH hwl hmN hr0 hm0 hX hlr hy hl0 hnl hXl hpp
  generalize (dig B64 m).length = LL at *
  obtain ⟨x, hx⟩ : ∃ x, D - L = x := ⟨_, rfl⟩
  rw [hx] at hlq hl5 hl6
  clear hx
  go_enter Try.func53, Try.ntmps53
  go_wp2_with (fail)
  refine (HBITS.out _ HA.out).mono ?_
  rintro e w1 ⟨rfl, rfl⟩
  go_wp2_with (fail)
  refine (HLEN.out _).mono ?_
  rintro e w2 ⟨rfl, rfl⟩
  go_wp2_with (fail)
  refine (HSR.out _ HA.out).mono ?_
  rintro e w3 ⟨v3, rfl, hv3, hb3⟩
  have b3 := below_at (Below.refl _ _) (Nat.le_refl _) hb3
  have ka_3 := HA.out.keep hb3
  have k3_3 := hv3
  go_wp2_with (fail)
  refine (HRT.out _ _ k3_3).mono ?_
  rintro e w4 ⟨v4, rfl, hv4, hb4⟩
  have b4 := below_at b3 (Nat.le_refl _) hb4
  have ka_4 := ka_3.keep hb4
  have k4_4 := hv4
  go_wp2_with (fail)
  refine (HS1.out _ _ _ (k4_4.keep (below_new _ (.cells #[.int .u64 1] 55))) (HOWN.out _)).mono ?_
  rintro e w5 ⟨v5, rfl, hv5, hb5⟩
  have b5 := below_at (Below.alloc b4 b4.size _) (Nat.le_refl _) hb5
  have ka_5 := (ka_4.keep (below_new _ (.cells #[.int .u64 1] 55))).keep hb5
  have k5_5 := hv5.is
  go_wp2_with (fail)
  refine (HSL.out _ _ k5_5).mono ?_
  rintro e w6 ⟨v6, rfl, hv6, hb6⟩
  have b6 := below_at b5 (Nat.le_refl _) hb6
  have ka_6 := ka_5.keep hb6
  have k6_6 := hv6.is
  go_wp2_with (fail)
  refine (HNW.out _ _ ka_6 k6_6).mono ?_
  rintro e w7 ⟨v7, rfl, hv7, hb7⟩
  have b7 := below_at b6 (Nat.le_refl _) hb7
  have ka_7 := ka_6.keep hb7
  have kz_7 := hv7
  go_wp2_with (fail)
  refine (HPW.out _ _ kz_7).mono ?_
  rintro e w8 ⟨v8, rfl, hv8, hb8⟩
  have b8 := below_at b7 (Nat.le_refl _) hb8
  have ka_8 := ka_7.keep hb8
  have kz_8 := kz_7.keep hb8
  have k8_8 := hv8.is
  go_wp2_with (fail)
  refine (HCM.out _ _ k8_8 ka_8).mono ?_
  rintro e w9 ⟨rfl, hb9⟩
  have b9 := below_at b8 (Nat.le_refl _) hb9
  have kz_9 := kz_8.keep hb9
  go_wp2
  go_ret
  exact ⟨_, rfl, kz_9, b9⟩

set_option maxHeartbeats 1200000 in
set_option maxRecDepth 100000 in
theorem root_a1 (N : Nat) (IH : ∀ m, m < N → ∀ (n r : Nat) (a : Value) (w : World), W64 w a m → 0 < m → 0 < n → nbits m ≤ 8000 → IsRoot n m r → Calls Try.prog 53 #[a, .int .i64 (n : Int)] w (NumPost w r)) (m n r D L low : Nat) (a : Value) (w : World) (hmN : m ≤ N) (ha : W64 w a m) (hr : IsRoot n m r) (hn2 : 2 ≤ n) (hns : n < nbits m) (hb : nbits m ≤ 8000) (hD : (nbits m - 1) / n + 1 = D) (hr1 : 2 ^ (D - 1) ≤ r) (hnD : n * (D - 1) ≤ nbits m - 1) (hD2 : 2 ≤ D) (hDs : D ≤ nbits m) (hL : nbits n = L) (hl : 2 * low + L ≤ D) (hl2 : D ≤ 2 * low + L + 1) (hl1 : 1 ≤ low) (hz : ((n - 1) * ((r / 2 ^ low + 1) * 2 ^ low) + m / ((r / 2 ^ low + 1) * 2 ^ low) ^ (n - 1)) / n = r + 1) :
    Calls Try.prog 53 #[a, .int .i64 (n : Int)] w (NumPost w r) := by
  have hm0 : 0 < m := by
    rcases Nat.eq_zero_or_pos m with h | h
    · rw [h] at hns; simp [nbits] at hns
    · exact h
  have hr0 : 0 < r := Nat.lt_of_lt_of_le (Nat.two_pow_pos _) hr1
  have hpl := pow_len hr.1 hr0 (Nat.le_of_lt hns) hb
  have hbm := nbits_ge (Nat.pos_iff_ne_zero.1 hm0)
  have hwl : (dig B64 m).length ≤ 125 := len_of_bits (by omega)
  have hLn : n < 2 ^ L := by rw [← hL]; exact nbits_lt n
  have hL64 : L ≤ 13 := by rw [← hL]; exact nbits_le (by omega)
  have hbits := fun w' (h : W64 w' a m) => bits_call a m w' h (by omega)
  have hlen := fun w' => len_nat n w' (by unfold B64; omega)
  rw [hL] at hlen
  have hwn : IntKind.u64.wrap (n : Int) = (n : Int) := by rw [IntKind.wrap_u64]; omega
  have hdd : ((nbits m : Nat) : Int) - 1 = ((nbits m - 1 : Nat) : Int) := by omega
  have hdq : ((nbits m - 1 : Nat) : Int) / (n : Int) = (((nbits m - 1) / n : Nat) : Int) := (Int.natCast_ediv _ _).symm
  have hn0 : ((n : Int) == 0) = false := by simp; omega
  have hn1 : ((n : Int) == 1) = false := by simp; omega
  have hrl : (dig B64 r).length ≤ 251 := by have := hpl r (by omega) 1 (by omega); rwa [Nat.pow_one] at this
  have hown := fun w' => own_v 1 (by omega) (by unfold B64; omega) w'
  have h1l : (dig B64 1).length ≤ 1 := small64 (by unfold B64; omega)
  obtain ⟨X, hX⟩ : ∃ X, (r / 2 ^ low + 1) * 2 ^ low = X := ⟨_, rfl⟩
  have hlr : 2 ^ low ≤ r := Nat.le_trans (Nat.pow_le_pow_right (by omega) (by omega)) hr1
  have hy := newton_y (n := n - 1) (by omega) hl hr1 (by omega) X hX.symm
  have hl0 : low < D := by omega
  obtain ⟨nl, hnl⟩ : ∃ nl, n * low = nl := ⟨_, rfl⟩
  have hnl1 : nl ≤ nbits m - 1 := by rw [← hnl]; exact Nat.le_trans (Nat.mul_le_mul_left n (by omega)) hnD
  have hnl2 : 1 ≤ nl := by rw [← hnl]; exact Nat.mul_pos (by omega) hl1
  have hnlI : (n : Int) * (low : Int) = (nl : Int) := by rw [← hnl]; exact (Int.natCast_mul n low).symm
  have hhigh := hr.high low
  rw [hnl] at hhigh
  have hm1 : 0 < m / 2 ^ nl := Nat.div_pos (Nat.le_trans (Nat.pow_le_pow_right (by omega) hnl1) hbm) (Nat.two_pow_pos _)
  have hm2 : m / 2 ^ nl < N := Nat.lt_of_lt_of_le (Nat.div_lt_self hm0 (Nat.one_lt_two_pow (by omega))) hmN
  have hb1 : nbits (m / 2 ^ nl) ≤ 8000 := Nat.le_trans (nbits_le (Nat.lt_of_le_of_lt (Nat.div_le_self _ _) (nbits_lt m))) hb
  have hsr := fun w' (h : W64 w' a m) => shiftRight_any a m nl w' h (by omega) (by omega)
  have hrt := fun v w' (h : W64 w' v (m / 2 ^ nl)) => IH _ hm2 n _ v w' h hm1 (by omega) hb1 hhigh
  have hrr : (dig B64 (r / 2 ^ low)).length ≤ 251 := Nat.le_trans (lenm (Nat.div_le_self _ _)) hrl
  have hs1 := fun u v w' (h : W64 w' u (r / 2 ^ low)) (l : W64 w' v 1) => sum_any u v _ 1 w' h l (by omega) (by omega)
  have hXl : (dig B64 X).length ≤ 251 := by have := hpl X (by omega) 1 (by omega); rwa [Nat.pow_one] at this
  have hpp : r / 2 ^ low + 1 ≤ X := by rw [← hX]; exact Nat.le_mul_of_pos_right _ (Nat.two_pow_pos low)
  have hal : (dig B64 (r / 2 ^ low + 1)).length ≤ 251 := Nat.le_trans (lenm hpp) hXl
  have hsl := fun v w' (h : W64 w' v (r / 2 ^ low + 1)) => shiftLeft_any v _ low w' h (by omega) (by omega)
  rw [hX] at hsl hz
  have hnw := fun v w' (h : W64 w' a m) (l : W64 w' v X) => newton_any a v m n (n - 1) X w' h l (by omega) (by omega) (by omega) (by omega) (by omega) (fun j hj => Nat.le_trans (hpl X (by omega) j (by omega)) (by omega)) (by omega)
  rw [hz] at hnw
  have hlq : (D : Int) - (L : Int) = ((D - L : Nat) : Int) := by omega
  have hl5 : ((D - L : Nat) : Int) / 2 = (low : Int) := by omega
  have hl6 : ((D - L : Nat) : Int).tdiv 2 = (low : Int) := by rw [Int.tdiv_eq_ediv_of_nonneg (by omega)]; exact hl5
  have hpw := fun v w' (h : W64 w' v (r + 1)) => power_any (mulSpec_all 251 (by omega)) v (r + 1) n w' h (by omega) (by have := hpl (r + 1) (by omega) 1 (by omega); rwa [Nat.pow_one] at this) (fun j hj => hpl (r + 1) (by omega) j hj)
  have hzl := hpl (r + 1) (by omega) n (Nat.le_refl _)
  have hcm := fun v w' (h : W64 w' v ((r + 1) ^ n)) (k : W64 w' a m) => cmp64_call v a _ m w' h k (by omega) (by omega)
  have hcc : cmpN ((r + 1) ^ n) m = 1 := cmpN_gt hr.2
  rw [hcc] at hcm
  have hdf := fun u v w' (h : W64 w' u (r + 1)) (k : W64 w' v 1) => diff_any u v (r + 1) 1 w' h k (by have := hpl (r + 1) (by omega) 1 (by omega); rw [Nat.pow_one] at this; omega) (by omega)
  rw [Nat.add_sub_cancel] at hdf
  have HBITS := Lib.hid hbits
  have HLEN := Lib.hid hlen
  have HOWN := Lib.hid hown
  have HSR := Lib.hid hsr
  have HRT := Lib.hid hrt
  have HS1 := Lib.hid hs1
  have HSL := Lib.hid hsl
  have HNW := Lib.hid hnw
  have HPW := Lib.hid hpw
  have HCM := Lib.hid hcm
  have HDF := Lib.hid hdf
  clear hbits hlen hown hsr hrt hs1 hsl hnw hpw hcm hdf
  have HA := Lib.hid ha
  obtain ⟨sz, hsz⟩ : ∃ sz, nbits m = sz := ⟨_, rfl⟩
  obtain ⟨A, c, rfl, _⟩ := ha
  rw [hsz] at HBITS hdd hdq hD hns hDs hb hnD hnl1
  obtain ⟨sm, hsm⟩ : ∃ sm, sz - 1 = sm := ⟨_, rfl⟩
  rw [hsm] at hdd hdq hD hnl1
  obtain ⟨q, hq⟩ : ∃ q, sm / n = q := ⟨_, rfl⟩
  rw [hq] at hdq hD
  have hD' : (q : Int) + 1 = (D : Int) := by omega
  have hqt : (sm : Int).tdiv (n : Int) = (q : Int) := by rw [Int.tdiv_eq_ediv_of_nonneg (by omega)]; exact hdq
  have hns' : ¬ sz ≤ n := by omega
  clear hsz hsm hq hD hr hr1 hnD hL hpl hbm hLn hrl h1l hz hzl hal hrr hb1 hm1 hm2 hhigh IH hwl hmN hr0 hm0 hX hlr hy hl0 hnl hXl hpp hcc
  generalize (dig B64 m).length = LL at *
  obtain ⟨x, hx⟩ : ∃ x, D - L = x := ⟨_, rfl⟩
  rw [hx] at hlq hl5 hl6
  clear hx
  go_enter Try.func53, Try.ntmps53
  go_wp2_with (fail)
  refine (HBITS.out _ HA.out).mono ?_
  rintro e w1 ⟨rfl, rfl⟩
  go_wp2_with (fail)
  refine (HLEN.out _).mono ?_
  rintro e w2 ⟨rfl, rfl⟩
  go_wp2_with (fail)
  refine (HSR.out _ HA.out).mono ?_
  rintro e w3 ⟨v3, rfl, hv3, hb3⟩
  have b3 := below_at (Below.refl _ _) (Nat.le_refl _) hb3
  have ka_3 := HA.out.keep hb3
  have k3_3 := hv3
  go_wp2_with (fail)
  refine (HRT.out _ _ k3_3).mono ?_
  rintro e w4 ⟨v4, rfl, hv4, hb4⟩
  have b4 := below_at b3 (Nat.le_refl _) hb4
  have ka_4 := ka_3.keep hb4
  have k4_4 := hv4
  go_wp2_with (fail)
  refine (HS1.out _ _ _ (k4_4.keep (below_new _ (.cells #[.int .u64 1] 55))) (HOWN.out _)).mono ?_
  rintro e w5 ⟨v5, rfl, hv5, hb5⟩
  have b5 := below_at (Below.alloc b4 b4.size _) (Nat.le_refl _) hb5
  have ka_5 := (ka_4.keep (below_new _ (.cells #[.int .u64 1] 55))).keep hb5
  have k5_5 := hv5.is
  go_wp2_with (fail)
  refine (HSL.out _ _ k5_5).mono ?_
  rintro e w6 ⟨v6, rfl, hv6, hb6⟩
  have b6 := below_at b5 (Nat.le_refl _) hb6
  have ka_6 := ka_5.keep hb6
  have k6_6 := hv6.is
  go_wp2_with (fail)
  refine (HNW.out _ _ ka_6 k6_6).mono ?_
  rintro e w7 ⟨v7, rfl, hv7, hb7⟩
  have b7 := below_at b6 (Nat.le_refl _) hb7
  have ka_7 := ka_6.keep hb7
  have kz_7 := hv7
  go_wp2_with (fail)
  refine (HPW.out _ _ kz_7).mono ?_
  rintro e w8 ⟨v8, rfl, hv8, hb8⟩
  have b8 := below_at b7 (Nat.le_refl _) hb8
  have ka_8 := ka_7.keep hb8
  have kz_8 := kz_7.keep hb8
  have k8_8 := hv8.is
  go_wp2_with (fail)
  refine (HCM.out _ _ k8_8 ka_8).mono ?_
  rintro e w9 ⟨rfl, hb9⟩
  have b9 := below_at b8 (Nat.le_refl _) hb9
  have kz_9 := kz_8.keep hb9
  go_wp2_with (fail)
  refine (HDF.out _ _ _ (kz_9.keep (below_new _ (.cells #[.int .u64 1] 55))) (HOWN.out _)).mono ?_
  rintro e w10 ⟨v9, rfl, hv9, hb10⟩
  have b10 := below_at (Below.alloc b9 b9.size _) (Nat.le_refl _) hb10
  have k9_10 := hv9.is
  go_wp2
  go_ret
  exact ⟨_, rfl, k9_10, b10⟩

set_option maxHeartbeats 1200000 in
set_option maxRecDepth 100000 in
theorem root_b0 (N : Nat) (IH : ∀ m, m < N → ∀ (n r : Nat) (a : Value) (w : World), W64 w a m → 0 < m → 0 < n → nbits m ≤ 8000 → IsRoot n m r → Calls Try.prog 53 #[a, .int .i64 (n : Int)] w (NumPost w r)) (m n r D L : Nat) (a : Value) (w : World) (hmN : m ≤ N) (ha : W64 w a m) (hr : IsRoot n m r) (hn2 : 2 ≤ n) (hns : n < nbits m) (hb : nbits m ≤ 8000) (hD : (nbits m - 1) / n + 1 = D) (hr1 : 2 ^ (D - 1) ≤ r) (hnD : n * (D - 1) ≤ nbits m - 1) (hD2 : 2 ≤ D) (hDs : D ≤ nbits m) (hL : nbits n = L) (hl : D < L + 2) (hz : r / 2 * 2 + 1 = r) :
    Calls Try.prog 53 #[a, .int .i64 (n : Int)] w (NumPost w r) := by
  have hm0 : 0 < m := by
    rcases Nat.eq_zero_or_pos m with h | h
    · rw [h] at hns; simp [nbits] at hns
    · exact h
  have hr0 : 0 < r := Nat.lt_of_lt_of_le (Nat.two_pow_pos _) hr1
  have hpl := pow_len hr.1 hr0 (Nat.le_of_lt hns) hb
  have hbm := nbits_ge (Nat.pos_iff_ne_zero.1 hm0)
  have hwl : (dig B64 m).length ≤ 125 := len_of_bits (by omega)
  have hLn : n < 2 ^ L := by rw [← hL]; exact nbits_lt n
  have hL64 : L ≤ 13 := by rw [← hL]; exact nbits_le (by omega)
  have hbits := fun w' (h : W64 w' a m) => bits_call a m w' h (by omega)
  have hlen := fun w' => len_nat n w' (by unfold B64; omega)
  rw [hL] at hlen
  have hwn : IntKind.u64.wrap (n : Int) = (n : Int) := by rw [IntKind.wrap_u64]; omega
  have hdd : ((nbits m : Nat) : Int) - 1 = ((nbits m - 1 : Nat) : Int) := by omega
  have hdq : ((nbits m - 1 : Nat) : Int) / (n : Int) = (((nbits m - 1) / n : Nat) : Int) := (Int.natCast_ediv _ _).symm
  have hn0 : ((n : Int) == 0) = false := by simp; omega
  have hn1 : ((n : Int) == 1) = false := by simp; omega
  have hrl : (dig B64 r).length ≤ 251 := by have := hpl r (by omega) 1 (by omega); rwa [Nat.pow_one] at this
  have hown := fun w' => own_v 1 (by omega) (by unfold B64; omega) w'
  have h1l : (dig B64 1).length ≤ 1 := small64 (by unfold B64; omega)
  have hhigh := hr.high 1
  rw [Nat.mul_one, Nat.pow_one] at hhigh
  have hm1 : 0 < m / 2 ^ n := Nat.div_pos (Nat.le_trans (Nat.pow_le_pow_right (by omega) (by omega)) hbm) (Nat.two_pow_pos _)
  have hm2 : m / 2 ^ n < N := Nat.lt_of_lt_of_le (Nat.div_lt_self hm0 (Nat.one_lt_two_pow (by omega))) hmN
  have hb1 : nbits (m / 2 ^ n) ≤ 8000 := Nat.le_trans (nbits_le (Nat.lt_of_le_of_lt (Nat.div_le_self _ _) (nbits_lt m))) hb
  have hsr := fun w' (h : W64 w' a m) => shiftRight_any a m n w' h (by omega) (by omega)
  have hrt := fun v w' (h : W64 w' v (m / 2 ^ n)) => IH _ hm2 n _ v w' h hm1 (by omega) hb1 hhigh
  have hrr : (dig B64 (r / 2)).length ≤ 251 := Nat.le_trans (lenm (Nat.div_le_self _ _)) hrl
  have hsl := fun v w' (h : W64 w' v (r / 2)) => shiftLeft_any v _ 1 w' h (by omega) (by omega)
  rw [Nat.pow_one] at hsl
  have hal : (dig B64 (r / 2 * 2)).length ≤ 251 := Nat.le_trans (lenm (Nat.div_mul_le_self _ _)) hrl
  have hs1 := fun u v w' (h : W64 w' u (r / 2 * 2)) (l : W64 w' v 1) => sum_any u v _ 1 w' h l (by omega) (by omega)
  rw [hz] at hs1
  obtain ⟨sd, hsd⟩ : ∃ sd : Int, (D : Int) - (L : Int) = sd := ⟨_, rfl⟩
  have hsd1 : -13 ≤ sd := by omega
  have hsd2 : sd ≤ 1 := by omega
  obtain ⟨t, ht⟩ : ∃ t : Int, sd.tdiv 2 = t := ⟨_, rfl⟩
  have ht0 : t ≤ 0 := by
    rw [← ht]
    rcases Int.lt_or_le sd 0 with h | h
    · obtain ⟨u, rfl⟩ : ∃ u, sd = -u := ⟨-sd, by omega⟩
      rw [Int.neg_tdiv, Int.tdiv_eq_ediv_of_nonneg (by omega)]; omega
    · rw [Int.tdiv_eq_ediv_of_nonneg h]; omega
  have ht1 : -10 ≤ t := by
    rw [← ht]
    rcases Int.lt_or_le sd 0 with h | h
    · obtain ⟨u, rfl⟩ : ∃ u, sd = -u := ⟨-sd, by omega⟩
      rw [Int.neg_tdiv, Int.tdiv_eq_ediv_of_nonneg (by omega)]; omega
    · rw [Int.tdiv_eq_ediv_of_nonneg h]; omega
  have hpw := fun v w' (h : W64 w' v (r)) => power_any (mulSpec_all 251 (by omega)) v (r) n w' h (by omega) (by have := hpl (r) (by omega) 1 (by omega); rwa [Nat.pow_one] at this) (fun j hj => hpl (r) (by omega) j hj)
  have hzl := hpl (r) (by omega) n (Nat.le_refl _)
  have hcm := fun v w' (h : W64 w' v ((r) ^ n)) (k : W64 w' a m) => cmp64_call v a _ m w' h k (by omega) (by omega)
  have hcc : cmpN (r ^ n) m ≤ 0 := by
    rcases Nat.lt_or_ge (r ^ n) m with h | h
    · rw [cmpN_lt h]; omega
    · rw [show r ^ n = m from Nat.le_antisymm hr.1 h, cmpN_eq]; omega
  generalize cmpN (r ^ n) m = cc at *
  have HBITS := Lib.hid hbits
  have HLEN := Lib.hid hlen
  have HOWN := Lib.hid hown
  have HSR := Lib.hid hsr
  have HRT := Lib.hid hrt
  have HS1 := Lib.hid hs1
  have HSL := Lib.hid hsl
  have HPW := Lib.hid hpw
  have HCM := Lib.hid hcm
  clear hbits hlen hown hsr hrt hs1 hsl hpw hcm
  have HA := Lib.hid ha
  obtain ⟨sz, hsz⟩ : ∃ sz, nbits m = sz := ⟨_, rfl⟩
  obtain ⟨A, c, rfl, _⟩ := ha
  rw [hsz] at HBITS hdd hdq hD hns hDs hb hnD 
  obtain ⟨sm, hsm⟩ : ∃ sm, sz - 1 = sm := ⟨_, rfl⟩
  rw [hsm] at hdd hdq hD 
  obtain ⟨q, hq⟩ : ∃ q, sm / n = q := ⟨_, rfl⟩
  rw [hq] at hdq hD
  have hD' : (q : Int) + 1 = (D : Int) := by omega
  have hqt : (sm : Int).tdiv (n : Int) = (q : Int) := by rw [Int.tdiv_eq_ediv_of_nonneg (by omega)]; exact hdq
  have hns' : ¬ sz ≤ n := by omega
  clear hsz hsm hq hD hr hr1 hnD hL hpl hbm hLn hrl h1l hz hzl hal hrr hb1 hm1 hm2 hhigh IH hwl hmN hr0 hm0
  generalize (dig B64 m).length = LL at *
  go_enter Try.func53, Try.ntmps53
  go_wp2_with (fail)
  refine (HBITS.out _ HA.out).mono ?_
  rintro e w1 ⟨rfl, rfl⟩
  go_wp2_with (fail)
  refine (HLEN.out _).mono ?_
  rintro e w2 ⟨rfl, rfl⟩
  go_wp2_with (fail)
  refine (HSR.out _ HA.out).mono ?_
  rintro e w3 ⟨v3, rfl, hv3, hb3⟩
  have b3 := below_at (Below.refl _ _) (Nat.le_refl _) hb3
  have ka_3 := HA.out.keep hb3
  have k3_3 := hv3
  go_wp2_with (fail)
  refine (HRT.out _ _ k3_3).mono ?_
  rintro e w4 ⟨v4, rfl, hv4, hb4⟩
  have b4 := below_at b3 (Nat.le_refl _) hb4
  have ka_4 := ka_3.keep hb4
  have k4_4 := hv4
  go_wp2_with (fail)
  refine (HSL.out _ _ k4_4).mono ?_
  rintro e w5 ⟨v5, rfl, hv5, hb5⟩
  have b5 := below_at b4 (Nat.le_refl _) hb5
  have ka_5 := ka_4.keep hb5
  have k5_5 := hv5.is
  go_wp2_with (fail)
  refine (HS1.out _ _ _ (k5_5.keep (below_new _ (.cells #[.int .u64 1] 55))) (HOWN.out _)).mono ?_
  rintro e w6 ⟨v7, rfl, hv7, hb6⟩
  have b6 := below_at (Below.alloc b5 b5.size _) (Nat.le_refl _) hb6
  have ka_6 := (ka_5.keep (below_new _ (.cells #[.int .u64 1] 55))).keep hb6
  have kz_6 := hv7.is
  go_wp2_with (fail)
  refine (HPW.out _ _ kz_6).mono ?_
  rintro e w7 ⟨v8, rfl, hv8, hb7⟩
  have b7 := below_at b6 (Nat.le_refl _) hb7
  have ka_7 := ka_6.keep hb7
  have kz_7 := kz_6.keep hb7
  have k8_7 := hv8.is
  go_wp2_with (fail)
  refine (HCM.out _ _ k8_7 ka_7).mono ?_
  rintro e w8 ⟨rfl, hb8⟩
  have b8 := below_at b7 (Nat.le_refl _) hb8
  have kz_8 := kz_7.keep hb8
  go_wp2
  go_ret
  exact ⟨_, rfl, kz_8, b8⟩

set_option maxHeartbeats 1200000 in
set_option maxRecDepth 100000 in
theorem root_b1 (N : Nat) (IH : ∀ m, m < N → ∀ (n r : Nat) (a : Value) (w : World), W64 w a m → 0 < m → 0 < n → nbits m ≤ 8000 → IsRoot n m r → Calls Try.prog 53 #[a, .int .i64 (n : Int)] w (NumPost w r)) (m n r D L : Nat) (a : Value) (w : World) (hmN : m ≤ N) (ha : W64 w a m) (hr : IsRoot n m r) (hn2 : 2 ≤ n) (hns : n < nbits m) (hb : nbits m ≤ 8000) (hD : (nbits m - 1) / n + 1 = D) (hr1 : 2 ^ (D - 1) ≤ r) (hnD : n * (D - 1) ≤ nbits m - 1) (hD2 : 2 ≤ D) (hDs : D ≤ nbits m) (hL : nbits n = L) (hl : D < L + 2) (hz : r / 2 * 2 + 1 = r + 1) :
    Calls Try.prog 53 #[a, .int .i64 (n : Int)] w (NumPost w r) := by
  have hm0 : 0 < m := by
    rcases Nat.eq_zero_or_pos m with h | h
    · rw [h] at hns; simp [nbits] at hns
    · exact h
  have hr0 : 0 < r := Nat.lt_of_lt_of_le (Nat.two_pow_pos _) hr1
  have hpl := pow_len hr.1 hr0 (Nat.le_of_lt hns) hb
  have hbm := nbits_ge (Nat.pos_iff_ne_zero.1 hm0)
  have hwl : (dig B64 m).length ≤ 125 := len_of_bits (by omega)
  have hLn : n < 2 ^ L := by rw [← hL]; exact nbits_lt n
  have hL64 : L ≤ 13 := by rw [← hL]; exact nbits_le (by omega)
  have hbits := fun w' (h : W64 w' a m) => bits_call a m w' h (by omega)
  have hlen := fun w' => len_nat n w' (by unfold B64; omega)
  rw [hL] at hlen
  have hwn : IntKind.u64.wrap (n : Int) = (n : Int) := by rw [IntKind.wrap_u64]; omega
  have hdd : ((nbits m : Nat) : Int) - 1 = ((nbits m - 1 : Nat) : Int) := by omega
  have hdq : ((nbits m - 1 : Nat) : Int) / (n : Int) = (((nbits m - 1) / n : Nat) : Int) := (Int.natCast_ediv _ _).symm
  have hn0 : ((n : Int) == 0) = false := by simp; omega
  have hn1 : ((n : Int) == 1) = false := by simp; omega
  have hrl : (dig B64 r).length ≤ 251 := by have := hpl r (by omega) 1 (by omega); rwa [Nat.pow_one] at this
  have hown := fun w' => own_v 1 (by omega) (by unfold B64; omega) w'
  have h1l : (dig B64 1).length ≤ 1 := small64 (by unfold B64; omega)
  have hhigh := hr.high 1
  rw [Nat.mul_one, Nat.pow_one] at hhigh
  have hm1 : 0 < m / 2 ^ n := Nat.div_pos (Nat.le_trans (Nat.pow_le_pow_right (by omega) (by omega)) hbm) (Nat.two_pow_pos _)
  have hm2 : m / 2 ^ n < N := Nat.lt_of_lt_of_le (Nat.div_lt_self hm0 (Nat.one_lt_two_pow (by omega))) hmN
  have hb1 : nbits (m / 2 ^ n) ≤ 8000 := Nat.le_trans (nbits_le (Nat.lt_of_le_of_lt (Nat.div_le_self _ _) (nbits_lt m))) hb
  have hsr := fun w' (h : W64 w' a m) => shiftRight_any a m n w' h (by omega) (by omega)
  have hrt := fun v w' (h : W64 w' v (m / 2 ^ n)) => IH _ hm2 n _ v w' h hm1 (by omega) hb1 hhigh
  have hrr : (dig B64 (r / 2)).length ≤ 251 := Nat.le_trans (lenm (Nat.div_le_self _ _)) hrl
  have hsl := fun v w' (h : W64 w' v (r / 2)) => shiftLeft_any v _ 1 w' h (by omega) (by omega)
  rw [Nat.pow_one] at hsl
  have hal : (dig B64 (r / 2 * 2)).length ≤ 251 := Nat.le_trans (lenm (Nat.div_mul_le_self _ _)) hrl
  have hs1 := fun u v w' (h : W64 w' u (r / 2 * 2)) (l : W64 w' v 1) => sum_any u v _ 1 w' h l (by omega) (by omega)
  rw [hz] at hs1
  obtain ⟨sd, hsd⟩ : ∃ sd : Int, (D : Int) - (L : Int) = sd := ⟨_, rfl⟩
  have hsd1 : -13 ≤ sd := by omega
  have hsd2 : sd ≤ 1 := by omega
  obtain ⟨t, ht⟩ : ∃ t : Int, sd.tdiv 2 = t := ⟨_, rfl⟩
  have ht0 : t ≤ 0 := by
    rw [← ht]
    rcases Int.lt_or_le sd 0 with h | h
    · obtain ⟨u, rfl⟩ : ∃ u, sd = -u := ⟨-sd, by omega⟩
      rw [Int.neg_tdiv, Int.tdiv_eq_ediv_of_nonneg (by omega)]; omega
    · rw [Int.tdiv_eq_ediv_of_nonneg h]; omega
  have ht1 : -10 ≤ t := by
    rw [← ht]
    rcases Int.lt_or_le sd 0 with h | h
    · obtain ⟨u, rfl⟩ : ∃ u, sd = -u := ⟨-sd, by omega⟩
      rw [Int.neg_tdiv, Int.tdiv_eq_ediv_of_nonneg (by omega)]; omega
    · rw [Int.tdiv_eq_ediv_of_nonneg h]; omega
  have hpw := fun v w' (h : W64 w' v (r + 1)) => power_any (mulSpec_all 251 (by omega)) v (r + 1) n w' h (by omega) (by have := hpl (r + 1) (by omega) 1 (by omega); rwa [Nat.pow_one] at this) (fun j hj => hpl (r + 1) (by omega) j hj)
  have hzl := hpl (r + 1) (by omega) n (Nat.le_refl _)
  have hcm := fun v w' (h : W64 w' v ((r + 1) ^ n)) (k : W64 w' a m) => cmp64_call v a _ m w' h k (by omega) (by omega)
  have hcc : cmpN ((r + 1) ^ n) m = 1 := cmpN_gt hr.2
  rw [hcc] at hcm
  have hdf := fun u v w' (h : W64 w' u (r + 1)) (k : W64 w' v 1) => diff_any u v (r + 1) 1 w' h k (by have := hpl (r + 1) (by omega) 1 (by omega); rw [Nat.pow_one] at this; omega) (by omega)
  rw [Nat.add_sub_cancel] at hdf
  have HBITS := Lib.hid hbits
  have HLEN := Lib.hid hlen
  have HOWN := Lib.hid hown
  have HSR := Lib.hid hsr
  have HRT := Lib.hid hrt
  have HS1 := Lib.hid hs1
  have HSL := Lib.hid hsl
  have HPW := Lib.hid hpw
  have HCM := Lib.hid hcm
  have HDF := Lib.hid hdf
  clear hbits hlen hown hsr hrt hs1 hsl hpw hcm hdf
  have HA := Lib.hid ha
  obtain ⟨sz, hsz⟩ : ∃ sz, nbits m = sz := ⟨_, rfl⟩
  obtain ⟨A, c, rfl, _⟩ := ha
  rw [hsz] at HBITS hdd hdq hD hns hDs hb hnD 
  obtain ⟨sm, hsm⟩ : ∃ sm, sz - 1 = sm := ⟨_, rfl⟩
  rw [hsm] at hdd hdq hD 
  obtain ⟨q, hq⟩ : ∃ q, sm / n = q := ⟨_, rfl⟩
  rw [hq] at hdq hD
  have hD' : (q : Int) + 1 = (D : Int) := by omega
  have hqt : (sm : Int).tdiv (n : Int) = (q : Int) := by rw [Int.tdiv_eq_ediv_of_nonneg (by omega)]; exact hdq
  have hns' : ¬ sz ≤ n := by omega
  clear hsz hsm hq hD hr hr1 hnD hL hpl hbm hLn hrl h1l hz hzl hal hrr hb1 hm1 hm2 hhigh IH hwl hmN hr0 hm0 hcc
  generalize (dig B64 m).length = LL at *
  go_enter Try.func53, Try.ntmps53
  go_wp2_with (fail)
  refine (HBITS.out _ HA.out).mono ?_
  rintro e w1 ⟨rfl, rfl⟩
  go_wp2_with (fail)
  refine (HLEN.out _).mono ?_
  rintro e w2 ⟨rfl, rfl⟩
  go_wp2_with (fail)
  refine (HSR.out _ HA.out).mono ?_
  rintro e w3 ⟨v3, rfl, hv3, hb3⟩
  have b3 := below_at (Below.refl _ _) (Nat.le_refl _) hb3
  have ka_3 := HA.out.keep hb3
  have k3_3 := hv3
  go_wp2_with (fail)
  refine (HRT.out _ _ k3_3).mono ?_
  rintro e w4 ⟨v4, rfl, hv4, hb4⟩
  have b4 := below_at b3 (Nat.le_refl _) hb4
  have ka_4 := ka_3.keep hb4
  have k4_4 := hv4
  go_wp2_with (fail)
  refine (HSL.out _ _ k4_4).mono ?_
  rintro e w5 ⟨v5, rfl, hv5, hb5⟩
  have b5 := below_at b4 (Nat.le_refl _) hb5
  have ka_5 := ka_4.keep hb5
  have k5_5 := hv5.is
  go_wp2_with (fail)
  refine (HS1.out _ _ _ (k5_5.keep (below_new _ (.cells #[.int .u64 1] 55))) (HOWN.out _)).mono ?_
  rintro e w6 ⟨v7, rfl, hv7, hb6⟩
  have b6 := below_at (Below.alloc b5 b5.size _) (Nat.le_refl _) hb6
  have ka_6 := (ka_5.keep (below_new _ (.cells #[.int .u64 1] 55))).keep hb6
  have kz_6 := hv7.is
  go_wp2_with (fail)
  refine (HPW.out _ _ kz_6).mono ?_
  rintro e w7 ⟨v8, rfl, hv8, hb7⟩
  have b7 := below_at b6 (Nat.le_refl _) hb7
  have ka_7 := ka_6.keep hb7
  have kz_7 := kz_6.keep hb7
  have k8_7 := hv8.is
  go_wp2_with (fail)
  refine (HCM.out _ _ k8_7 ka_7).mono ?_
  rintro e w8 ⟨rfl, hb8⟩
  have b8 := below_at b7 (Nat.le_refl _) hb8
  have kz_8 := kz_7.keep hb8
  go_wp2_with (fail)
  refine (HDF.out _ _ _ (kz_8.keep (below_new _ (.cells #[.int .u64 1] 55))) (HOWN.out _)).mono ?_
  rintro e w9 ⟨v9, rfl, hv9, hb9⟩
  have b9 := below_at (Below.alloc b8 b8.size _) (Nat.le_refl _) hb9
  have k9_9 := hv9.is
  go_wp2
  go_ret
  exact ⟨_, rfl, k9_9, b9⟩

set_option maxHeartbeats 1000000 in
set_option maxRecDepth 100000 in
theorem root_id (a : Value) (m : Nat) (w : World) (ha : W64 w a m) (hb : nbits m ≤ 8000) (h1 : 1 < nbits m) : Calls Try.prog 53 #[a, .int .i64 1] w (NumPost w m) := by
  have hwl : (dig B64 m).length ≤ 125 := len_of_bits (by omega)
  have hbits := bits_call a m w ha (by omega)
  have HB := Lib.hid hbits
  have HA := Lib.hid ha
  obtain ⟨A, c, rfl, _⟩ := ha
  clear hbits
  generalize (dig B64 m).length = LL at *
  generalize nbits m = sz at *
  have h2 : ¬ sz ≤ 1 := by omega
  go_enter Try.func53, Try.ntmps53
  go_wp2_with (go_at_call 75; refine HB.out.mono ?_; rintro e w1 ⟨rfl, rfl⟩)
  go_ret
  exact ⟨_, rfl, HA.out, Below.refl _ _⟩

/-- root: the integer part of the nth root. -/
theorem root_all (N : Nat) : ∀ m, m ≤ N → ∀ (n r : Nat) (a : Value) (w : World), W64 w a m → 0 < m → 0 < n → nbits m ≤ 8000 → IsRoot n m r → Calls Try.prog 53 #[a, .int .i64 (n : Int)] w (NumPost w r) := by
  induction N with
  | zero => intro m h n r a w _ h0; omega
  | succ N ih =>
    intro m hm n r a w ha h0 hn hb hr
    have IH : ∀ m', m' < N + 1 → ∀ (n r : Nat) (a : Value) (w : World), W64 w a m' → 0 < m' → 0 < n → nbits m' ≤ 8000 → IsRoot n m' r → Calls Try.prog 53 #[a, .int .i64 (n : Int)] w (NumPost w r) := fun m' h => ih m' (by omega)
    rcases Nat.lt_or_ge n (nbits m) with hs | hs
    · rcases Nat.lt_or_ge n 2 with h2 | h2
      · obtain rfl : n = 1 := by omega
        have e : r = m := hr.unique ⟨by rw [Nat.pow_one]; exact Nat.le_refl _, by rw [Nat.pow_one]; omega⟩
        rw [e]
        exact root_id a m w ha hb hs
      · obtain ⟨D, hD, k1, _, k3, k4, k5⟩ := root_numbers hr hn hs
        have hr0 : 0 < r := Nat.lt_of_lt_of_le (Nat.two_pow_pos _) k1
        rcases Nat.lt_or_ge D (nbits n + 2) with hl | hl
        · have hz : r / 2 * 2 + 1 = r ∨ r / 2 * 2 + 1 = r + 1 := by omega
          rcases hz with hz | hz
          · exact root_b0 (N + 1) IH m n r D _ a w hm ha hr h2 hs hb hD k1 k3 k4 k5 rfl hl hz
          · exact root_b1 (N + 1) IH m n r D _ a w hm ha hr h2 hs hb hD k1 k3 k4 k5 rfl hl hz
        · obtain ⟨low, hlow⟩ : ∃ low, (D - nbits n) / 2 = low := ⟨_, rfl⟩
          have hLn := nbits_lt n
          obtain ⟨X, hX⟩ : ∃ X, (r / 2 ^ low + 1) * 2 ^ low = X := ⟨_, rfl⟩
          have hy := newton_y (D := D) (L := nbits n) (low := low) (n := n - 1) (r := r) (by omega) (by omega) k1 (by omega) X hX.symm
          have g1 : r ≤ ((n - 1) * X + m / X ^ (n - 1)) / (n - 1 + 1) := newton_ge (by rw [show n - 1 + 1 = n by omega]; exact hr.1) (by omega) (by omega)
          have g2 : ((n - 1) * X + m / X ^ (n - 1)) / (n - 1 + 1) ≤ r + 1 := newton_le (by rw [show n - 1 + 1 = n by omega]; exact hr.2) hy.1 hy.2.2
          rw [show n - 1 + 1 = n by omega] at g1 g2
          have hz : ((n - 1) * X + m / X ^ (n - 1)) / n = r ∨ ((n - 1) * X + m / X ^ (n - 1)) / n = r + 1 := by
            generalize ((n - 1) * X + m / X ^ (n - 1)) / n = z at *
            omega
          rw [← hX] at hz
          rcases hz with hz | hz
          · exact root_a0 (N + 1) IH m n r D _ low a w hm ha hr h2 hs hb hD k1 k3 k4 k5 rfl (by omega) (by omega) (by omega) hz
          · exact root_a1 (N + 1) IH m n r D _ low a w hm ha hr h2 hs hb hD k1 k3 k4 k5 rfl (by omega) (by omega) (by omega) hz
    · have e : r = 1 := hr.unique ⟨by rw [Nat.one_pow]; exact h0, Nat.lt_of_lt_of_le (nbits_lt m) (Nat.pow_le_pow_right (by omega) hs)⟩
      rw [e]
      exact root_one a m n w ha (Nat.le_trans (len_of_bits (k := 125) (by omega)) (by omega)) hs
theorem root_any (a : Value) (m n r : Nat) (w : World) (ha : W64 w a m) (h0 : 0 < m) (hn : 0 < n) (hb : nbits m ≤ 8000) (hr : IsRoot n m r) : Calls Try.prog 53 #[a, .int .i64 (n : Int)] w (NumPost w r) :=
  root_all m m (Nat.le_refl _) n r a w ha h0 hn hb hr
end Go.Proofs.Ythgekjkgfccnaaa

namespace Go.Proofs.Ythgekjkgfccnaaa
open Go.RowKit Num

set_option maxHeartbeats 1000000 in
set_option maxRecDepth 100000 in
theorem root_bad (a : Value) (n : Int) (xs : List Nat) (w : World) (ha : Limbs w a xs) (h0 : chk xs ≠ 0) : Calls Try.prog 32 #[a, .int .i64 n] w (NatErr w (chk xs)) := by
  have hc := checkAll_any w.heap.size 1 1 _ _ (nats1 ha) rfl (by omega)
  rw [chkAll1] at hc
  generalize chk xs = r at *
  have hbA := below_new w (.cells #[a] 48)
  have hq : (r != 0) = true := by simp [h0]
  have HC := Lib.hid hc
  have H0 := Lib.hid h0
  obtain ⟨A, c, rfl, _⟩ := ha
  clear hc h0
  generalize xs.length = L at *
  go_enter Try.func32, Try.ntmps32
  go_wp2_with (go_at_call 47; refine HC.out.mono ?_; rintro e w1 ⟨rfl, rfl⟩)
  go_ret2
  exact ⟨rfl, hbA⟩

set_option maxHeartbeats 1000000 in
set_option maxRecDepth 100000 in
theorem root_arg (a : Value) (m : Nat) (n : Int) (w : World) (ha : N32 w a m) (hl : (dig B32 m).length ≤ 262144) (hn : n < 1) : Calls Try.prog 32 #[a, .int .i64 n] w (NatErr w 1) := by
  have hc := checkAll_any w.heap.size 1 1 _ _ (nats1 (Limbs.num ha (by omega))) rfl (by omega)
  rw [chkAll1, chk_dig hl] at hc
  have hbA := below_new w (.cells #[a] 48)
  have HC := Lib.hid hc
  obtain ⟨A, c, rfl, _⟩ := ha
  clear hc
  generalize (dig B32 m).length = L at *
  go_enter Try.func32, Try.ntmps32
  go_wp2_with (go_at_call 47; refine HC.out.mono ?_; rintro e w1 ⟨rfl, rfl⟩)
  go_ret2
  exact ⟨rfl, hbA⟩

theorem ownL_nil' (B : Nat) (w : World) : OwnL B w (.slice none 0 0) 0 := by
  unfold OwnL
  rw [dig_zero]
  exact ⟨rfl, .inl ⟨rfl, rfl⟩⟩

set_option maxHeartbeats 1000000 in
set_option maxRecDepth 100000 in
theorem root_zero (a : Value) (m : Nat) (n : Int) (w : World) (ha : N32 w a m) (h0 : m = 0) (hn : 1 ≤ n) : Calls Try.prog 32 #[a, .int .i64 n] w (NatOk w 0) := by
  have hl : (dig B32 m).length ≤ 262144 := by rw [h0, dig_zero]; simp
  have hc := checkAll_any w.heap.size 1 1 _ _ (nats1 (Limbs.num ha (by omega))) rfl (by omega)
  rw [chkAll1, chk_dig hl] at hc
  have hbA := below_new w (.cells #[a] 48)
  have HC := Lib.hid hc
  have hz : (dig B32 m).length = 0 := by rw [h0, dig_zero]; rfl
  obtain ⟨A, c, rfl, _⟩ := ha
  rw [hz] at HC hbA ⊢
  clear hc hz h0 hl
  go_enter Try.func32, Try.ntmps32
  go_wp2_with (go_at_call 47; refine HC.out.mono ?_; rintro e w1 ⟨rfl, rfl⟩)
  go_ret2
  exact ⟨_, rfl, ownL_nil' _ _, hbA⟩

set_option maxHeartbeats 1000000 in
set_option maxRecDepth 100000 in
theorem root_ok (a : Value) (m n r : Nat) (w : World) (ha : N32 w a m) (h0 : 0 < m) (hn : 1 ≤ n) (hb : nbits m ≤ 8000) (hr : IsRoot n m r) : Calls Try.prog 32 #[a, .int .i64 (n : Int)] w (NatOk w r) := by
  have hwl : (dig B64 m).length ≤ 125 := len_of_bits (by omega)
  have hl : (dig B32 m).length ≤ 262144 := by
    have : (dig B32 m).length ≤ 250 := dig_len_le b32_two (by
      have g : ∀ K, nbits m ≤ 32 * K → m < B32 ^ K := fun K hK => by
        have e : B32 ^ K = 2 ^ (32 * K) := by rw [Nat.pow_mul]; rfl
        rw [e]; exact lt_of_nbits hK
      exact g 250 (by omega))
    omega
  have hc := checkAll_any w.heap.size 1 1 _ _ (nats1 (Limbs.num ha (by omega))) rfl (by omega)
  rw [chkAll1, chk_dig hl] at hc
  have hbA := below_new w (.cells #[a] 48)
  have HC := Lib.hid hc
  have hf := fromNat_any a m _ (ha.keep hbA) (by omega)
  have hrt := fun v w' (h : W64 w' v m) => root_any v m n r w' h h0 hn hb hr
  have hrm : r ≤ m := Nat.le_trans (Nat.le_self_pow (by omega) r) hr.1
  have hrl : (dig B64 r).length ≤ 125 := Nat.le_trans (lenm hrm) hwl
  have hnt := fun v w' (h : W64 w' v r) => nat_any v r w' h (by omega)
  have hpos : 0 < (dig B32 m).length := by
    rcases Nat.eq_zero_or_pos (dig B32 m).length with h | h
    · have := (dig_nil_iff b32_two).1 (List.eq_nil_of_length_eq_zero h); omega
    · exact h
  have HF := Lib.hid hf
  have HRT := Lib.hid hrt
  have HNT := Lib.hid hnt
  clear hf hrt hnt
  obtain ⟨A, c, rfl, _⟩ := ha
  clear hc hwl hrm hrl hr
  generalize (dig B32 m).length = L at *
  go_enter Try.func32, Try.ntmps32
  go_wp2_with (fail)
  refine (HC.out).mono ?_
  rintro e w1 ⟨rfl, rfl⟩
  go_wp2_with (fail)
  refine (HF.out).mono ?_
  rintro e w2 ⟨v1, rfl, hv1, hb2⟩
  have b2 := below_at hbA (Nat.le_refl _) hb2
  have k1_2 := hv1.is
  go_wp2_with (fail)
  refine (HRT.out _ _ k1_2).mono ?_
  rintro e w3 ⟨v2, rfl, hv2, hb3⟩
  have b3 := below_at b2 (Nat.le_refl _) hb3
  have k2_3 := hv2
  go_wp2_with (fail)
  refine (HNT.out _ _ k2_3).mono ?_
  rintro e w4 ⟨v3, rfl, hv3, hb4⟩
  have b4 := below_at b3 (Nat.le_refl _) hb4
  go_wp2
  go_ret2
  exact ⟨_, rfl, hv3.mono b3.size, b4⟩

/-- The bits of the root from k on are found. -/
def RtSt (m n k r : Nat) : Prop := ∃ q, r = q * 2 ^ k ∧ r ^ n ≤ m ∧ m < (r + 2 ^ k) ^ n
theorem RtSt.step {m n i r : Nat} (h : RtSt m n (i + 1) r) : ((r + 2 ^ i) ^ n ≤ m → RtSt m n i (r + 2 ^ i)) ∧ (m < (r + 2 ^ i) ^ n → RtSt m n i r) := by
  obtain ⟨q, h1, h2, h3⟩ := h
  have e : r + 2 ^ i + 2 ^ i = r + 2 ^ (i + 1) := by rw [Nat.pow_succ]; omega
  refine ⟨fun h4 => ⟨q * 2 + 1, ?_, h4, by rw [e]; exact h3⟩, fun h4 => ⟨q * 2, ?_, h2, h4⟩⟩
  · rw [h1, Nat.pow_succ]; grind
  · rw [h1, Nat.pow_succ]; grind
theorem RtSt.fin {m n r : Nat} (h : RtSt m n 0 r) : IsRoot n m r := by
  obtain ⟨q, _, h2, h3⟩ := h
  exact ⟨h2, by simpa using h3⟩
theorem len32_bits {n k : Nat} (h : nbits n ≤ 32 * k) : (dig B32 n).length ≤ k := dig_len_le b32_two (by
  have e : B32 ^ k = 2 ^ (32 * k) := by rw [Nat.pow_mul]; rfl
  rw [e]; exact lt_of_nbits h)
theorem n32_empty (w : World) : N32 (w.alloc (.cells #[] 101)) (.slice (some ⟨w.heap.size, 0, none⟩) 0 0) 0 := by
  refine ⟨some ⟨w.heap.size, 0, none⟩, 0, ?_, ?_, ?_⟩ <;> rw [dig_zero]
  · rfl
  · exact Nat.le_refl _
  · exact Nums.nil

end Go.Proofs.Ythgekjkgfccnaaa

namespace Go.Proofs.Ythgekjkgfccnaaa
open Go.RowKit Num

set_option maxHeartbeats 1000000 in
set_option maxRecDepth 100000 in
theorem divMod_bad (a b : Value) (xs ys : List Nat) (w : World) (ha : Limbs w a xs) (hb : Limbs w b ys) (h0 : chk2 xs ys ≠ 0) : Calls Try.prog 29 #[a, b] w fun e w' => e = .returned (.tuple #[.slice none 0 0, .slice none 0 0, .int .i64 (chk2 xs ys)]) ∧ Below w.heap.size w w' := by
  have hc := checkAll_any w.heap.size 2 2 _ _ (nats2 ha hb) rfl (by omega)
  rw [chkAll2] at hc
  generalize chk2 xs ys = r at *
  have hbA := below_new w (.cells #[a, b] 48)
  have hq : (r != 0) = true := by simp [h0]
  have HC := Lib.hid hc
  have H0 := Lib.hid h0
  obtain ⟨A, c, rfl, _⟩ := ha
  obtain ⟨A', c', rfl, _⟩ := hb
  clear hc h0
  generalize xs.length = L at *
  generalize ys.length = L' at *
  go_enter Try.func29, Try.ntmps29
  go_wp2_with (go_at_call 47; refine HC.out.mono ?_; rintro e w1 ⟨rfl, rfl⟩)
  go_ret3
  exact ⟨rfl, hbA⟩

set_option maxHeartbeats 1000000 in
set_option maxRecDepth 100000 in
theorem divMod_zero (a b : Value) (m n : Nat) (w : World) (ha : N32 w a m) (hb : N32 w b n) (hm : (dig B32 m).length ≤ 262144) (hn : (dig B32 n).length ≤ 262144) (h0 : n = 0) : Calls Try.prog 29 #[a, b] w fun e w' => e = .returned (.tuple #[.slice none 0 0, .slice none 0 0, .int .i64 4]) ∧ Below w.heap.size w w' := by
  have hc := checkAll_any w.heap.size 2 2 _ _ (nats2 (Limbs.num ha (by omega)) (Limbs.num hb (by omega))) rfl (by omega)
  rw [chkAll2, chk2, if_pos (chk_dig hm), chk_dig hn] at hc
  have hbA := below_new w (.cells #[a, b] 48)
  have HC := Lib.hid hc
  have hz : (dig B32 n).length = 0 := by rw [h0, dig_zero]; rfl
  obtain ⟨A, c, rfl, _⟩ := ha
  obtain ⟨A', c', rfl, _⟩ := hb
  clear hc h0
  rw [hz] at HC hbA ⊢
  clear hz hn
  generalize (dig B32 m).length = L at *
  go_enter Try.func29, Try.ntmps29
  go_wp2_with (go_at_call 47; refine HC.out.mono ?_; rintro e w1 ⟨rfl, rfl⟩)
  go_ret3
  exact ⟨rfl, hbA⟩

/-- Quotient and remainder come back, both of the call's own. -/
def DivNat (w : World) (q r : Nat) (e : Ending) (w' : World) : Prop := ∃ v u, e = .returned (.tuple #[v, u, .int .i64 0]) ∧ OwnL w.heap.size w' v q ∧ OwnL w.heap.size w' u r ∧ Below w.heap.size w w'

set_option maxHeartbeats 2000000 in
set_option maxRecDepth 100000 in
theorem divMod_ok (a b : Value) (m n : Nat) (w : World) (ha : N32 w a m) (hb : N32 w b n) (hm : (dig B32 m).length ≤ 262144) (hn : (dig B32 n).length ≤ 262144) (h0 : 0 < n) (hs : (dig B64 n).length < 200 ∨ (dig B64 m).length < 199 + (dig B64 n).length) : Calls Try.prog 29 #[a, b] w (DivNat w (m / n) (m % n)) := by
  have hc := checkAll_any w.heap.size 2 2 _ _ (nats2 (Limbs.num ha (by omega)) (Limbs.num hb (by omega))) rfl (by omega)
  rw [chkAll2, chk2, if_pos (chk_dig hm), chk_dig hn] at hc
  have hbA := below_new w (.cells #[a, b] 48)
  have HC := Lib.hid hc
  have ha1 := ha.keep hbA
  have hb1 := hb.keep hbA
  have hf1 := fun w' (h : N32 w' a m) => fromNat_any a m w' h (by omega)
  have hf2 := fun w' (h : N32 w' b n) => fromNat_any b n w' h (by omega)
  have lm := words_le (n := m) (K := 131072) hm
  have ln := words_le (n := n) (K := 131072) hn
  have hdv := fun v u w' (h : W64 w' v m) (k : W64 w' u n) => divide_any v u m n w' h k h0 (by omega) (by omega) hs
  have hlq : (dig B64 (m / n)).length ≤ 131072 := Nat.le_trans (lenm (Nat.div_le_self _ _)) lm
  have hlr : (dig B64 (m % n)).length ≤ 131072 := Nat.le_trans (lenm (Nat.mod_le _ _)) lm
  have hn1 := fun v w' (h : W64 w' v (m / n)) => nat_any v _ w' h (by omega)
  have hn2 := fun v w' (h : W64 w' v (m % n)) => nat_any v _ w' h (by omega)
  have hpos : 0 < (dig B32 n).length := by
    rcases Nat.eq_zero_or_pos (dig B32 n).length with h | h
    · have := (dig_nil_iff b32_two).1 (List.eq_nil_of_length_eq_zero h); omega
    · exact h
  have HA1 := Lib.hid ha1
  have HB1 := Lib.hid hb1
  have HF1 := Lib.hid hf1
  have HF2 := Lib.hid hf2
  have HDV := Lib.hid hdv
  have HN1 := Lib.hid hn1
  have HN2 := Lib.hid hn2
  clear ha1 hb1 hf1 hf2 hdv hn1 hn2
  obtain ⟨A, c, rfl, _⟩ := ha
  obtain ⟨A', c', rfl, _⟩ := hb
  clear hc lm ln hlq hlr hs
  generalize (dig B32 m).length = L at *
  generalize (dig B32 n).length = L' at *
  go_enter Try.func29, Try.ntmps29
  go_wp2_with (fail)
  refine (HC.out).mono ?_
  rintro e w1 ⟨rfl, rfl⟩
  go_wp2_with (fail)
  refine (HF1.out _ HA1.out).mono ?_
  rintro e w2 ⟨v1, rfl, hv1, hb2⟩
  have b2 := below_at hbA (Nat.le_refl _) hb2
  have kb_2 := HB1.out.keep hb2
  have k1_2 := hv1.is
  go_wp2_with (fail)
  refine (HF2.out _ kb_2).mono ?_
  rintro e w3 ⟨v2, rfl, hv2, hb3⟩
  have b3 := below_at b2 (Nat.le_refl _) hb3
  have k1_3 := k1_2.keep hb3
  have k2_3 := hv2.is
  go_wp2_with (fail)
  refine (HDV.out _ _ _ k1_3 k2_3).mono ?_
  rintro e w4 ⟨q, r, rfl, hq, hr, hb4⟩
  have b4 := below_at b3 (Nat.le_refl _) hb4
  have kq_4 := hq
  have kr_4 := hr
  go_wp2_with (fail)
  refine (HN1.out _ _ kq_4).mono ?_
  rintro e w5 ⟨v4, rfl, hv4, hb5⟩
  have b5 := below_at b4 (Nat.le_refl _) hb5
  have kr_5 := kr_4.keep hb5
  go_wp2_with (fail)
  refine (HN2.out _ _ kr_5).mono ?_
  rintro e w6 ⟨v5, rfl, hv5, hb6⟩
  have b6 := below_at b5 (Nat.le_refl _) hb6
  go_wp2
  go_ret3
  exact ⟨_, _, rfl, (hv4.keep hb6).mono b4.size, hv5.mono b5.size, b6⟩

end Go.Proofs.Ythgekjkgfccnaaa

namespace Go.Proofs.Ythgekjkgfccnaaa
open Go.RowKit Num

/-- Numbers that are small enough for all that follows. -/
def Sml (n : Nat) : Prop := n < B32 ^ 6
theorem b32_6 : B32 ^ 6 = B64 ^ 3 := by unfold B32 B64; decide
theorem b32_bits : B32 ^ 6 = 2 ^ 192 := by unfold B32; decide
theorem Sml.len {n : Nat} (h : Sml n) : (dig B32 n).length ≤ 6 := dig_len_le b32_two h
theorem Sml.len64 {n : Nat} (h : Sml n) : (dig B64 n).length ≤ 3 := dig_len_le b64_two (by unfold Sml at h; rw [b32_6] at h; exact h)
theorem Sml.bits {n : Nat} (h : Sml n) : nbits n ≤ 192 := nbits_le (by unfold Sml at h; rw [b32_bits] at h; exact h)
theorem sml_of {n k : Nat} (h : n < k) (hk : k ≤ 2 ^ 192) : Sml n := by unfold Sml; rw [b32_bits]; exact Nat.lt_of_lt_of_le h hk
theorem sml_i64 {n : Nat} (h : n < 9223372036854775808) : Sml n := sml_of h (by decide)
theorem Sml.le {m n : Nat} (h : Sml n) (hm : m ≤ n) : Sml m := Nat.lt_of_le_of_lt hm h

set_option maxHeartbeats 400000 in
set_option maxRecDepth 100000 in
theorem wtimes_any (a : Value) (m n : Nat) (w : World) (ha : N32 w a m) (hm : Sml m) (hn : n < 9223372036854775808) (hp : Sml (m * n)) : Calls Try.prog 51 #[a, .int .i64 (n : Int)] w (NatPost w (m * n)) := by
  have hof := fun w1 => of_any n (by unfold B64; omega) w1
  have hcv : IntKind.u64.wrap (n : Int) = (n : Int) := by rw [IntKind.wrap_u64]; omega
  have hml := fun b w1 (h : N32 w1 a m) (k : N32 w1 b n) => mul_ok mulSpec_small (by omega) a b m n w1 h k (by have := hm.len; omega) (by have := (sml_i64 hn).len; omega) (by have := hm.len; omega) (by have := (sml_i64 hn).len; omega) (by have := hp.bits; omega)
  have HOF := Lib.hid hof
  have HML := Lib.hid hml
  have HA := Lib.hid ha
  clear hof hml ha
  go_enter Try.func51, Try.ntmps51
  go_wp2_with (fail)
  refine (HOF.out _).mono ?_
  rintro e w1 ⟨v, rfl, hv, hb1⟩
  have HC := HML.out v w1 (HA.out.keep hb1) hv.is
  have HCC := Lib.hid HC
  clear HC
  go_wp2_with (fail)
  refine (HCC.out).mono ?_
  rintro e w2 ⟨u, rfl, hu, hb2⟩
  go_wp2
  go_ret
  exact ⟨_, rfl, hu.mono hb1.size, below_on hb1 hb1.size hb2⟩

theorem pow10_sml {k : Nat} (h : k ≤ 30) : Sml (10 ^ k) := sml_of (k := 10 ^ 31) (Nat.pow_lt_pow_right (by omega) (by omega)) (by decide)
set_option maxHeartbeats 400000 in
set_option maxRecDepth 100000 in
theorem tenTo_any (k : Nat) (w : World) (hk : k ≤ 30) : Calls Try.prog 42 #[.int .i64 (k : Int)] w (NatPost w (10 ^ k)) := by
  have hof := fun w1 => of_any 10 (by unfold B64; omega) w1
  have hpw := fun b w1 (h : N32 w1 b 10) => pow_ok b 10 k w1 h (by have := (sml_i64 (n := 10) (by omega)).len; omega) (by omega) (by have := (sml_i64 (n := 10) (by omega)).bits; omega)
  have HOF := Lib.hid hof
  have HPW := Lib.hid hpw
  clear hof hpw
  go_enter Try.func42, Try.ntmps42
  go_wp2_with (fail)
  refine (HOF.out _).mono ?_
  rintro e w1 ⟨v, rfl, hv, hb1⟩
  have HCC := Lib.hid (HPW.out v w1 hv.is)
  go_wp2_with (fail)
  refine (HCC.out).mono ?_
  rintro e w2 ⟨u, rfl, hu, hb2⟩
  go_wp2
  go_ret
  exact ⟨_, rfl, hu.mono hb1.size, below_on hb1 hb1.size hb2⟩

def IntPost (w : World) (n : Nat) (e : Ending) (w' : World) : Prop := e = .returned (.int .i64 (n : Int)) ∧ Below w.heap.size w w'
set_option maxHeartbeats 400000 in
set_option maxRecDepth 100000 in
theorem quotient_any (a b : Value) (m n : Nat) (w : World) (ha : N32 w a m) (hb : N32 w b n) (hm : Sml m) (hn : Sml n) (h0 : 0 < n) (hq : m / n < 9223372036854775808) : Calls Try.prog 41 #[a, b] w (IntPost w (m / n)) := by
  have hdv := divMod_ok a b m n w ha hb (by have := hm.len; omega) (by have := hn.len; omega) h0 (.inl (by have := hn.len64; omega))
  have hq64 : (dig B32 (m / n)).length ≤ 2 := dig_len_le b32_two (by unfold B32; omega)
  have hu := fun v w1 (h : N32 w1 v (m / n)) => uint64_ok v (m / n) w1 h hq64
  generalize m / n = q at *
  have hcv : IntKind.i64.wrap (q : Int) = (q : Int) := by rw [IntKind.wrap_i64]; omega
  have HDV := Lib.hid hdv
  have HU := Lib.hid hu
  clear hdv hu ha hb hq64
  go_enter Try.func41, Try.ntmps41
  go_wp2_with (fail)
  refine (HDV.out).mono ?_
  rintro e w1 ⟨v, u, rfl, hv, _, hb1⟩
  have HCC := Lib.hid (HU.out v w1 hv.is)
  go_wp2_with (fail)
  refine (HCC.out).mono ?_
  rintro e w2 ⟨rfl, hb2⟩
  go_wp2
  go_ret
  exact ⟨rfl, below_on hb1 hb1.size hb2⟩

/-- The product of some numbers. -/
def prodN (l : List Nat) : Nat := l.foldl (· * ·) 1
theorem prodN_snoc {l : List Nat} {k x : Nat} (h : l[k]? = some x) : prodN (l.take (k + 1)) = prodN (l.take k) * x := by
  unfold prodN
  rw [List.take_add_one, h]
  simp
def numI (l : List Nat) : List Int := l.map fun (x : Nat) => (x : Int)
theorem numI_at {l : List Nat} {k x : Nat} (h : l[k]? = some x) : (numI l)[k]? = some (x : Int) := by simp [numI, h]
set_option maxHeartbeats 1000000 in
set_option maxRecDepth 100000 in
theorem product_any (A : Option Addr) (cp L : Nat) (l : List Nat) (w : World) (hA : Ints w A (numI l)) (hL : L = l.length) (hl : l.length ≤ 100) (hx : ∀ x ∈ l, x < 9223372036854775808) (hs : ∀ k, k ≤ l.length → Sml (prodN (l.take k))) :
    Calls Try.prog 31 #[.slice A L cp] w (NatPost w (prodN l)) := by
  have hof := fun w1 => of_any 1 (by unfold B64; omega) w1
  have htm := fun a m n w1 (h : N32 w1 a m) (h1 : Sml m) (h2 : n < 9223372036854775808) (h3 : Sml (m * n)) => wtimes_any a m n w1 h h1 h2 h3
  have HOF := Lib.hid hof
  have HTM := Lib.hid htm
  have HA := Lib.hid hA
  have HL := Lib.hid hL
  have HS := Lib.hid hs
  have HX := Lib.hid hx
  clear hof htm hA hL hs hx
  go_enter Try.func31, Try.ntmps31
  go_wp2_with (fail)
  refine (HOF.out _).mono ?_
  rintro e w1 ⟨v, rfl, hv, hb1⟩
  go_wp2
  go_loopw [3, 5, 9] (fun p _ t wr => ∃ k : Nat, k ≤ L ∧ t = .int .i64 (k : Int) ∧ OwnL w.heap.size wr p (prodN (l.take k)) ∧ Below w.heap.size w wr) (fun _ _ t _ => L - (intOf t).toNat)
  case atStart => exact ⟨0, Nat.zero_le _, rfl, hv, hb1⟩
  case round =>
    clear hv hb1
    obtain ⟨k, hk, rfl, hp, hbl⟩ := hrel
    by_cases hlt : k < L
    · have hkl : k < l.length := by have := HL.out; omega
      obtain ⟨x, hx⟩ : ∃ x, l[k]? = some x := ⟨l[k], List.getElem?_eq_getElem hkl⟩
      obtain ⟨g, off, y, rfl, hg, hy, hc⟩ := Ints.at_ (HA.out.keep hbl) (i := k) (by simp [numI]; exact hkl)
      have hyx : y = (x : Int) := by rw [numI_at hx] at hy; injection hy with hy; exact hy.symm
      subst hyx
      have hsn := prodN_snoc hx
      have hx1 := HX.out x (List.mem_of_getElem? hx)
      have hs1 := HS.out k (by omega)
      have hs2 := HS.out (k + 1) (by omega)
      rw [hsn] at hs2
      have HSN := Lib.hid hsn
      clear hsn hx hy
      generalize prodN (l.take k) = m at *
      have HC := Lib.hid (HTM.out _ m x wr hp.is hs1 hx1 hs2)
      have hi1 : IntKind.i64.wrap ((k : Int) + 1) = (k : Int) + 1 := wrapI (by omega) (by omega)
      go_wp2_with (fail)
      refine (HC.out).mono ?_
      rintro e w2 ⟨u, rfl, hu, hb2⟩
      go_wp2
      go_roundw
      case rel => exact ⟨k + 1, by omega, by go_num, by rw [HSN.out]; exact hu.mono hbl.size, below_on hbl hbl.size hb2⟩
      case measure => simp [intOf]; omega
    · obtain rfl : k = L := by omega
      have hp2 : OwnL w.heap.size wr u3 (prodN l) := by have := hp; rwa [HL.out, List.take_length] at this
      have HP := Lib.hid hp2
      clear hp hp2
      go_wp2
      go_ret
      exact ⟨_, rfl, HP.out, hbl⟩
end Go.Proofs.Ythgekjkgfccnaaa

namespace Go.Proofs.Ythgekjkgfccnaaa
open Go.RowKit Num

theorem within_t (v lo hi : Int) (h : lo ≤ v ∧ v ≤ hi) (w : World) : Calls Try.prog 39 #[.int .i64 v, .int .i64 lo, .int .i64 hi] w fun e w' => e = .returned (.bool true) ∧ w = w' := by
  have := within_any v lo hi w; rwa [inB_of h] at this
theorem within_f (v lo hi : Int) (h : ¬ (lo ≤ v ∧ v ≤ hi)) (w : World) : Calls Try.prog 39 #[.int .i64 v, .int .i64 lo, .int .i64 hi] w fun e w' => e = .returned (.bool false) ∧ w = w' := by
  have := within_any v lo hi w; rwa [inB_not h] at this

def leL : List Nat → List Nat → Prop
  | [], [] => True
  | x :: l, y :: m => x ≤ y ∧ leL l m
  | _, _ => False
theorem fold_mono : ∀ (l m : List Nat) (a b : Nat), leL l m → a ≤ b → l.foldl (· * ·) a ≤ m.foldl (· * ·) b
  | [], [], _, _, _, h => h
  | [], _ :: _, _, _, h, _ => absurd h (by simp [leL])
  | _ :: _, [], _, _, h, _ => absurd h (by simp [leL])
  | x :: l, y :: m, a, b, h, hab => fold_mono l m (a * x) (b * y) h.2 (Nat.mul_le_mul hab h.1)
theorem prodN_mono {l m : List Nat} (h : leL l m) : prodN l ≤ prodN m := fold_mono _ _ _ _ h (Nat.le_refl _)
theorem fold_ge : ∀ {l : List Nat} {a : Nat}, (∀ x ∈ l, 1 ≤ x) → a ≤ l.foldl (· * ·) a
  | [], _, _ => Nat.le_refl _
  | x :: l, a, h => Nat.le_trans (Nat.le_mul_of_pos_right a (h x (by simp))) (fold_ge fun y hy => h y (by simp [hy]))
theorem prodN_take_le {l : List Nat} (h : ∀ x ∈ l, 1 ≤ x) (k : Nat) : prodN (l.take k) ≤ prodN l := by
  have e : prodN l = (l.drop k).foldl (· * ·) (prodN (l.take k)) := by
    unfold prodN
    rw [← List.foldl_append, List.take_append_drop]
  rw [e]
  exact fold_ge fun x hx => h x (List.mem_of_mem_drop hx)
theorem prod_ok (A : Option Addr) (cp L : Nat) (l : List Nat) (w : World) (hA : Ints w A (numI l)) (hL : L = l.length) (hl : l.length ≤ 100) (h1 : ∀ x ∈ l, 1 ≤ x) (hx : ∀ x ∈ l, x < 9223372036854775808) (hs : Sml (prodN l)) :
    Calls Try.prog 31 #[.slice A L cp] w (NatPost w (prodN l)) :=
  product_any A cp L l w hA hL hl hx fun k _ => hs.le (prodN_take_le h1 k)

/-- What is pulled, and how much of it is borne. -/
def pullN (d w l f : Nat) : Nat := prodN [355, d, w, w, l, l, f, f] / (10 ^ 23 * 113)
def stressN (d l f : Nat) : Nat := prodN [4, d, l, l, f, f] / 10 ^ 20
def holdN (d s l f sf : Nat) : Bool := decide (prodN [400, d, l, l, f, f] ≤ 10 ^ 20 * (sf * s))
structure InD (d : Nat) : Prop where (lo : 1 ≤ d) (hi : d ≤ 30000)
structure InW (d : Nat) : Prop where (lo : 1 ≤ d) (hi : d ≤ 2000)
structure InL (d : Nat) : Prop where (lo : 1 ≤ d) (hi : d ≤ 100000)
structure InF (d : Nat) : Prop where (lo : 1 ≤ d) (hi : d ≤ 10000000)
structure InS (d : Nat) : Prop where (lo : 1 ≤ d) (hi : d ≤ 100000)
structure InP (d : Nat) : Prop where (lo : 1 ≤ d) (hi : d ≤ 100)

theorem pull_le {d w l f : Nat} (hd : InD d) (hw : InW w) (hl : InL l) (hf : InF f) : prodN [355, d, w, w, l, l, f, f] ≤ 42600000000000000000000000000000000000 :=
  Nat.le_trans (prodN_mono (m := [355, 30000, 2000, 2000, 100000, 100000, 10000000, 10000000]) ⟨Nat.le_refl _, hd.hi, hw.hi, hw.hi, hl.hi, hl.hi, hf.hi, hf.hi, trivial⟩) (by decide)
theorem stress_le {c d l f : Nat} (hc : c ≤ 400) (hd : InD d) (hl : InL l) (hf : InF f) : prodN [c, d, l, l, f, f] ≤ 12000000000000000000000000000000 :=
  Nat.le_trans (prodN_mono (m := [400, 30000, 100000, 100000, 10000000, 10000000]) ⟨hc, hd.hi, hl.hi, hl.hi, hf.hi, hf.hi, trivial⟩) (by decide)
theorem pull_lt {d w l f : Nat} (hd : InD d) (hw : InW w) (hl : InL l) (hf : InF f) : pullN d w l f ≤ 4000000000000 := by
  unfold pullN
  have := pull_le hd hw hl hf
  generalize prodN [355, d, w, w, l, l, f, f] = x at *
  omega
theorem stress_lt {d l f : Nat} (hd : InD d) (hl : InL l) (hf : InF f) : stressN d l f ≤ 4000000000000 := by
  unfold stressN
  have := stress_le (c := 4) (by omega) hd hl hf
  generalize prodN [4, d, l, l, f, f] = x at *
  omega

/-- A list that was just built. -/
theorem ints_new (w : World) (l : List Int) : Ints (w.alloc (.cells (is l).toArray 3)) (some ⟨w.heap.size, 0, none⟩) l := (Blk.new w 3 (is l)).vals0

set_option maxHeartbeats 400000 in
set_option maxRecDepth 100000 in
theorem tension_any (d wd l f : Nat) (w : World) (hd : InD d) (hw : InW wd) (hl : InL l) (hf : InF f) : Calls Try.prog 40 #[.int .i64 (d : Int), .int .i64 (wd : Int), .int .i64 (l : Int), .int .i64 (f : Int)] w (IntPost w (pullN d wd l f)) := by
  have hle := pull_le hd hw hl hf
  have hsm : Sml (prodN [355, d, wd, wd, l, l, f, f]) := sml_of (k := 42600000000000000000000000000000000001) (Nat.lt_succ_of_le hle) (by decide)
  have hpr := prod_ok (some ⟨w.heap.size, 0, none⟩) 8 8 [355, d, wd, wd, l, l, f, f] _ (ints_new w _) rfl (by simp) (by simp; have := hd.lo; have := hw.lo; have := hl.lo; have := hf.lo; omega) (by simp; have := hd.hi; have := hw.hi; have := hl.hi; have := hf.hi; omega) hsm
  have hbA := below_new w (.cells (is (numI [355, d, wd, wd, l, l, f, f])).toArray 3)
  have hten := fun w1 => tenTo_any 23 w1 (by omega)
  have htm := fun a w1 (h : N32 w1 a (10 ^ 23)) => wtimes_any a (10 ^ 23) 113 w1 h (pow10_sml (by omega)) (by omega) (sml_of (k := 10 ^ 26) (by decide) (by decide))
  have hq := fun a b w1 (h : N32 w1 a (prodN [355, d, wd, wd, l, l, f, f])) (k : N32 w1 b (10 ^ 23 * 113)) => quotient_any a b _ _ w1 h k hsm (sml_of (k := 10 ^ 26) (by decide) (by decide)) (by decide) (Nat.lt_of_le_of_lt (pull_lt hd hw hl hf) (by decide))
  have HPR := Lib.hid hpr
  have HTE := Lib.hid hten
  have HTM := Lib.hid htm
  have HQ := Lib.hid hq
  have HBA := Lib.hid hbA
  clear hpr hten htm hq hle hsm hbA
  go_enter Try.func40, Try.ntmps40
  go_wp2_with (fail)
  refine (HPR.out).mono ?_
  rintro e w1 ⟨v, rfl, hv, hb1⟩
  have b1 := below_on HBA.out HBA.out.size hb1
  go_wp2_with (fail)
  refine (HTE.out _).mono ?_
  rintro e w2 ⟨v2, rfl, hv2, hb2⟩
  have b2 := below_on b1 b1.size hb2
  have HC := Lib.hid (HTM.out v2 w2 hv2.is)
  go_wp2_with (fail)
  refine (HC.out).mono ?_
  rintro e w3 ⟨v3, rfl, hv3, hb3⟩
  have b3 := below_on b2 b2.size hb3
  have HD := Lib.hid (HQ.out v v3 w3 ((hv.keep hb2).keep hb3).is hv3.is)
  go_wp2_with (fail)
  refine (HD.out).mono ?_
  rintro e w4 ⟨rfl, hb4⟩
  go_wp2
  go_ret
  exact ⟨rfl, below_on b3 b3.size hb4⟩

def Int2 (w : World) (n : Int) (k : Int) (e : Ending) (w' : World) : Prop := e = .returned (.tuple #[.int .i64 n, .int .i64 k]) ∧ Below w.heap.size w w'
theorem Tension_ok (d wd l f : Nat) (w : World) (hd : InD d) (hw : InW wd) (hl : InL l) (hf : InF f) : Calls Try.prog 23 #[.int .i64 (d : Int), .int .i64 (wd : Int), .int .i64 (l : Int), .int .i64 (f : Int)] w (Int2 w (pullN d wd l f : Nat) 0) := by
  have h1 := fun w1 => within_t (d : Int) 1 30000 (by have := hd.lo; have := hd.hi; omega) w1
  have h2 := fun w1 => within_t (wd : Int) 1 2000 (by have := hw.lo; have := hw.hi; omega) w1
  have h3 := fun w1 => within_t (l : Int) 1 100000 (by have := hl.lo; have := hl.hi; omega) w1
  have h4 := fun w1 => within_t (f : Int) 1 10000000 (by have := hf.lo; have := hf.hi; omega) w1
  have h5 := fun w1 => tension_any d wd l f w1 hd hw hl hf
  have H1 := Lib.hid h1
  have H2 := Lib.hid h2
  have H3 := Lib.hid h3
  have H4 := Lib.hid h4
  have H5 := Lib.hid h5
  clear h1 h2 h3 h4 h5
  go_enter Try.func23, Try.ntmps23
  go_wp2_with (fail)
  refine (H1.out _).mono ?_
  rintro e w1 ⟨rfl, rfl⟩
  go_wp2_with (fail)
  refine (H2.out _).mono ?_
  rintro e w1 ⟨rfl, rfl⟩
  go_wp2_with (fail)
  refine (H3.out _).mono ?_
  rintro e w1 ⟨rfl, rfl⟩
  go_wp2_with (fail)
  refine (H4.out _).mono ?_
  rintro e w1 ⟨rfl, rfl⟩
  go_wp2_with (fail)
  refine (H5.out _).mono ?_
  rintro e w1 ⟨rfl, hb⟩
  go_wp2
  go_ret2
  exact ⟨rfl, hb⟩
end Go.Proofs.Ythgekjkgfccnaaa

namespace Go.Proofs.Ythgekjkgfccnaaa
open Go.RowKit Num

set_option maxHeartbeats 400000 in
set_option maxRecDepth 100000 in
theorem Stress_ok (d l f : Nat) (w : World) (hd : InD d) (hl : InL l) (hf : InF f) : Calls Try.prog 24 #[.int .i64 (d : Int), .int .i64 (l : Int), .int .i64 (f : Int)] w (Int2 w (stressN d l f : Nat) 0) := by
  have h1 := fun w1 => within_t (d : Int) 1 30000 (by have := hd.lo; have := hd.hi; omega) w1
  have h2 := fun w1 => within_t (l : Int) 1 100000 (by have := hl.lo; have := hl.hi; omega) w1
  have h3 := fun w1 => within_t (f : Int) 1 10000000 (by have := hf.lo; have := hf.hi; omega) w1
  have hle := stress_le (c := 4) (by omega) hd hl hf
  have hsm : Sml (prodN [4, d, l, l, f, f]) := sml_of (k := 12000000000000000000000000000000001) (Nat.lt_of_le_of_lt hle (by decide)) (by decide)
  have hpr := prod_ok (some ⟨w.heap.size, 0, none⟩) 6 6 [4, d, l, l, f, f] _ (ints_new w _) rfl (by simp) (by simp; have := hd.lo; have := hl.lo; have := hf.lo; omega) (by simp; have := hd.hi; have := hl.hi; have := hf.hi; omega) hsm
  have hba := below_new w (.cells (is (numI [4, d, l, l, f, f])).toArray 3)
  have hten := fun w1 => tenTo_any 20 w1 (by omega)
  have hq := fun a b w1 (h : N32 w1 a (prodN [4, d, l, l, f, f])) (k : N32 w1 b (10 ^ 20)) => quotient_any a b _ _ w1 h k hsm (pow10_sml (by omega)) (by decide) (Nat.lt_of_le_of_lt (stress_lt hd hl hf) (by decide))
  have H1 := Lib.hid h1
  have H2 := Lib.hid h2
  have H3 := Lib.hid h3
  have Hpr := Lib.hid hpr
  have Hten := Lib.hid hten
  have Hq := Lib.hid hq
  have Hba := Lib.hid hba
  clear h1 h2 h3 hpr hten hq hba
  clear hle hsm
  go_enter Try.func24, Try.ntmps24
  go_wp2_with (fail)
  refine (H1.out _).mono ?_
  rintro e w1 ⟨rfl, rfl⟩
  go_wp2_with (fail)
  refine (H2.out _).mono ?_
  rintro e w1 ⟨rfl, rfl⟩
  go_wp2_with (fail)
  refine (H3.out _).mono ?_
  rintro e w1 ⟨rfl, rfl⟩
  go_wp2_with (fail)
  refine (Hpr.out).mono ?_
  rintro e w1 ⟨v, rfl, hv, hb1⟩
  have b1 := below_on Hba.out Hba.out.size hb1
  go_wp2_with (fail)
  refine (Hten.out _).mono ?_
  rintro e w2 ⟨v2, rfl, hv2, hb2⟩
  have b2 := below_on b1 b1.size hb2
  have HD := Lib.hid (Hq.out v v2 w2 (hv.keep hb2).is hv2.is)
  go_wp2_with (fail)
  refine (HD.out).mono ?_
  rintro e w3 ⟨rfl, hb3⟩
  go_wp2
  go_ret2
  exact ⟨rfl, below_on b2 b2.size hb3⟩

theorem strength_sml {s sf : Nat} (hs : InS s) (hp : InP sf) : sf * s ≤ 10000000 := Nat.le_trans (Nat.mul_le_mul hp.hi hs.hi) (by decide)
theorem strength_sml2 {x : Nat} (h : x ≤ 10000000) : Sml (10 ^ 20 * x) := sml_of (k := 10 ^ 28) (Nat.lt_of_le_of_lt (Nat.mul_le_mul_left _ h) (by decide)) (by decide)
set_option maxHeartbeats 400000 in
set_option maxRecDepth 100000 in
theorem strengthOf_any (s sf : Nat) (w : World) (hs : InS s) (hp : InP sf) : Calls Try.prog 30 #[.int .i64 (s : Int), .int .i64 (sf : Int)] w (NatPost w (10 ^ 20 * (sf * s))) := by
  have hle := strength_sml hs hp
  obtain ⟨p, hpe⟩ : ∃ p, sf * s = p := ⟨_, rfl⟩
  have hw0 : ((sf : Int) * (s : Int)) = (p : Int) := by rw [← hpe]; push_cast; rfl
  rw [hpe] at hle ⊢
  have hw1 : IntKind.i64.wrap ((sf : Int) * (s : Int)) = (p : Int) := by rw [hw0, wrapI (by omega) (by omega)]
  have hten := fun w1 => tenTo_any 20 w1 (by omega)
  have htm := fun a w1 (h : N32 w1 a (10 ^ 20)) => wtimes_any a (10 ^ 20) p w1 h (pow10_sml (by omega)) (by omega) (strength_sml2 hle)
  have hw2 : wrap64 ((sf : Int) * (s : Int)) = (p : Int) := by rw [hw0]; unfold wrap64; omega
  clear hpe hw0
  have Hten := Lib.hid hten
  have Htm := Lib.hid htm
  clear hten htm
  go_enter Try.func30, Try.ntmps30
  go_wp2_with (fail)
  refine (Hten.out _).mono ?_
  rintro e w1 ⟨v, rfl, hv, hb1⟩
  have HC := Lib.hid (Htm.out v w1 hv.is)
  go_wp2_with (fail)
  refine (HC.out).mono ?_
  rintro e w2 ⟨v2, rfl, hv2, hb2⟩
  go_wp2
  go_ret
  exact ⟨_, rfl, hv2.mono hb1.size, below_on hb1 hb1.size hb2⟩

theorem cmp_le {m n : Nat} : decide (cmpN m n ≤ 0) = decide (m ≤ n) := by
  rcases Nat.lt_trichotomy m n with h | h | h
  · rw [cmpN_lt h]; simp; omega
  · subst h; rw [cmpN_eq]; simp
  · rw [cmpN_gt h]; simp; omega
def BoolPost (w : World) (b : Bool) (e : Ending) (w' : World) : Prop := e = .returned (.bool b) ∧ Below w.heap.size w w'
set_option maxHeartbeats 400000 in
set_option maxRecDepth 100000 in
theorem holds_any (d s l f sf : Nat) (w : World) (hd : InD d) (hs : InS s) (hl : InL l) (hf : InF f) (hp : InP sf) : Calls Try.prog 43 #[.int .i64 (d : Int), .int .i64 (s : Int), .int .i64 (l : Int), .int .i64 (f : Int), .int .i64 (sf : Int)] w (BoolPost w (holdN d s l f sf)) := by
  have hle := stress_le (c := 400) (by omega) hd hl hf
  have hsm : Sml (prodN [400, d, l, l, f, f]) := sml_of (k := 12000000000000000000000000000000001) (Nat.lt_of_le_of_lt hle (by decide)) (by decide)
  have hpr := prod_ok (some ⟨w.heap.size, 0, none⟩) 6 6 [400, d, l, l, f, f] _ (ints_new w _) rfl (by simp) (by simp; have := hd.lo; have := hl.lo; have := hf.lo; omega) (by simp; have := hd.hi; have := hl.hi; have := hf.hi; omega) hsm
  have hba := below_new w (.cells (is (numI [400, d, l, l, f, f])).toArray 3)
  have hst := fun w1 => strengthOf_any s sf w1 hs hp
  have hsm2 := strength_sml2 (strength_sml hs hp)
  have hcm := fun a b w1 (h : N32 w1 a (prodN [400, d, l, l, f, f])) (k : N32 w1 b (10 ^ 20 * (sf * s))) => cmp_ok a b _ _ w1 h k (by have := hsm.len; omega) (by have := hsm2.len; omega)
  have hcl : decide (cmpN (prodN [400, d, l, l, f, f]) (10 ^ 20 * (sf * s)) ≤ 0) = holdN d s l f sf := cmp_le
  generalize cmpN (prodN [400, d, l, l, f, f]) (10 ^ 20 * (sf * s)) = c at *
  have Hpr := Lib.hid hpr
  have Hba := Lib.hid hba
  have Hst := Lib.hid hst
  have Hcm := Lib.hid hcm
  have Hcl := Lib.hid hcl
  clear hpr hba hst hcm hcl
  clear hle hsm hsm2
  go_enter Try.func43, Try.ntmps43
  go_wp2_with (fail)
  refine (Hpr.out).mono ?_
  rintro e w1 ⟨v, rfl, hv, hb1⟩
  have b1 := below_on Hba.out Hba.out.size hb1
  go_wp2_with (fail)
  refine (Hst.out _).mono ?_
  rintro e w2 ⟨v2, rfl, hv2, hb2⟩
  have b2 := below_on b1 b1.size hb2
  have HD := Lib.hid (Hcm.out v v2 w2 (hv.keep hb2).is hv2.is)
  go_wp2_with (fail)
  refine (HD.out).mono ?_
  rintro e w3 ⟨rfl, hb3⟩
  go_wp2
  go_ret
  exact ⟨by rw [← Hcl.out]; rfl, below_on b2 b2.size hb3⟩

/-- The four ranges. -/
def strongB (d s f sf : Int) : Bool := ((inB d 1 30000 && inB s 1 100000) && inB f 1 10000000) && inB sf 1 100
set_option maxHeartbeats 400000 in
set_option maxRecDepth 100000 in
theorem areStrong_any (d s f sf : Int) (w : World) : Calls Try.prog 28 #[.int .i64 d, .int .i64 s, .int .i64 f, .int .i64 sf] w fun e w' => e = .returned (.bool (strongB d s f sf)) ∧ w = w' := by
  have h1 := fun w1 => within_any d 1 30000 w1
  have h2 := fun w1 => within_any s 1 100000 w1
  have h3 := fun w1 => within_any f 1 10000000 w1
  have h4 := fun w1 => within_any sf 1 100 w1
  unfold strongB
  generalize inB d 1 30000 = a1 at *
  generalize inB s 1 100000 = a2 at *
  generalize inB f 1 10000000 = a3 at *
  generalize inB sf 1 100 = a4 at *
  have H1 := Lib.hid h1
  have H2 := Lib.hid h2
  have H3 := Lib.hid h3
  have H4 := Lib.hid h4
  clear h1 h2 h3 h4
  cases a1 with
  | false =>
    go_enter Try.func28, Try.ntmps28
    go_wp2_with (fail)
    refine (H1.out _).mono ?_
    rintro e w1 ⟨rfl, rfl⟩
    go_wp2
    go_ret
    exact ⟨rfl, rfl⟩
  | true =>
    cases a2 with
    | false =>
      go_enter Try.func28, Try.ntmps28
      go_wp2_with (fail)
      refine (H1.out _).mono ?_
      rintro e w1 ⟨rfl, rfl⟩
      go_wp2_with (fail)
      refine (H2.out _).mono ?_
      rintro e w1 ⟨rfl, rfl⟩
      go_wp2
      go_ret
      exact ⟨rfl, rfl⟩
    | true =>
      cases a3 with
      | false =>
        go_enter Try.func28, Try.ntmps28
        go_wp2_with (fail)
        refine (H1.out _).mono ?_
        rintro e w1 ⟨rfl, rfl⟩
        go_wp2_with (fail)
        refine (H2.out _).mono ?_
        rintro e w1 ⟨rfl, rfl⟩
        go_wp2_with (fail)
        refine (H3.out _).mono ?_
        rintro e w1 ⟨rfl, rfl⟩
        go_wp2
        go_ret
        exact ⟨rfl, rfl⟩
      | true =>
        cases a4 with
        | false =>
          go_enter Try.func28, Try.ntmps28
          go_wp2_with (fail)
          refine (H1.out _).mono ?_
          rintro e w1 ⟨rfl, rfl⟩
          go_wp2_with (fail)
          refine (H2.out _).mono ?_
          rintro e w1 ⟨rfl, rfl⟩
          go_wp2_with (fail)
          refine (H3.out _).mono ?_
          rintro e w1 ⟨rfl, rfl⟩
          go_wp2_with (fail)
          refine (H4.out _).mono ?_
          rintro e w1 ⟨rfl, rfl⟩
          go_wp2
          go_ret
          exact ⟨rfl, rfl⟩
        | true =>
          go_enter Try.func28, Try.ntmps28
          go_wp2_with (fail)
          refine (H1.out _).mono ?_
          rintro e w1 ⟨rfl, rfl⟩
          go_wp2_with (fail)
          refine (H2.out _).mono ?_
          rintro e w1 ⟨rfl, rfl⟩
          go_wp2_with (fail)
          refine (H3.out _).mono ?_
          rintro e w1 ⟨rfl, rfl⟩
          go_wp2_with (fail)
          refine (H4.out _).mono ?_
          rintro e w1 ⟨rfl, rfl⟩
          go_wp2
          go_ret
          exact ⟨rfl, rfl⟩

theorem strongB_t {d s f sf : Nat} (hd : InD d) (hs : InS s) (hf : InF f) (hp : InP sf) : strongB d s f sf = true := by
  unfold strongB
  rw [inB_of (by have := hd.lo; have := hd.hi; omega), inB_of (by have := hs.lo; have := hs.hi; omega), inB_of (by have := hf.lo; have := hf.hi; omega), inB_of (by have := hp.lo; have := hp.hi; omega)]
  rfl
def Bool2 (w : World) (b : Bool) (k : Int) (e : Ending) (w' : World) : Prop := e = .returned (.tuple #[.bool b, .int .i64 k]) ∧ Below w.heap.size w w'
set_option maxHeartbeats 400000 in
set_option maxRecDepth 100000 in
theorem Holds_ok (d s l f sf : Nat) (w : World) (hd : InD d) (hs : InS s) (hl : InL l) (hf : InF f) (hp : InP sf) : Calls Try.prog 25 #[.int .i64 (d : Int), .int .i64 (s : Int), .int .i64 (l : Int), .int .i64 (f : Int), .int .i64 (sf : Int)] w (Bool2 w (holdN d s l f sf) 0) := by
  have h1 := fun w1 => areStrong_any d s f sf w1
  rw [strongB_t hd hs hf hp] at h1
  have h2 := fun w1 => within_t (l : Int) 1 100000 (by have := hl.lo; have := hl.hi; omega) w1
  have h3 := fun w1 => holds_any d s l f sf w1 hd hs hl hf hp
  have H1 := Lib.hid h1
  have H2 := Lib.hid h2
  have H3 := Lib.hid h3
  clear h1 h2 h3
  go_enter Try.func25, Try.ntmps25
  go_wp2_with (fail)
  refine (H1.out _).mono ?_
  rintro e w1 ⟨rfl, rfl⟩
  go_wp2_with (fail)
  refine (H2.out _).mono ?_
  rintro e w1 ⟨rfl, rfl⟩
  go_wp2_with (fail)
  refine (H3.out _).mono ?_
  rintro e w1 ⟨rfl, hb⟩
  go_wp2
  go_ret2
  exact ⟨rfl, hb⟩

/-- The greatest length that is borne, before it is cut at the limit. -/
def IsLong (d s f sf r : Nat) : Prop := IsRoot 2 (10 ^ 20 * (sf * s) / prodN [400, d, f, f]) r
theorem den_le {d f : Nat} (hd : InD d) (hf : InF f) : prodN [400, d, f, f] ≤ 1200000000000000000000 :=
  Nat.le_trans (prodN_mono (m := [400, 30000, 10000000, 10000000]) ⟨Nat.le_refl _, hd.hi, hf.hi, hf.hi, trivial⟩) (by decide)
theorem den_pos {d f : Nat} (hd : InD d) (hf : InF f) : 0 < prodN [400, d, f, f] :=
  Nat.lt_of_lt_of_le (by decide) (prodN_mono (l := [1, 1, 1, 1]) ⟨by omega, hd.lo, hf.lo, hf.lo, trivial⟩)
theorem long_lt {m r : Nat} (h : IsRoot 2 m r) (hm : m ≤ 10 ^ 28) : r ≤ 100000000000000 := by
  rcases Nat.lt_or_ge 100000000000000 r with h1 | h1
  · have h2 := h.1
    have h3 : 100000000000001 ^ 2 ≤ r ^ 2 := Nat.pow_le_pow_left h1 2
    have h4 := Nat.le_trans (Nat.le_trans h3 h2) hm
    exact absurd h4 (by decide)
  · exact h1
set_option maxHeartbeats 400000 in
set_option maxRecDepth 100000 in
theorem Longest_bad (d s f sf : Int) (w : World) (hb : strongB d s f sf = false) : Calls Try.prog 11 #[.int .i64 d, .int .i64 s, .int .i64 f, .int .i64 sf] w (Int2 w 0 1) := by
  have h1 := fun w1 => areStrong_any d s f sf w1
  rw [hb] at h1
  have H1 := Lib.hid h1
  clear h1
  clear hb
  go_enter Try.func11, Try.ntmps11
  go_wp2_with (fail)
  refine (H1.out _).mono ?_
  rintro e w1 ⟨rfl, rfl⟩
  go_wp2
  go_ret2
  exact ⟨rfl, Below.refl _ _⟩

set_option maxHeartbeats 400000 in
set_option maxRecDepth 100000 in
theorem Longest_ok (d s f sf r : Nat) (w : World) (hd : InD d) (hs : InS s) (hf : InF f) (hp : InP sf) (hr : IsLong d s f sf r) : Calls Try.prog 11 #[.int .i64 (d : Int), .int .i64 (s : Int), .int .i64 (f : Int), .int .i64 (sf : Int)] w (Int2 w (if r = 0 then 0 else (min r 100000 : Nat)) (if r = 0 then 6 else 0)) := by
  have h1 := fun w1 => areStrong_any d s f sf w1
  rw [strongB_t hd hs hf hp] at h1
  have h2 := fun w1 => strengthOf_any s sf w1 hs hp
  have hsm : Sml (prodN [400, d, f, f]) := sml_of (k := 1200000000000000000001) (Nat.lt_of_le_of_lt (den_le hd hf) (by decide)) (by decide)
  have hpr := fun w1 => prod_ok (some ⟨w1.heap.size, 0, none⟩) 4 4 [400, d, f, f] _ (ints_new w1 _) rfl (by simp) (by simp; have := hd.lo; have := hf.lo; omega) (by simp; have := hd.hi; have := hf.hi; omega) hsm
  have hba := fun w1 => below_new w1 (.cells (is (numI [400, d, f, f])).toArray 3)
  have hsm2 := strength_sml2 (strength_sml hs hp)
  have hdv := fun a b w1 (h : N32 w1 a (10 ^ 20 * (sf * s))) (k : N32 w1 b (prodN [400, d, f, f])) => divMod_ok a b _ _ w1 h k (by have := hsm2.len; omega) (by have := hsm.len; omega) (den_pos hd hf) (.inl (by have := hsm.len64; omega))
  have hqm : Sml (10 ^ 20 * (sf * s) / prodN [400, d, f, f]) := hsm2.le (Nat.div_le_self _ _)
  have hql : 10 ^ 20 * (sf * s) / prodN [400, d, f, f] ≤ 10 ^ 28 := Nat.le_trans (Nat.div_le_self _ _) (Nat.le_trans (Nat.mul_le_mul_left _ (strength_sml hs hp)) (by decide))
  unfold IsLong at hr
  generalize 10 ^ 20 * (sf * s) = S at *
  generalize prodN [400, d, f, f] = D at *
  generalize S / D = q at *
  have hrl := long_lt hr hql
  have hrt : ∀ a w1, N32 w1 a q → Calls Try.prog 32 #[a, .int .i64 2] w1 (NatOk w1 r) := by
    intro a w1 h
    rcases Nat.eq_zero_or_pos q with h0 | h0
    · have : r = 0 := by
        have := hr.1
        rw [h0] at this
        rcases Nat.eq_zero_or_pos r with h | h
        · exact h
        · have h5 : 1 ^ 2 ≤ r ^ 2 := Nat.pow_le_pow_left h 2
          rw [Nat.one_pow] at h5
          exact absurd (Nat.le_trans h5 this) (by decide)
      rw [this]
      exact root_zero a q 2 w1 h h0 (by omega)
    · exact root_ok a q 2 r w1 h h0 (by omega) (by have := hqm.bits; omega) hr
  have hu := fun v w1 (h : N32 w1 v r) => uint64_ok v r w1 h (dig_len_le b32_two (by unfold B32; omega))
  clear hr hsm hsm2 hqm hql
  have hmn : (min (r : Int) 100000) = ((min r 100000 : Nat) : Int) := by
    rcases Nat.le_total r 100000 with h | h
    · rw [Nat.min_eq_left h, Int.min_eq_left (by omega)]
    · rw [Nat.min_eq_right h, Int.min_eq_right (by omega)]; rfl
  have hmx : min r 100000 ≤ 100000 := Nat.min_le_right _ _
  generalize min r 100000 = M at *
  have hcv : IntKind.i64.wrap (M : Int) = (M : Int) := wrapI (by omega) (by omega)
  have H1 := Lib.hid h1
  have H2 := Lib.hid h2
  have Hpr := Lib.hid hpr
  have Hba := Lib.hid hba
  have Hdv := Lib.hid hdv
  have Hrt := Lib.hid hrt
  have Hu := Lib.hid hu
  clear h1 h2 hpr hba hdv hrt hu
  by_cases h0 : r = 0
  · rw [if_pos h0, if_pos h0]
    subst h0
    go_enter Try.func11, Try.ntmps11
    go_wp2_with (fail)
    refine (H1.out _).mono ?_
    rintro e w1 ⟨rfl, rfl⟩
    go_wp2_with (fail)
    refine (H2.out _).mono ?_
    rintro e w1 ⟨v, rfl, hv, hb1⟩
    have b1 := hb1
    go_wp2_with (fail)
    refine ((Hpr.out w1)).mono ?_
    rintro e w2 ⟨v2, rfl, hv2, hb2⟩
    have b2 := below_on (below_on b1 b1.size (Hba.out w1)) (Nat.le_trans b1.size (Hba.out w1).size) hb2
    have k2 := hv.keep (below_on (Hba.out w1) (Hba.out w1).size hb2)
    have HD := Lib.hid (Hdv.out v v2 w2 k2.is hv2.is)
    go_wp2_with (fail)
    refine (HD.out).mono ?_
    rintro e w3 ⟨v3, v4, rfl, hv3, _, hb3⟩
    have b3 := below_on b2 b2.size hb3
    have HE := Lib.hid (Hrt.out v3 w3 hv3.is)
    go_wp2_with (fail)
    refine (HE.out).mono ?_
    rintro e w4 ⟨v5, rfl, hv5, hb4⟩
    have b4 := below_on b3 b3.size hb4
    have HG := Lib.hid (Hu.out v5 w4 hv5.is)
    go_wp2_with (fail)
    refine (HG.out).mono ?_
    rintro e w5 ⟨rfl, hb5⟩
    have b5 := below_on b4 b4.size hb5
    go_wp2
    go_ret2
    exact ⟨rfl, b5⟩
  · rw [if_neg h0, if_neg h0]
    have hz : ((r : Int) == 0) = false := by simp; exact h0
    clear h0
    go_enter Try.func11, Try.ntmps11
    go_wp2_with (fail)
    refine (H1.out _).mono ?_
    rintro e w1 ⟨rfl, rfl⟩
    go_wp2_with (fail)
    refine (H2.out _).mono ?_
    rintro e w1 ⟨v, rfl, hv, hb1⟩
    have b1 := hb1
    go_wp2_with (fail)
    refine ((Hpr.out w1)).mono ?_
    rintro e w2 ⟨v2, rfl, hv2, hb2⟩
    have b2 := below_on (below_on b1 b1.size (Hba.out w1)) (Nat.le_trans b1.size (Hba.out w1).size) hb2
    have k2 := hv.keep (below_on (Hba.out w1) (Hba.out w1).size hb2)
    have HD := Lib.hid (Hdv.out v v2 w2 k2.is hv2.is)
    go_wp2_with (fail)
    refine (HD.out).mono ?_
    rintro e w3 ⟨v3, v4, rfl, hv3, _, hb3⟩
    have b3 := below_on b2 b2.size hb3
    have HE := Lib.hid (Hrt.out v3 w3 hv3.is)
    go_wp2_with (fail)
    refine (HE.out).mono ?_
    rintro e w4 ⟨v5, rfl, hv5, hb4⟩
    have b4 := below_on b3 b3.size hb4
    have HG := Lib.hid (Hu.out v5 w4 hv5.is)
    go_wp2_with (fail)
    refine (HG.out).mono ?_
    rintro e w5 ⟨rfl, hb5⟩
    have b5 := below_on b4 b4.size hb5
    go_wp2
    go_ret2
    exact ⟨rfl, b5⟩
end Go.Proofs.Ythgekjkgfccnaaa

namespace Go.Proofs.Ythgekjkgfccnaaa
open Go.RowKit Num
theorem mul64_1 (n : Nat) (hn : n ≤ 1000000000000) (w : World) : Calls Try.prog 87 #[.int .u64 1, .int .u64 (n : Int)] w fun e w' => e = .returned (.tuple #[.int .u64 0, .int .u64 (n : Int)]) ∧ w = w' := by
  obtain ⟨hi, lo, hc, h1, h2, h3⟩ := mul64_ex 1 n (by unfold B64; omega) (by unfold B64; omega)
  have h4 : hi = 0 := by unfold B64 at h1; omega
  subst h4
  have h5 : lo = n := by omega
  subst h5
  exact hc w
set_option maxRecDepth 100000 in
theorem mul64_one (n : Nat) (hn : n ≤ 1000000000000) (w : World) : Calls Try.prog 64 #[.int .u64 1, .int .u64 (n : Int)] w fun e w' => e = .returned (.tuple #[.int .u64 0, .int .u64 (n : Int)]) ∧ w = w' := by
  have H := fun w1 => Lib.hid (mul64_1 n hn w1)
  go_enter Try.func64, Try.ntmps64
  go_wp2_with (go_at_call 87; refine ((H _).out).mono ?_; rintro e w1 ⟨rfl, rfl⟩)
  go_ret2
  exact ⟨rfl, rfl⟩
end Go.Proofs.Ythgekjkgfccnaaa

namespace Go.Proofs.Ythgekjkgfccnaaa
open Go.RowKit

/-- m copies of some cells, and zeros behind. -/
def repL (cells : List Value) (z : Value) (k m n : Nat) : List Value := (List.replicate m cells).flatten ++ List.replicate ((n - m) * k) z
theorem flat_rep_len (cells : List Value) (m : Nat) : (List.replicate m cells).flatten.length = m * cells.length := by simp
theorem repL_len {cells : List Value} {z : Value} {k m n : Nat} (hk : cells.length = k) (hm : m ≤ n) : (repL cells z k m n).length = n * k := by
  simp only [repL, List.length_append, flat_rep_len, List.length_replicate, hk]
  rw [← Nat.add_mul, Nat.add_sub_cancel' hm]
theorem repL_zero (cells : List Value) (z : Value) (k n : Nat) : repL cells z k 0 n = List.replicate (n * k) z := by simp [repL]
theorem repL_full (cells : List Value) (z : Value) (k n : Nat) : repL cells z k n n = (List.replicate n cells).flatten := by simp [repL]
theorem repL_take {cells : List Value} {z : Value} {k m n j : Nat} (hk : cells.length = k) (hj : j ≤ m) : (repL cells z k m n).take (j * k) = (List.replicate j cells).flatten := by
  unfold repL
  rw [List.take_append_of_le_length (by rw [flat_rep_len, hk]; exact Nat.mul_le_mul_right _ hj)]
  have : List.replicate m cells = List.replicate j cells ++ List.replicate (m - j) cells := by rw [← List.replicate_append_replicate.symm]; congr 1; omega
  rw [this, List.flatten_append, List.take_left' (by rw [flat_rep_len, hk])]
theorem repL_step {cells : List Value} {z : Value} {k m n j : Nat} (hk : cells.length = k) (_hj : m + j ≤ n) :
    (repL cells z k m n).take (m * k) ++ (List.replicate j cells).flatten ++ (repL cells z k m n).drop (m * k + (List.replicate j cells).flatten.length) = repL cells z k (m + j) n := by
  rw [repL_take hk (Nat.le_refl _), flat_rep_len, hk]
  unfold repL
  rw [List.drop_append, List.drop_of_length_le (by rw [flat_rep_len, hk]; omega), flat_rep_len, hk]
  rw [show m * k + j * k - m * k = j * k by omega, List.drop_replicate, ← Nat.sub_mul, show n - m - j = n - (m + j) by omega, ← List.replicate_append_replicate, List.flatten_append]
  simp
def RepPost (T : TypeId) (w : World) (n : Nat) (cells : List Value) (e : Ending) (w' : World) : Prop :=
  ∃ g, e = .returned (.slice (some ⟨g, 0, none⟩) n n) ∧ w.heap.size ≤ g ∧ Blk T w' g (List.replicate n cells).flatten ∧ Below w.heap.size w w'

theorem infoI : (Try.prog.info? 3).map (fun i => (i.zero, i.size, i.bytes)) = some (some (.int .i64 0), 1, 8) := by kernel_rfl
theorem infoP : (Try.prog.info? 87).map (fun i => (i.zero, i.size, i.bytes)) = some (some (.agg #[.int .i64 0, .int .i64 0]), 2, 16) := by kernel_rfl
theorem sizeI : (Try.prog.info? 3).map (·.size) = some 1 := by kernel_rfl
theorem sizeP : (Try.prog.info? 87).map (·.size) = some 2 := by kernel_rfl

set_option maxHeartbeats 2000000 in
set_option maxRecDepth 100000 in
theorem repeatI_any (gx ox cx n : Nat) (x : Int) (w : World) (hx : Ints w (some ⟨gx, ox, none⟩) [x]) (h1 : 1 ≤ n) (hn : n ≤ 1048576) :
    Calls Try.prog 45 #[.slice (some ⟨gx, ox, none⟩) 1 cx, .int .i64 (n : Int)] w (RepPost 3 w n (is [x])) := by
  have hmk := fun w1 => run_make_same (P := Try.prog) 30 3 (.int .i64 0) (.int .i64 0) 1 8 Try.underlying30 infoI rfl (by omega) n (n) (by omega) (by omega) (by omega) w1
  have hml := fun w1 => mul64_one n (by omega) w1
  have hb0 : Blk 3 (w.alloc (.cells (Array.replicate (n) (.int .i64 0)) 3)) w.heap.size (repL (is [x]) (.int .i64 0) 1 0 n) := by
    rw [repL_zero]
    have := Blk.new w 3 (List.replicate (n * 1) (.int .i64 0))
    simpa using this
  have hbA := below_new w (.cells (Array.replicate (n) (.int .i64 0)) 3)
  have hx1 := Vals.alloc hx (.cells (Array.replicate (n) (.int .i64 0)) 3)
  have hst : (repL (is [x]) (.int .i64 0) 1 0 n).take 0 ++ is [x] ++ (repL (is [x]) (.int .i64 0) 1 0 n).drop (0 + (is [x]).length) = repL (is [x]) (.int .i64 0) 1 1 n := by
    have := repL_step (cells := is [x]) (z := .int .i64 0) (k := 1) (m := 0) (j := 1) (n := n) rfl (by omega)
    simpa using this
  have hfit0 : 0 + (is [x]).length ≤ (repL (is [x]) (.int .i64 0) 1 0 n).length := by
    rw [repL_len (k := 1) rfl (Nat.zero_le n)]
    show _ ≤ _
    have : (is [x]).length = 1 := rfl
    omega
  have  HX := Lib.hid hx1
  have HML := Lib.hid hml
  have HST := Lib.hid hst
  clear hml hx hx1 hst
  have d1 : decide ((9223372036854775807 : Int) < (n : Int)) = false := by simp; omega
  have d2 : decide ((n : Int) < 0) = false := by simp
  have cv : IntKind.u64.wrap (n : Int) = (n : Int) := by rw [IntKind.wrap_u64]; omega
  have cv2 : IntKind.i64.wrap (n : Int) = (n : Int) := wrapI (by omega) (by omega)
  go_enter Try.func45, Try.ntmps45
  go_wp2_with (first
    | (go_at_call 64; refine (HML.out _).mono ?_; rintro e w1 ⟨rfl, rfl⟩)
    | (refine wpList_copyN rfl (.tmp 31) (.tmp 32) 30 30 rfl 3 Try.underlying30 1 sizeI w.heap.size 0 n n gx ox 1 cx 1 rfl rfl _ 3 hb0 (is [x]) (Nat.min_eq_left h1).symm rfl HX.out hfit0 (is_one _) ?_
       intro w2 hb2 hg2
       have hbB := hbA.grown hg2 hbA.size (fun k hk => by injection hk with hk; omega)))
  rw [HST.out] at hb2
  clear hmk
  go_loopw [8] (fun t wr => ∃ m : Nat, 1 ≤ m ∧ m ≤ n ∧ t = .int .i64 (m : Int) ∧ Blk 3 wr w.heap.size (repL (is [x]) (.int .i64 0) 1 m n) ∧ Below w.heap.size w wr) (fun t _ => n - (intOf t).toNat)
  case atStart => exact ⟨1, Nat.le_refl _, h1, rfl, hb2, hbB⟩
  case round =>
    clear hb2 hb0 hbA hbB hg2
    obtain ⟨m, hm1, hm, rfl, hb, hbl⟩ := hrel
    by_cases hlt : m < n
    · obtain ⟨j, hj⟩ : ∃ j, j = Nat.min m (n - m) := ⟨_, rfl⟩
      have hj1 : m + j ≤ n := by
        have h2 : j ≤ n - m := by rw [hj]; exact Nat.min_le_right _ _
        omega
      have hj2 : j ≤ m := by rw [hj]; exact Nat.min_le_left _ _
      have hj3 : 1 ≤ j := by rw [hj]; exact Nat.le_min.2 ⟨hm1, Nat.sub_pos_of_lt hlt⟩
      have hs : IntKind.i64.wrap ((m : Int) + (j : Int)) = (m : Int) + (j : Int) := wrapI (by omega) (by omega)
      have hne : ¬ n = m := by omega
      have hv := hb.drew.vals 0 (j * 1)
      rw [List.drop_zero, repL_take (by rfl) hj2] at hv
      have hst := repL_step (cells := is [x]) (z := .int .i64 0) (k := 1) rfl hj1
      have hln : (List.replicate j (is [x])).flatten.length = j * 1 := by rw [flat_rep_len]; rfl
      have hone : ∀ v ∈ (List.replicate j (is [x])).flatten, v.oneCell' = true := by
        intro v hv
        obtain ⟨l, hl, hv⟩ := List.mem_flatten.1 hv
        rw [List.eq_of_mem_replicate hl] at hv
        exact is_one _ v hv
      have hfit : m * 1 + (List.replicate j (is [x])).flatten.length ≤ (repL (is [x]) (.int .i64 0) 1 m n).length := by rw [repL_len (k := 1) rfl hm, hln, ← Nat.add_mul]; exact Nat.mul_le_mul_right _ hj1
      have HJ := Lib.hid hj
      have HV := Lib.hid hv
      have HST := Lib.hid hst
      have HLN := Lib.hid hln
      have HO := Lib.hid hone
      clear hj hv hst hln hone
      go_wp2_with (fail)
      go_region_law (refine step_copyN rfl (.tmp 41) (.tmp 44) 30 30 rfl 3 Try.underlying30 1 sizeI w.heap.size (m * 1) (n - m) (n - m) w.heap.size 0 m n j (by simp [Act.eval, Act.put]) (by simp [Act.eval, Act.put]) _ 3 hb.drew _ HJ.out HLN.out HV.out hfit HO.out ?_
                     intro w2 hb2 hg2)
      rw [HST.out] at hb2
      go_simp
      go_roundw
      case rel => exact ⟨.int .i64 ((m : Int) + (j : Int)), _, _, _, _, _, _, _, _, _, _, _, _, _, ⟨m + j, by omega, hj1, by go_num, hb2, hbl.drew.grown hg2 hbl.size (fun k hk => by injection hk with hk; omega)⟩, rfl⟩
      case measure => simp [intOf]; omega
    · obtain rfl : m = n := by omega
      go_wp2
      go_ret
      rw [repL_full] at hb
      exact ⟨_, rfl, Nat.le_refl _, hb, hbl⟩
set_option maxHeartbeats 2000000 in
set_option maxRecDepth 100000 in
theorem repeatP_any (gx ox cx n : Nat) (x y : Int) (w : World) (hx : Ints w (some ⟨gx, ox, none⟩) [x, y]) (h1 : 1 ≤ n) (hn : n ≤ 1048576) :
    Calls Try.prog 61 #[.slice (some ⟨gx, ox, none⟩) 1 cx, .int .i64 (n : Int)] w (RepPost 87 w n (is [x, y])) := by
  have hmk := fun w1 => run_make_same (P := Try.prog) 84 87 (.agg #[.int .i64 0, .int .i64 0]) (.int .i64 0) 2 16 Try.underlying84 infoP rfl (by omega) n (n * 2) (by omega) (by omega) (by omega) w1
  have hml := fun w1 => mul64_one n (by omega) w1
  have hb0 : Blk 87 (w.alloc (.cells (Array.replicate (n * 2) (.int .i64 0)) 87)) w.heap.size (repL (is [x, y]) (.int .i64 0) 2 0 n) := by
    rw [repL_zero]
    have := Blk.new w 87 (List.replicate (n * 2) (.int .i64 0))
    simpa using this
  have hbA := below_new w (.cells (Array.replicate (n * 2) (.int .i64 0)) 87)
  have hx1 := Vals.alloc hx (.cells (Array.replicate (n * 2) (.int .i64 0)) 87)
  have hst : (repL (is [x, y]) (.int .i64 0) 2 0 n).take 0 ++ is [x, y] ++ (repL (is [x, y]) (.int .i64 0) 2 0 n).drop (0 + (is [x, y]).length) = repL (is [x, y]) (.int .i64 0) 2 1 n := by
    have := repL_step (cells := is [x, y]) (z := .int .i64 0) (k := 2) (m := 0) (j := 1) (n := n) rfl (by omega)
    simpa using this
  have hfit0 : 0 + (is [x, y]).length ≤ (repL (is [x, y]) (.int .i64 0) 2 0 n).length := by
    rw [repL_len (k := 2) rfl (Nat.zero_le n)]
    show _ ≤ _
    have : (is [x, y]).length = 2 := rfl
    omega
  have  HX := Lib.hid hx1
  have HML := Lib.hid hml
  have HST := Lib.hid hst
  clear hml hx hx1 hst
  have d1 : decide ((9223372036854775807 : Int) < (n : Int)) = false := by simp; omega
  have d2 : decide ((n : Int) < 0) = false := by simp
  have cv : IntKind.u64.wrap (n : Int) = (n : Int) := by rw [IntKind.wrap_u64]; omega
  have cv2 : IntKind.i64.wrap (n : Int) = (n : Int) := wrapI (by omega) (by omega)
  go_enter Try.func61, Try.ntmps61
  go_wp2_with (first
    | (go_at_call 64; refine (HML.out _).mono ?_; rintro e w1 ⟨rfl, rfl⟩)
    | (refine wpList_copyN rfl (.tmp 31) (.tmp 32) 84 84 rfl 87 Try.underlying84 2 sizeP w.heap.size 0 n n gx ox 1 cx 1 rfl rfl _ 87 hb0 (is [x, y]) (Nat.min_eq_left h1).symm rfl HX.out hfit0 (is_one _) ?_
       intro w2 hb2 hg2
       have hbB := hbA.grown hg2 hbA.size (fun k hk => by injection hk with hk; omega)))
  rw [HST.out] at hb2
  clear hmk
  go_loopw [8] (fun t wr => ∃ m : Nat, 1 ≤ m ∧ m ≤ n ∧ t = .int .i64 (m : Int) ∧ Blk 87 wr w.heap.size (repL (is [x, y]) (.int .i64 0) 2 m n) ∧ Below w.heap.size w wr) (fun t _ => n - (intOf t).toNat)
  case atStart => exact ⟨1, Nat.le_refl _, h1, rfl, hb2, hbB⟩
  case round =>
    clear hb2 hb0 hbA hbB hg2
    obtain ⟨m, hm1, hm, rfl, hb, hbl⟩ := hrel
    by_cases hlt : m < n
    · obtain ⟨j, hj⟩ : ∃ j, j = Nat.min m (n - m) := ⟨_, rfl⟩
      have hj1 : m + j ≤ n := by
        have h2 : j ≤ n - m := by rw [hj]; exact Nat.min_le_right _ _
        omega
      have hj2 : j ≤ m := by rw [hj]; exact Nat.min_le_left _ _
      have hj3 : 1 ≤ j := by rw [hj]; exact Nat.le_min.2 ⟨hm1, Nat.sub_pos_of_lt hlt⟩
      have hs : IntKind.i64.wrap ((m : Int) + (j : Int)) = (m : Int) + (j : Int) := wrapI (by omega) (by omega)
      have hne : ¬ n = m := by omega
      have hv := hb.drew.vals 0 (j * 2)
      rw [List.drop_zero, repL_take (by rfl) hj2] at hv
      have hst := repL_step (cells := is [x, y]) (z := .int .i64 0) (k := 2) rfl hj1
      have hln : (List.replicate j (is [x, y])).flatten.length = j * 2 := by rw [flat_rep_len]; rfl
      have hone : ∀ v ∈ (List.replicate j (is [x, y])).flatten, v.oneCell' = true := by
        intro v hv
        obtain ⟨l, hl, hv⟩ := List.mem_flatten.1 hv
        rw [List.eq_of_mem_replicate hl] at hv
        exact is_one _ v hv
      have hfit : m * 2 + (List.replicate j (is [x, y])).flatten.length ≤ (repL (is [x, y]) (.int .i64 0) 2 m n).length := by rw [repL_len (k := 2) rfl hm, hln, ← Nat.add_mul]; exact Nat.mul_le_mul_right _ hj1
      have HJ := Lib.hid hj
      have HV := Lib.hid hv
      have HST := Lib.hid hst
      have HLN := Lib.hid hln
      have HO := Lib.hid hone
      clear hj hv hst hln hone
      go_wp2_with (fail)
      go_region_law (refine step_copyN rfl (.tmp 41) (.tmp 44) 84 84 rfl 87 Try.underlying84 2 sizeP w.heap.size (m * 2) (n - m) (n - m) w.heap.size 0 m n j (by simp [Act.eval, Act.put]) (by simp [Act.eval, Act.put]) _ 87 hb.drew _ HJ.out HLN.out HV.out hfit HO.out ?_
                     intro w2 hb2 hg2)
      rw [HST.out] at hb2
      go_simp
      go_roundw
      case rel => exact ⟨.int .i64 ((m : Int) + (j : Int)), _, _, _, _, _, _, _, _, _, _, _, _, _, ⟨m + j, by omega, hj1, by go_num, hb2, hbl.drew.grown hg2 hbl.size (fun k hk => by injection hk with hk; omega)⟩, rfl⟩
      case measure => simp [intOf]; omega
    · obtain rfl : m = n := by omega
      go_wp2
      go_ret
      rw [repL_full] at hb
      exact ⟨_, rfl, Nat.le_refl _, hb, hbl⟩
end Go.Proofs.Ythgekjkgfccnaaa

namespace Go.Proofs.Ythgekjkgfccnaaa
open Go.RowKit
/-- A row of the call's own, whose head are these ints. -/
def OwnI (w : World) (l : List Int) (e : Ending) (w' : World) : Prop := ∃ g cap, e = .returned (.slice (some ⟨g, 0, none⟩) l.length cap) ∧ w.heap.size ≤ g ∧ Hd 3 w' g cap (is l) ∧ Below w.heap.size w w'
set_option maxHeartbeats 1000000 in
set_option maxRecDepth 100000 in
theorem clone_any (ad : Addr) (c L : Nat) (l : List Int) (w : World) (hA : Ints w (some ad) l) (hL : L = l.length) (hl : L ≤ 1000000000) :
    Calls Try.prog 65 #[.slice (some ad) L c] w (OwnI w l) := by
  have hA1 := hA.keep (below_new w (.cells #[] 3))
  have ho := own_empty w 3
  have hbA := below_new w (.cells #[] 3)
  obtain ⟨i0, hi, hz0, hz1, hz2⟩ := info_parts infoI
  have hnil := fun w1 => Lib.run_eql_slice_nil (P := Try.prog) w1 30 3 (some ad) L c 0 0 Try.underlying30
  simp only [Option.isNone_some] at hnil
  have HL := Lib.hid hL
  have HA := Lib.hid hA1
  have HO := Lib.hid ho
  clear hA hA1 ho hL
  go_enter Try.func65, Try.ntmps65
  go_wp2_with (at_builtin
               refine wpList_append_own _ rfl _ _ 30 rfl w.heap.size 3 i0 (.int .i64 0) 1 8 Try.underlying30 hi hz0 hz1 hz2 rfl (by decide) _ _ _ rfl HO.out ad L _ (is l) rfl ?c1 (vals_cells HA.out) (is_one _) ?c4 ?c5 (by simp) ?_)
  case c1 => rw [is_len, HL.out]; omega
  case c4 => unfold maxLen; omega
  case c5 => omega
  intro v' w1 hown hgr hne
  have hb1 := hbA.grown hgr hbA.size (by simp [Value.ownBlock])
  go_wp2
  go_ret
  have hv : v' ≠ .slice none 0 0 := by simpa using hne
  obtain ⟨g, cap, he, h1, _, h2⟩ := Hd.of_owns hown hv
  rw [is_len] at he
  subst he
  exact ⟨g, cap, rfl, h1, h2, hb1⟩
end Go.Proofs.Ythgekjkgfccnaaa
