import Derived.Test.YtaegkhdkhgemmaaWhole
import Derived.Test.YtaegkhdkhgemmaaAddsW
namespace Go.Proofs.Ytaegkhdkhgemmaa
open Go.RowKit Num

/-- A number is returned; nothing that was there has turned. -/
def NumRet (w : World) (n : Nat) (e : Ending) (w' : World) : Prop := ∃ v, e = .returned v ∧ N32 w' v n ∧ Below w.heap.size w w'

theorem len_add {m n K : Nat} (hm : (dig B32 m).length ≤ K) (hn : (dig B32 n).length ≤ K) : (dig B32 (m + n)).length ≤ K + 1 := by
  have h1 := Nat.lt_of_lt_of_le (dig_len_lt b32_two (n := m)) (Nat.pow_le_pow_right b32_pos hm)
  have h2 := Nat.lt_of_lt_of_le (dig_len_lt b32_two (n := n)) (Nat.pow_le_pow_right b32_pos hn)
  exact dig_len_le b32_two (two_pow_lt b32_two h1 h2)
theorem len_mul {m n K J : Nat} (hm : (dig B32 m).length ≤ K) (hn : (dig B32 n).length ≤ J) : (dig B32 (m * n)).length ≤ K + J := by
  have h1 := Nat.lt_of_lt_of_le (dig_len_lt b32_two (n := m)) (Nat.pow_le_pow_right b32_pos hm)
  have h2 := Nat.lt_of_lt_of_le (dig_len_lt b32_two (n := n)) (Nat.pow_le_pow_right b32_pos hn)
  refine dig_len_le b32_two ?_
  rw [Nat.pow_add]
  exact Nat.mul_lt_mul_of_lt_of_lt h1 h2

set_option maxHeartbeats 400000 in
theorem add_n (a b : Value) (m n : Nat) (w : World) (ha : N32 w a m) (hb : N32 w b n) (hm : (dig B32 m).length ≤ 1000) (hn : (dig B32 n).length ≤ 1000) : Calls Try.prog 71 #[a, b] w (NumRet w (m + n)) := by
  have h := add_ok a b m n w ha hb (by omega) (by omega) (Nat.le_trans (bits_of_len (len_add hm hn)) (by omega))
  have H := Lib.hid h
  clear h ha hb
  go_enter Try.func71, Try.ntmps71
  go_wp2_with (go_at_call 37; refine H.out.mono ?_; rintro e w1 ⟨v, rfl, hv, hb1⟩)
  go_ret
  exact ⟨_, rfl, hv.is, hb1⟩
set_option maxHeartbeats 400000 in
theorem sub_n (a b : Value) (m n : Nat) (w : World) (ha : N32 w a m) (hb : N32 w b n) (hm : (dig B32 m).length ≤ 1000) (hn : (dig B32 n).length ≤ 1000) (hle : n ≤ m) : Calls Try.prog 73 #[a, b] w (NumRet w (m - n)) := by
  have h := sub_ok a b m n w ha hb (by omega) (by omega) hle
  have H := Lib.hid h
  clear h ha hb hle
  go_enter Try.func73, Try.ntmps73
  go_wp2_with (go_at_call 38; refine H.out.mono ?_; rintro e w1 ⟨v, rfl, hv, hb1⟩)
  go_ret
  exact ⟨_, rfl, hv.is, hb1⟩
set_option maxHeartbeats 400000 in
theorem mul_n (a b : Value) (m n : Nat) (w : World) (ha : N32 w a m) (hb : N32 w b n) (hm : (dig B32 m).length ≤ 1000) (hn : (dig B32 n).length ≤ 1000) (hs : (dig B32 m).length ≤ 158 ∨ (dig B32 n).length ≤ 158) : Calls Try.prog 72 #[a, b] w (NumRet w (m * n)) := by
  have lm := words_le (n := m) (K := 500) hm
  have ln := words_le (n := n) (K := 500) hn
  have hsh : (dig B64 m).length ≤ 79 ∨ (dig B64 n).length ≤ 79 := by
    rcases hs with h | h
    · exact .inl (words_le (K := 79) h)
    · exact .inr (words_le (K := 79) h)
  have h := mul_at (N := 500) a b m n w (mulAt_short (by omega) (by omega) hsh) (by omega) ha hb (by omega) (by omega) (by omega) (by omega) (Nat.le_trans (bits_of_len (len_mul hm hn)) (by omega))
  have H := Lib.hid h
  clear h ha hb hs hsh
  go_enter Try.func72, Try.ntmps72
  go_wp2_with (go_at_call 45; refine H.out.mono ?_; rintro e w1 ⟨v, rfl, hv, hb1⟩)
  go_ret
  exact ⟨_, rfl, hv.is, hb1⟩
set_option maxHeartbeats 400000 in
theorem same_n (a b : Value) (n : Nat) (w : World) (ha : N32 w a n) (hb : N32 w b n) (hl : (dig B32 n).length ≤ 1000) : Calls Try.prog 70 #[a, b] w (LivesPost w) := by
  have hs := same_nums a b _ _ w (Limbs.num ha (by omega)) (Limbs.num hb (by omega))
  rw [decide_eq_true rfl] at hs
  have H := Lib.hid hs
  clear hs ha hb
  go_enter Try.func70, Try.ntmps70
  go_wp2_with (go_at_call 32; refine H.out.mono ?_; rintro e w1 ⟨rfl, hb1⟩)
  go_ret
  exact ⟨rfl, hb1⟩

theorem whole_len {xs : List Nat} (h : Low B32 xs) (n : Nat) : (dig B32 (val B32 (xs.take n))).length ≤ n := by
  refine Nat.le_trans (trim_le b32_two (h.take n)) ?_
  rw [List.length_take]; omega

set_option maxHeartbeats 4000000 in
set_option maxRecDepth 100000 in
/-- The law NatRing, for whatever limbs. -/
theorem ring_walk (A A1 A2 : Option Addr) (c c1 c2 L L1 L2 : Nat) (xs ys zs : List Nat) (w : World) (hA : Nums .u32 w A xs) (hA1 : Nums .u32 w A1 ys) (hA2 : Nums .u32 w A2 zs) (hx : Low B32 xs) (hy : Low B32 ys) (hz : Low B32 zs)
    (hL : L = xs.length) (hL1 : L1 = ys.length) (hL2 : L2 = zs.length) (hc : L ≤ c) (hc1 : L1 ≤ c1) (hc2 : L2 ≤ c2) (hnil : A = none → c = 0) (hnil1 : A1 = none → c1 = 0) (hnil2 : A2 = none → c2 = 0) :
    Calls Try.prog 15 #[.slice A L c, .slice A1 L1 c1, .slice A2 L2 c2] w (LivesPost w) := by
  have hw0 := fun w' (h : Below w.heap.size w w') => whole_any A c L 80 xs w' (hA.keep h) hx hL hc hnil (by omega)
  have hw1 := fun w' (h : Below w.heap.size w w') => whole_any A1 c1 L1 80 ys w' (hA1.keep h) hy hL1 hc1 hnil1 (by omega)
  have hw2 := fun w' (h : Below w.heap.size w w') => whole_any A2 c2 L2 80 zs w' (hA2.keep h) hz hL2 hc2 hnil2 (by omega)
  have lp := whole_len hx 80
  have lq := whole_len hy 80
  have lr := whole_len hz 80
  generalize val B32 (xs.take 80) = p at *
  generalize val B32 (ys.take 80) = q at *
  generalize val B32 (zs.take 80) = r at *
  have lpq := len_add lp lq
  have lqr := len_add lq lr
  have lpqr : (dig B32 (p + q + r)).length ≤ 82 := len_add lpq (Nat.le_trans lr (by omega))
  have mpq := len_mul lp lq
  have mqr := len_mul lq lr
  have mpr := len_mul lp lr
  have mpqr : (dig B32 (p * q * r)).length ≤ 240 := len_mul mpq lr
  have mps := len_mul lp lqr
  have hapq := fun a b w h k => add_n a b p q w h k (by omega) (by omega)
  have haqp := fun a b w h k => add_n a b q p w h k (by omega) (by omega)
  have hapqr := fun a b w h k => add_n a b (p + q) r w h k (by omega) (by omega)
  have haqr := fun a b w h k => add_n a b q r w h k (by omega) (by omega)
  have hapqr2 := fun a b w h k => add_n a b p (q + r) w h k (by omega) (by omega)
  have hmpq := fun a b w h k => mul_n a b p q w h k (by omega) (by omega) (.inl (by omega))
  have hmqp := fun a b w h k => mul_n a b q p w h k (by omega) (by omega) (.inl (by omega))
  have hmpqr := fun a b w h k => mul_n a b (p * q) r w h k (by omega) (by omega) (.inr (by omega))
  have hmqr := fun a b w h k => mul_n a b q r w h k (by omega) (by omega) (.inl (by omega))
  have hmpqr2 := fun a b w h k => mul_n a b p (q * r) w h k (by omega) (by omega) (.inl (by omega))
  have hmps := fun a b w h k => mul_n a b p (q + r) w h k (by omega) (by omega) (.inl (by omega))
  have hmpr := fun a b w h k => mul_n a b p r w h k (by omega) (by omega) (.inl (by omega))
  have hadd := fun a b w h k => add_n a b (p * q) (p * r) w h k (by omega) (by omega)
  have hsub := fun a b w h k => sub_n a b (p + q) q w h k (by omega) (by omega) (by omega)
  have hs1 := fun a b w h k => same_n a b (p + q) w h k (by omega)
  have hs2 := fun a b w h k => same_n a b (p + q + r) w h k (by omega)
  have hs3 := fun a b w h k => same_n a b (p * q) w h k (by omega)
  have hs4 := fun a b w h k => same_n a b (p * q * r) w h k (by omega)
  have hs5 := fun a b w h k => same_n a b (p * (q + r)) w h k (by omega)
  have hs6 := fun a b w h k => same_n a b p w h k (by omega)
  rw [Nat.add_comm q p] at haqp
  rw [← Nat.add_assoc] at hapqr2
  rw [Nat.mul_comm q p] at hmqp
  rw [← Nat.mul_assoc] at hmpqr2
  rw [← Nat.mul_add] at hadd
  rw [Nat.add_sub_cancel] at hsub
  have HW0 := Lib.hid hw0
  have HW1 := Lib.hid hw1
  have HW2 := Lib.hid hw2
  have HAPQ := Lib.hid hapq
  have HAQP := Lib.hid haqp
  have HAPQR := Lib.hid hapqr
  have HAQR := Lib.hid haqr
  have HAPQR2 := Lib.hid hapqr2
  have HMPQ := Lib.hid hmpq
  have HMQP := Lib.hid hmqp
  have HMPQR := Lib.hid hmpqr
  have HMQR := Lib.hid hmqr
  have HMPQR2 := Lib.hid hmpqr2
  have HMPS := Lib.hid hmps
  have HMPR := Lib.hid hmpr
  have HADD := Lib.hid hadd
  have HSUB := Lib.hid hsub
  have HS1 := Lib.hid hs1
  have HS2 := Lib.hid hs2
  have HS3 := Lib.hid hs3
  have HS4 := Lib.hid hs4
  have HS5 := Lib.hid hs5
  have HS6 := Lib.hid hs6
  clear hw0 hw1 hw2 hapq haqp hapqr haqr hapqr2 hmpq hmqp hmpqr hmqr hmpqr2 hmps hmpr hadd hsub hs1 hs2 hs3 hs4 hs5 hs6 lp lq lr lpq lqr lpqr mpq mqr mpr mpqr mps hA hA1 hA2 hx hy hz hL hL1 hL2 hc hc1 hc2 hnil hnil1 hnil2
  go_enter Try.func15, Try.ntmps15
  go_wp2_with (fail)
  refine (HW0.out _ (Below.refl _ _)).mono ?_
  rintro e w1 ⟨va, rfl, g1, hb1⟩
  have b1 := hb1
  go_wp2_with (fail)
  refine (HW1.out _ b1).mono ?_
  rintro e w2 ⟨vb, rfl, g2, hb2⟩
  have b2 := below_at b1 (Nat.le_refl _) hb2
  have va_2 := g1.keep hb2
  go_wp2_with (fail)
  refine (HW2.out _ b2).mono ?_
  rintro e w3 ⟨vc, rfl, g3, hb3⟩
  have b3 := below_at b2 (Nat.le_refl _) hb3
  have va_3 := va_2.keep hb3
  have vb_3 := g2.keep hb3
  go_wp2_with (fail)
  refine (HAPQ.out _ _ _ va_3 vb_3).mono ?_
  rintro e w4 ⟨v1, rfl, g4, hb4⟩
  have b4 := below_at b3 (Nat.le_refl _) hb4
  have va_4 := va_3.keep hb4
  have vb_4 := vb_3.keep hb4
  have vc_4 := g3.keep hb4
  go_wp2_with (fail)
  refine (HAQP.out _ _ _ vb_4 va_4).mono ?_
  rintro e w5 ⟨v2, rfl, g5, hb5⟩
  have b5 := below_at b4 (Nat.le_refl _) hb5
  have va_5 := va_4.keep hb5
  have vb_5 := vb_4.keep hb5
  have vc_5 := vc_4.keep hb5
  have v1_5 := g4.keep hb5
  go_wp2_with (fail)
  refine (HS1.out _ _ _ v1_5 g5).mono ?_
  rintro e w6 ⟨rfl, hb6⟩
  have b6 := below_at b5 (Nat.le_refl _) hb6
  have va_6 := va_5.keep hb6
  have vb_6 := vb_5.keep hb6
  have vc_6 := vc_5.keep hb6
  have v1_6 := v1_5.keep hb6
  have v2_6 := g5.keep hb6
  go_wp2_with (fail)
  refine (HAPQ.out _ _ _ va_6 vb_6).mono ?_
  rintro e w7 ⟨v3, rfl, g7, hb7⟩
  have b7 := below_at b6 (Nat.le_refl _) hb7
  have va_7 := va_6.keep hb7
  have vb_7 := vb_6.keep hb7
  have vc_7 := vc_6.keep hb7
  go_wp2_with (fail)
  refine (HAPQR.out _ _ _ g7 vc_7).mono ?_
  rintro e w8 ⟨v4, rfl, g8, hb8⟩
  have b8 := below_at b7 (Nat.le_refl _) hb8
  have va_8 := va_7.keep hb8
  have vb_8 := vb_7.keep hb8
  have vc_8 := vc_7.keep hb8
  have v3_8 := g7.keep hb8
  go_wp2_with (fail)
  refine (HAQR.out _ _ _ vb_8 vc_8).mono ?_
  rintro e w9 ⟨v5, rfl, g9, hb9⟩
  have b9 := below_at b8 (Nat.le_refl _) hb9
  have va_9 := va_8.keep hb9
  have vb_9 := vb_8.keep hb9
  have vc_9 := vc_8.keep hb9
  have v3_9 := v3_8.keep hb9
  have v4_9 := g8.keep hb9
  go_wp2_with (fail)
  refine (HAPQR2.out _ _ _ va_9 g9).mono ?_
  rintro e w10 ⟨v6, rfl, g10, hb10⟩
  have b10 := below_at b9 (Nat.le_refl _) hb10
  have va_10 := va_9.keep hb10
  have vb_10 := vb_9.keep hb10
  have vc_10 := vc_9.keep hb10
  have v3_10 := v3_9.keep hb10
  have v4_10 := v4_9.keep hb10
  have v5_10 := g9.keep hb10
  go_wp2_with (fail)
  refine (HS2.out _ _ _ v4_10 g10).mono ?_
  rintro e w11 ⟨rfl, hb11⟩
  have b11 := below_at b10 (Nat.le_refl _) hb11
  have va_11 := va_10.keep hb11
  have vb_11 := vb_10.keep hb11
  have vc_11 := vc_10.keep hb11
  have v3_11 := v3_10.keep hb11
  have v4_11 := v4_10.keep hb11
  have v5_11 := v5_10.keep hb11
  have v6_11 := g10.keep hb11
  go_wp2_with (fail)
  refine (HMPQ.out _ _ _ va_11 vb_11).mono ?_
  rintro e w12 ⟨v7, rfl, g12, hb12⟩
  have b12 := below_at b11 (Nat.le_refl _) hb12
  have va_12 := va_11.keep hb12
  have vb_12 := vb_11.keep hb12
  have vc_12 := vc_11.keep hb12
  go_wp2_with (fail)
  refine (HMQP.out _ _ _ vb_12 va_12).mono ?_
  rintro e w13 ⟨v8, rfl, g13, hb13⟩
  have b13 := below_at b12 (Nat.le_refl _) hb13
  have va_13 := va_12.keep hb13
  have vb_13 := vb_12.keep hb13
  have vc_13 := vc_12.keep hb13
  have v7_13 := g12.keep hb13
  go_wp2_with (fail)
  refine (HS3.out _ _ _ v7_13 g13).mono ?_
  rintro e w14 ⟨rfl, hb14⟩
  have b14 := below_at b13 (Nat.le_refl _) hb14
  have va_14 := va_13.keep hb14
  have vb_14 := vb_13.keep hb14
  have vc_14 := vc_13.keep hb14
  have v7_14 := v7_13.keep hb14
  have v8_14 := g13.keep hb14
  go_wp2_with (fail)
  refine (HMPQ.out _ _ _ va_14 vb_14).mono ?_
  rintro e w15 ⟨v9, rfl, g15, hb15⟩
  have b15 := below_at b14 (Nat.le_refl _) hb15
  have va_15 := va_14.keep hb15
  have vb_15 := vb_14.keep hb15
  have vc_15 := vc_14.keep hb15
  go_wp2_with (fail)
  refine (HMPQR.out _ _ _ g15 vc_15).mono ?_
  rintro e w16 ⟨v10, rfl, g16, hb16⟩
  have b16 := below_at b15 (Nat.le_refl _) hb16
  have va_16 := va_15.keep hb16
  have vb_16 := vb_15.keep hb16
  have vc_16 := vc_15.keep hb16
  have v9_16 := g15.keep hb16
  go_wp2_with (fail)
  refine (HMQR.out _ _ _ vb_16 vc_16).mono ?_
  rintro e w17 ⟨v11, rfl, g17, hb17⟩
  have b17 := below_at b16 (Nat.le_refl _) hb17
  have va_17 := va_16.keep hb17
  have vb_17 := vb_16.keep hb17
  have vc_17 := vc_16.keep hb17
  have v9_17 := v9_16.keep hb17
  have v10_17 := g16.keep hb17
  go_wp2_with (fail)
  refine (HMPQR2.out _ _ _ va_17 g17).mono ?_
  rintro e w18 ⟨v12, rfl, g18, hb18⟩
  have b18 := below_at b17 (Nat.le_refl _) hb18
  have va_18 := va_17.keep hb18
  have vb_18 := vb_17.keep hb18
  have vc_18 := vc_17.keep hb18
  have v9_18 := v9_17.keep hb18
  have v10_18 := v10_17.keep hb18
  have v11_18 := g17.keep hb18
  go_wp2_with (fail)
  refine (HS4.out _ _ _ v10_18 g18).mono ?_
  rintro e w19 ⟨rfl, hb19⟩
  have b19 := below_at b18 (Nat.le_refl _) hb19
  have va_19 := va_18.keep hb19
  have vb_19 := vb_18.keep hb19
  have vc_19 := vc_18.keep hb19
  have v9_19 := v9_18.keep hb19
  have v10_19 := v10_18.keep hb19
  have v11_19 := v11_18.keep hb19
  have v12_19 := g18.keep hb19
  go_wp2_with (fail)
  refine (HAQR.out _ _ _ vb_19 vc_19).mono ?_
  rintro e w20 ⟨v13, rfl, g20, hb20⟩
  have b20 := below_at b19 (Nat.le_refl _) hb20
  have va_20 := va_19.keep hb20
  have vb_20 := vb_19.keep hb20
  have vc_20 := vc_19.keep hb20
  go_wp2_with (fail)
  refine (HMPS.out _ _ _ va_20 g20).mono ?_
  rintro e w21 ⟨v14, rfl, g21, hb21⟩
  have b21 := below_at b20 (Nat.le_refl _) hb21
  have va_21 := va_20.keep hb21
  have vb_21 := vb_20.keep hb21
  have vc_21 := vc_20.keep hb21
  have v13_21 := g20.keep hb21
  go_wp2_with (fail)
  refine (HMPQ.out _ _ _ va_21 vb_21).mono ?_
  rintro e w22 ⟨v15, rfl, g22, hb22⟩
  have b22 := below_at b21 (Nat.le_refl _) hb22
  have va_22 := va_21.keep hb22
  have vb_22 := vb_21.keep hb22
  have vc_22 := vc_21.keep hb22
  have v13_22 := v13_21.keep hb22
  have v14_22 := g21.keep hb22
  go_wp2_with (fail)
  refine (HMPR.out _ _ _ va_22 vc_22).mono ?_
  rintro e w23 ⟨v16, rfl, g23, hb23⟩
  have b23 := below_at b22 (Nat.le_refl _) hb23
  have va_23 := va_22.keep hb23
  have vb_23 := vb_22.keep hb23
  have vc_23 := vc_22.keep hb23
  have v13_23 := v13_22.keep hb23
  have v14_23 := v14_22.keep hb23
  have v15_23 := g22.keep hb23
  go_wp2_with (fail)
  refine (HADD.out _ _ _ v15_23 g23).mono ?_
  rintro e w24 ⟨v17, rfl, g24, hb24⟩
  have b24 := below_at b23 (Nat.le_refl _) hb24
  have va_24 := va_23.keep hb24
  have vb_24 := vb_23.keep hb24
  have vc_24 := vc_23.keep hb24
  have v13_24 := v13_23.keep hb24
  have v14_24 := v14_23.keep hb24
  have v15_24 := v15_23.keep hb24
  have v16_24 := g23.keep hb24
  go_wp2_with (fail)
  refine (HS5.out _ _ _ v14_24 g24).mono ?_
  rintro e w25 ⟨rfl, hb25⟩
  have b25 := below_at b24 (Nat.le_refl _) hb25
  have va_25 := va_24.keep hb25
  have vb_25 := vb_24.keep hb25
  have vc_25 := vc_24.keep hb25
  have v13_25 := v13_24.keep hb25
  have v14_25 := v14_24.keep hb25
  have v15_25 := v15_24.keep hb25
  have v16_25 := v16_24.keep hb25
  have v17_25 := g24.keep hb25
  go_wp2_with (fail)
  refine (HAPQ.out _ _ _ va_25 vb_25).mono ?_
  rintro e w26 ⟨v18, rfl, g26, hb26⟩
  have b26 := below_at b25 (Nat.le_refl _) hb26
  have va_26 := va_25.keep hb26
  have vb_26 := vb_25.keep hb26
  have vc_26 := vc_25.keep hb26
  go_wp2_with (fail)
  refine (HSUB.out _ _ _ g26 vb_26).mono ?_
  rintro e w27 ⟨v19, rfl, g27, hb27⟩
  have b27 := below_at b26 (Nat.le_refl _) hb27
  have va_27 := va_26.keep hb27
  have vb_27 := vb_26.keep hb27
  have vc_27 := vc_26.keep hb27
  have v18_27 := g26.keep hb27
  go_wp2_with (fail)
  refine (HS6.out _ _ _ g27 va_27).mono ?_
  rintro e w28 ⟨rfl, hb28⟩
  have b28 := below_at b27 (Nat.le_refl _) hb28
  have va_28 := va_27.keep hb28
  have vb_28 := vb_27.keep hb28
  have vc_28 := vc_27.keep hb28
  have v18_28 := v18_27.keep hb28
  have v19_28 := g27.keep hb28
  go_wp2_with (fail)
  refine (lives_any _).mono ?_
  rintro e w29 ⟨rfl, hb29⟩
  have b29 := below_at b28 (Nat.le_refl _) hb29
  have va_29 := va_28.keep hb29
  have vb_29 := vb_28.keep hb29
  have vc_29 := vc_28.keep hb29
  go_wp2
  go_ret
  exact ⟨rfl, b29⟩
end Go.Proofs.Ytaegkhdkhgemmaa
