/- Part of the proof of NatCommon: RingW, SquaresW, QuotW, CommW. -/
import Derived.Test.YtaegkhdkhgemmaaPartG
import Derived.Test.YtaegkhdkhgemmaaPartF
namespace Go.Proofs.Ytaegkhdkhgemmaa
open Go.RowKit Num

/-- A number is returned; nothing that was there has turned. -/
def NumRet (w : World) (n : Nat) (e : Ending) (w' : World) : Prop := ∃ v, e = .returned v ∧ N32 w' v n ∧ Below w.heap.size w w'

theorem len_add {m n K : Nat} (hm : (dig B32 m).length ≤ K) (hn : (dig B32 n).length ≤ K) : (dig B32 (m + n)).length ≤ K + 1 := by
  have h1 := Nat.lt_of_lt_of_le (dig_len_lt b32_two (n := m)) (Nat.pow_le_pow_right b32_pos hm)
  have h2 := Nat.lt_of_lt_of_le (dig_len_lt b32_two (n := n)) (Nat.pow_le_pow_right b32_pos hn)
  exact dig_len_le b32_two (two_pow_lt b32_two h1 h2)
theorem len_mul {m n K J : Nat} (hm : (dig B32 m).length ≤ K) (hn : (dig B32 n).length ≤ J) : (dig B32 (m * n)).length ≤ K + J := by
  have h1 := Nat.lt_of_lt_of_le (dig_len_lt b32_two (n := m)) (Nat.pow_le_pow_right b32_pos hm)
  have h2 := Nat.lt_of_lt_of_le (dig_len_lt b32_two (n := n)) (Nat.pow_le_pow_right b32_pos hn)
  refine dig_len_le b32_two ?_
  rw [Nat.pow_add]
  exact Nat.mul_lt_mul_of_lt_of_lt h1 h2

set_option maxHeartbeats 400000 in
theorem add_n (a b : Value) (m n : Nat) (w : World) (ha : N32 w a m) (hb : N32 w b n) (hm : (dig B32 m).length ≤ 1000) (hn : (dig B32 n).length ≤ 1000) : Calls Try.prog 71 #[a, b] w (NumRet w (m + n)) := by
  have h := add_ok a b m n w ha hb (by omega) (by omega) (Nat.le_trans (bits_of_len (len_add hm hn)) (by omega))
  have H := Lib.hid h
  clear h ha hb
  go_enter Try.func71, Try.ntmps71
  go_wp2_with (go_at_call 37; refine H.out.mono ?_; rintro e w1 ⟨v, rfl, hv, hb1⟩)
  go_ret
  exact ⟨_, rfl, hv.is, hb1⟩
set_option maxHeartbeats 400000 in
theorem sub_n (a b : Value) (m n : Nat) (w : World) (ha : N32 w a m) (hb : N32 w b n) (hm : (dig B32 m).length ≤ 1000) (hn : (dig B32 n).length ≤ 1000) (hle : n ≤ m) : Calls Try.prog 73 #[a, b] w (NumRet w (m - n)) := by
  have h := sub_ok a b m n w ha hb (by omega) (by omega) hle
  have H := Lib.hid h
  clear h ha hb hle
  go_enter Try.func73, Try.ntmps73
  go_wp2_with (go_at_call 38; refine H.out.mono ?_; rintro e w1 ⟨v, rfl, hv, hb1⟩)
  go_ret
  exact ⟨_, rfl, hv.is, hb1⟩
set_option maxHeartbeats 400000 in
theorem mul_n (a b : Value) (m n : Nat) (w : World) (ha : N32 w a m) (hb : N32 w b n) (hm : (dig B32 m).length ≤ 1000) (hn : (dig B32 n).length ≤ 1000) (hs : (dig B32 m).length ≤ 158 ∨ (dig B32 n).length ≤ 158) : Calls Try.prog 72 #[a, b] w (NumRet w (m * n)) := by
  have lm := words_le (n := m) (K := 500) hm
  have ln := words_le (n := n) (K := 500) hn
  have hsh : (dig B64 m).length ≤ 79 ∨ (dig B64 n).length ≤ 79 := by
    rcases hs with h | h
    · exact .inl (words_le (K := 79) h)
    · exact .inr (words_le (K := 79) h)
  have h := mul_at (N := 500) a b m n w (mulAt_short (by omega) (by omega) hsh) (by omega) ha hb (by omega) (by omega) (by omega) (by omega) (Nat.le_trans (bits_of_len (len_mul hm hn)) (by omega))
  have H := Lib.hid h
  clear h ha hb hs hsh
  go_enter Try.func72, Try.ntmps72
  go_wp2_with (go_at_call 45; refine H.out.mono ?_; rintro e w1 ⟨v, rfl, hv, hb1⟩)
  go_ret
  exact ⟨_, rfl, hv.is, hb1⟩
set_option maxHeartbeats 400000 in
theorem same_n (a b : Value) (n : Nat) (w : World) (ha : N32 w a n) (hb : N32 w b n) (hl : (dig B32 n).length ≤ 1000) : Calls Try.prog 70 #[a, b] w (LivesPost w) := by
  have hs := same_nums a b _ _ w (Limbs.num ha (by omega)) (Limbs.num hb (by omega))
  rw [decide_eq_true rfl] at hs
  have H := Lib.hid hs
  clear hs ha hb
  go_enter Try.func70, Try.ntmps70
  go_wp2_with (go_at_call 32; refine H.out.mono ?_; rintro e w1 ⟨rfl, hb1⟩)
  go_ret
  exact ⟨rfl, hb1⟩

theorem whole_len {xs : List Nat} (h : Low B32 xs) (n : Nat) : (dig B32 (val B32 (xs.take n))).length ≤ n := by
  refine Nat.le_trans (trim_le b32_two (h.take n)) ?_
  rw [List.length_take]; omega

set_option maxHeartbeats 4000000 in
set_option maxRecDepth 100000 in
/-- The law NatRing, for whatever limbs. -/
theorem ring_walk (A A1 A2 : Option Addr) (c c1 c2 L L1 L2 : Nat) (xs ys zs : List Nat) (w : World) (hA : Nums .u32 w A xs) (hA1 : Nums .u32 w A1 ys) (hA2 : Nums .u32 w A2 zs) (hx : Low B32 xs) (hy : Low B32 ys) (hz : Low B32 zs)
    (hL : L = xs.length) (hL1 : L1 = ys.length) (hL2 : L2 = zs.length) (hc : L ≤ c) (hc1 : L1 ≤ c1) (hc2 : L2 ≤ c2) (hnil : A = none → c = 0) (hnil1 : A1 = none → c1 = 0) (hnil2 : A2 = none → c2 = 0) :
    Calls Try.prog 15 #[.slice A L c, .slice A1 L1 c1, .slice A2 L2 c2] w (LivesPost w) := by
  have hw0 := fun w' (h : Below w.heap.size w w') => whole_any A c L 80 xs w' (hA.keep h) hx hL hc hnil (by omega)
  have hw1 := fun w' (h : Below w.heap.size w w') => whole_any A1 c1 L1 80 ys w' (hA1.keep h) hy hL1 hc1 hnil1 (by omega)
  have hw2 := fun w' (h : Below w.heap.size w w') => whole_any A2 c2 L2 80 zs w' (hA2.keep h) hz hL2 hc2 hnil2 (by omega)
  have lp := whole_len hx 80
  have lq := whole_len hy 80
  have lr := whole_len hz 80
  generalize val B32 (xs.take 80) = p at *
  generalize val B32 (ys.take 80) = q at *
  generalize val B32 (zs.take 80) = r at *
  have lpq := len_add lp lq
  have lqr := len_add lq lr
  have lpqr : (dig B32 (p + q + r)).length ≤ 82 := len_add lpq (Nat.le_trans lr (by omega))
  have mpq := len_mul lp lq
  have mqr := len_mul lq lr
  have mpr := len_mul lp lr
  have mpqr : (dig B32 (p * q * r)).length ≤ 240 := len_mul mpq lr
  have mps := len_mul lp lqr
  have hapq := fun a b w h k => add_n a b p q w h k (by omega) (by omega)
  have haqp := fun a b w h k => add_n a b q p w h k (by omega) (by omega)
  have hapqr := fun a b w h k => add_n a b (p + q) r w h k (by omega) (by omega)
  have haqr := fun a b w h k => add_n a b q r w h k (by omega) (by omega)
  have hapqr2 := fun a b w h k => add_n a b p (q + r) w h k (by omega) (by omega)
  have hmpq := fun a b w h k => mul_n a b p q w h k (by omega) (by omega) (.inl (by omega))
  have hmqp := fun a b w h k => mul_n a b q p w h k (by omega) (by omega) (.inl (by omega))
  have hmpqr := fun a b w h k => mul_n a b (p * q) r w h k (by omega) (by omega) (.inr (by omega))
  have hmqr := fun a b w h k => mul_n a b q r w h k (by omega) (by omega) (.inl (by omega))
  have hmpqr2 := fun a b w h k => mul_n a b p (q * r) w h k (by omega) (by omega) (.inl (by omega))
  have hmps := fun a b w h k => mul_n a b p (q + r) w h k (by omega) (by omega) (.inl (by omega))
  have hmpr := fun a b w h k => mul_n a b p r w h k (by omega) (by omega) (.inl (by omega))
  have hadd := fun a b w h k => add_n a b (p * q) (p * r) w h k (by omega) (by omega)
  have hsub := fun a b w h k => sub_n a b (p + q) q w h k (by omega) (by omega) (by omega)
  have hs1 := fun a b w h k => same_n a b (p + q) w h k (by omega)
  have hs2 := fun a b w h k => same_n a b (p + q + r) w h k (by omega)
  have hs3 := fun a b w h k => same_n a b (p * q) w h k (by omega)
  have hs4 := fun a b w h k => same_n a b (p * q * r) w h k (by omega)
  have hs5 := fun a b w h k => same_n a b (p * (q + r)) w h k (by omega)
  have hs6 := fun a b w h k => same_n a b p w h k (by omega)
  rw [Nat.add_comm q p] at haqp
  rw [← Nat.add_assoc] at hapqr2
  rw [Nat.mul_comm q p] at hmqp
  rw [← Nat.mul_assoc] at hmpqr2
  rw [← Nat.mul_add] at hadd
  rw [Nat.add_sub_cancel] at hsub
  have HW0 := Lib.hid hw0
  have HW1 := Lib.hid hw1
  have HW2 := Lib.hid hw2
  have HAPQ := Lib.hid hapq
  have HAQP := Lib.hid haqp
  have HAPQR := Lib.hid hapqr
  have HAQR := Lib.hid haqr
  have HAPQR2 := Lib.hid hapqr2
  have HMPQ := Lib.hid hmpq
  have HMQP := Lib.hid hmqp
  have HMPQR := Lib.hid hmpqr
  have HMQR := Lib.hid hmqr
  have HMPQR2 := Lib.hid hmpqr2
  have HMPS := Lib.hid hmps
  have HMPR := Lib.hid hmpr
  have HADD := Lib.hid hadd
  have HSUB := Lib.hid hsub
  have HS1 := Lib.hid hs1
  have HS2 := Lib.hid hs2
  have HS3 := Lib.hid hs3
  have HS4 := Lib.hid hs4
  have HS5 := Lib.hid hs5
  have HS6 := Lib.hid hs6
  clear hw0 hw1 hw2 hapq haqp hapqr haqr hapqr2 hmpq hmqp hmpqr hmqr hmpqr2 hmps hmpr hadd hsub hs1 hs2 hs3 hs4 hs5 hs6 lp lq lr lpq lqr lpqr mpq mqr mpr mpqr mps hA hA1 hA2 hx hy hz hL hL1 hL2 hc hc1 hc2 hnil hnil1 hnil2
  go_enter Try.func15, Try.ntmps15
  go_wp2_with (fail)
  refine (HW0.out _ (Below.refl _ _)).mono ?_
  rintro e w1 ⟨va, rfl, g1, hb1⟩
  have b1 := hb1
  go_wp2_with (fail)
  refine (HW1.out _ b1).mono ?_
  rintro e w2 ⟨vb, rfl, g2, hb2⟩
  have b2 := below_at b1 (Nat.le_refl _) hb2
  have va_2 := g1.keep hb2
  go_wp2_with (fail)
  refine (HW2.out _ b2).mono ?_
  rintro e w3 ⟨vc, rfl, g3, hb3⟩
  have b3 := below_at b2 (Nat.le_refl _) hb3
  have va_3 := va_2.keep hb3
  have vb_3 := g2.keep hb3
  go_wp2_with (fail)
  refine (HAPQ.out _ _ _ va_3 vb_3).mono ?_
  rintro e w4 ⟨v1, rfl, g4, hb4⟩
  have b4 := below_at b3 (Nat.le_refl _) hb4
  have va_4 := va_3.keep hb4
  have vb_4 := vb_3.keep hb4
  have vc_4 := g3.keep hb4
  go_wp2_with (fail)
  refine (HAQP.out _ _ _ vb_4 va_4).mono ?_
  rintro e w5 ⟨v2, rfl, g5, hb5⟩
  have b5 := below_at b4 (Nat.le_refl _) hb5
  have va_5 := va_4.keep hb5
  have vb_5 := vb_4.keep hb5
  have vc_5 := vc_4.keep hb5
  have v1_5 := g4.keep hb5
  go_wp2_with (fail)
  refine (HS1.out _ _ _ v1_5 g5).mono ?_
  rintro e w6 ⟨rfl, hb6⟩
  have b6 := below_at b5 (Nat.le_refl _) hb6
  have va_6 := va_5.keep hb6
  have vb_6 := vb_5.keep hb6
  have vc_6 := vc_5.keep hb6
  have v1_6 := v1_5.keep hb6
  have v2_6 := g5.keep hb6
  go_wp2_with (fail)
  refine (HAPQ.out _ _ _ va_6 vb_6).mono ?_
  rintro e w7 ⟨v3, rfl, g7, hb7⟩
  have b7 := below_at b6 (Nat.le_refl _) hb7
  have va_7 := va_6.keep hb7
  have vb_7 := vb_6.keep hb7
  have vc_7 := vc_6.keep hb7
  go_wp2_with (fail)
  refine (HAPQR.out _ _ _ g7 vc_7).mono ?_
  rintro e w8 ⟨v4, rfl, g8, hb8⟩
  have b8 := below_at b7 (Nat.le_refl _) hb8
  have va_8 := va_7.keep hb8
  have vb_8 := vb_7.keep hb8
  have vc_8 := vc_7.keep hb8
  have v3_8 := g7.keep hb8
  go_wp2_with (fail)
  refine (HAQR.out _ _ _ vb_8 vc_8).mono ?_
  rintro e w9 ⟨v5, rfl, g9, hb9⟩
  have b9 := below_at b8 (Nat.le_refl _) hb9
  have va_9 := va_8.keep hb9
  have vb_9 := vb_8.keep hb9
  have vc_9 := vc_8.keep hb9
  have v3_9 := v3_8.keep hb9
  have v4_9 := g8.keep hb9
  go_wp2_with (fail)
  refine (HAPQR2.out _ _ _ va_9 g9).mono ?_
  rintro e w10 ⟨v6, rfl, g10, hb10⟩
  have b10 := below_at b9 (Nat.le_refl _) hb10
  have va_10 := va_9.keep hb10
  have vb_10 := vb_9.keep hb10
  have vc_10 := vc_9.keep hb10
  have v3_10 := v3_9.keep hb10
  have v4_10 := v4_9.keep hb10
  have v5_10 := g9.keep hb10
  go_wp2_with (fail)
  refine (HS2.out _ _ _ v4_10 g10).mono ?_
  rintro e w11 ⟨rfl, hb11⟩
  have b11 := below_at b10 (Nat.le_refl _) hb11
  have va_11 := va_10.keep hb11
  have vb_11 := vb_10.keep hb11
  have vc_11 := vc_10.keep hb11
  have v3_11 := v3_10.keep hb11
  have v4_11 := v4_10.keep hb11
  have v5_11 := v5_10.keep hb11
  have v6_11 := g10.keep hb11
  go_wp2_with (fail)
  refine (HMPQ.out _ _ _ va_11 vb_11).mono ?_
  rintro e w12 ⟨v7, rfl, g12, hb12⟩
  have b12 := below_at b11 (Nat.le_refl _) hb12
  have va_12 := va_11.keep hb12
  have vb_12 := vb_11.keep hb12
  have vc_12 := vc_11.keep hb12
  go_wp2_with (fail)
  refine (HMQP.out _ _ _ vb_12 va_12).mono ?_
  rintro e w13 ⟨v8, rfl, g13, hb13⟩
  have b13 := below_at b12 (Nat.le_refl _) hb13
  have va_13 := va_12.keep hb13
  have vb_13 := vb_12.keep hb13
  have vc_13 := vc_12.keep hb13
  have v7_13 := g12.keep hb13
  go_wp2_with (fail)
  refine (HS3.out _ _ _ v7_13 g13).mono ?_
  rintro e w14 ⟨rfl, hb14⟩
  have b14 := below_at b13 (Nat.le_refl _) hb14
  have va_14 := va_13.keep hb14
  have vb_14 := vb_13.keep hb14
  have vc_14 := vc_13.keep hb14
  have v7_14 := v7_13.keep hb14
  have v8_14 := g13.keep hb14
  go_wp2_with (fail)
  refine (HMPQ.out _ _ _ va_14 vb_14).mono ?_
  rintro e w15 ⟨v9, rfl, g15, hb15⟩
  have b15 := below_at b14 (Nat.le_refl _) hb15
  have va_15 := va_14.keep hb15
  have vb_15 := vb_14.keep hb15
  have vc_15 := vc_14.keep hb15
  go_wp2_with (fail)
  refine (HMPQR.out _ _ _ g15 vc_15).mono ?_
  rintro e w16 ⟨v10, rfl, g16, hb16⟩
  have b16 := below_at b15 (Nat.le_refl _) hb16
  have va_16 := va_15.keep hb16
  have vb_16 := vb_15.keep hb16
  have vc_16 := vc_15.keep hb16
  have v9_16 := g15.keep hb16
  go_wp2_with (fail)
  refine (HMQR.out _ _ _ vb_16 vc_16).mono ?_
  rintro e w17 ⟨v11, rfl, g17, hb17⟩
  have b17 := below_at b16 (Nat.le_refl _) hb17
  have va_17 := va_16.keep hb17
  have vb_17 := vb_16.keep hb17
  have vc_17 := vc_16.keep hb17
  have v9_17 := v9_16.keep hb17
  have v10_17 := g16.keep hb17
  go_wp2_with (fail)
  refine (HMPQR2.out _ _ _ va_17 g17).mono ?_
  rintro e w18 ⟨v12, rfl, g18, hb18⟩
  have b18 := below_at b17 (Nat.le_refl _) hb18
  have va_18 := va_17.keep hb18
  have vb_18 := vb_17.keep hb18
  have vc_18 := vc_17.keep hb18
  have v9_18 := v9_17.keep hb18
  have v10_18 := v10_17.keep hb18
  have v11_18 := g17.keep hb18
  go_wp2_with (fail)
  refine (HS4.out _ _ _ v10_18 g18).mono ?_
  rintro e w19 ⟨rfl, hb19⟩
  have b19 := below_at b18 (Nat.le_refl _) hb19
  have va_19 := va_18.keep hb19
  have vb_19 := vb_18.keep hb19
  have vc_19 := vc_18.keep hb19
  have v9_19 := v9_18.keep hb19
  have v10_19 := v10_18.keep hb19
  have v11_19 := v11_18.keep hb19
  have v12_19 := g18.keep hb19
  go_wp2_with (fail)
  refine (HAQR.out _ _ _ vb_19 vc_19).mono ?_
  rintro e w20 ⟨v13, rfl, g20, hb20⟩
  have b20 := below_at b19 (Nat.le_refl _) hb20
  have va_20 := va_19.keep hb20
  have vb_20 := vb_19.keep hb20
  have vc_20 := vc_19.keep hb20
  go_wp2_with (fail)
  refine (HMPS.out _ _ _ va_20 g20).mono ?_
  rintro e w21 ⟨v14, rfl, g21, hb21⟩
  have b21 := below_at b20 (Nat.le_refl _) hb21
  have va_21 := va_20.keep hb21
  have vb_21 := vb_20.keep hb21
  have vc_21 := vc_20.keep hb21
  have v13_21 := g20.keep hb21
  go_wp2_with (fail)
  refine (HMPQ.out _ _ _ va_21 vb_21).mono ?_
  rintro e w22 ⟨v15, rfl, g22, hb22⟩
  have b22 := below_at b21 (Nat.le_refl _) hb22
  have va_22 := va_21.keep hb22
  have vb_22 := vb_21.keep hb22
  have vc_22 := vc_21.keep hb22
  have v13_22 := v13_21.keep hb22
  have v14_22 := g21.keep hb22
  go_wp2_with (fail)
  refine (HMPR.out _ _ _ va_22 vc_22).mono ?_
  rintro e w23 ⟨v16, rfl, g23, hb23⟩
  have b23 := below_at b22 (Nat.le_refl _) hb23
  have va_23 := va_22.keep hb23
  have vb_23 := vb_22.keep hb23
  have vc_23 := vc_22.keep hb23
  have v13_23 := v13_22.keep hb23
  have v14_23 := v14_22.keep hb23
  have v15_23 := g22.keep hb23
  go_wp2_with (fail)
  refine (HADD.out _ _ _ v15_23 g23).mono ?_
  rintro e w24 ⟨v17, rfl, g24, hb24⟩
  have b24 := below_at b23 (Nat.le_refl _) hb24
  have va_24 := va_23.keep hb24
  have vb_24 := vb_23.keep hb24
  have vc_24 := vc_23.keep hb24
  have v13_24 := v13_23.keep hb24
  have v14_24 := v14_23.keep hb24
  have v15_24 := v15_23.keep hb24
  have v16_24 := g23.keep hb24
  go_wp2_with (fail)
  refine (HS5.out _ _ _ v14_24 g24).mono ?_
  rintro e w25 ⟨rfl, hb25⟩
  have b25 := below_at b24 (Nat.le_refl _) hb25
  have va_25 := va_24.keep hb25
  have vb_25 := vb_24.keep hb25
  have vc_25 := vc_24.keep hb25
  have v13_25 := v13_24.keep hb25
  have v14_25 := v14_24.keep hb25
  have v15_25 := v15_24.keep hb25
  have v16_25 := v16_24.keep hb25
  have v17_25 := g24.keep hb25
  go_wp2_with (fail)
  refine (HAPQ.out _ _ _ va_25 vb_25).mono ?_
  rintro e w26 ⟨v18, rfl, g26, hb26⟩
  have b26 := below_at b25 (Nat.le_refl _) hb26
  have va_26 := va_25.keep hb26
  have vb_26 := vb_25.keep hb26
  have vc_26 := vc_25.keep hb26
  go_wp2_with (fail)
  refine (HSUB.out _ _ _ g26 vb_26).mono ?_
  rintro e w27 ⟨v19, rfl, g27, hb27⟩
  have b27 := below_at b26 (Nat.le_refl _) hb27
  have va_27 := va_26.keep hb27
  have vb_27 := vb_26.keep hb27
  have vc_27 := vc_26.keep hb27
  have v18_27 := g26.keep hb27
  go_wp2_with (fail)
  refine (HS6.out _ _ _ g27 va_27).mono ?_
  rintro e w28 ⟨rfl, hb28⟩
  have b28 := below_at b27 (Nat.le_refl _) hb28
  have va_28 := va_27.keep hb28
  have vb_28 := vb_27.keep hb28
  have vc_28 := vc_27.keep hb28
  have v18_28 := v18_27.keep hb28
  have v19_28 := g27.keep hb28
  go_wp2_with (fail)
  refine (lives_any _).mono ?_
  rintro e w29 ⟨rfl, hb29⟩
  have b29 := below_at b28 (Nat.le_refl _) hb29
  have va_29 := va_28.keep hb29
  have vb_29 := vb_28.keep hb29
  have vc_29 := vc_28.keep hb29
  go_wp2
  go_ret
  exact ⟨rfl, b29⟩
end Go.Proofs.Ytaegkhdkhgemmaa

namespace Go.Proofs.Ytaegkhdkhgemmaa
open Go.RowKit Num

set_option maxHeartbeats 400000 in
theorem mul_l (a b : Value) (m n : Nat) (w : World) (ha : N32 w a m) (hb : N32 w b n) (hm : (dig B32 m).length ≤ 1000) (hn : (dig B32 n).length ≤ 1000) : Calls Try.prog 72 #[a, b] w (NumRet w (m * n)) := by
  have lm := words_le (n := m) (K := 500) hm
  have ln := words_le (n := n) (K := 500) hn
  have h := mul_at (N := 500) a b m n w (mulAt_all (by omega) (by omega)) (by omega) ha hb (by omega) (by omega) (by omega) (by omega) (Nat.le_trans (bits_of_len (len_mul hm hn)) (by omega))
  have H := Lib.hid h
  clear h ha hb
  go_enter Try.func72, Try.ntmps72
  go_wp2_with (go_at_call 45; refine H.out.mono ?_; rintro e w1 ⟨v, rfl, hv, hb1⟩)
  go_ret
  exact ⟨_, rfl, hv.is, hb1⟩
theorem dig32_mono {b m n : Nat} (hb : 2 ≤ b) (h : m ≤ n) : (dig b m).length ≤ (dig b n).length := dig_len_le hb (Nat.lt_of_le_of_lt h (dig_len_lt hb))

set_option maxHeartbeats 4000000 in
set_option maxRecDepth 100000 in
/-- The law NatSquares, for whatever limbs. -/
theorem squares_walk (A A1 : Option Addr) (c c1 L L1 : Nat) (xs ys : List Nat) (w : World) (hA : Nums .u32 w A xs) (hA1 : Nums .u32 w A1 ys) (hx : Low B32 xs) (hy : Low B32 ys)
    (hL : L = xs.length) (hL1 : L1 = ys.length) (hc : L ≤ c) (hc1 : L1 ≤ c1) (hnil : A = none → c = 0) (hnil1 : A1 = none → c1 = 0) :
    Calls Try.prog 16 #[.slice A L c, .slice A1 L1 c1] w (LivesPost w) := by
  have hw0 := fun w' (h : Below w.heap.size w w') => whole_any A c L 400 xs w' (hA.keep h) hx hL hc hnil (by omega)
  have hw1 := fun w' (h : Below w.heap.size w w') => whole_any A1 c1 L1 400 ys w' (hA1.keep h) hy hL1 hc1 hnil1 (by omega)
  have lp := whole_len hx 400
  have lq := whole_len hy 400
  generalize val B32 (xs.take 400) = p at *
  generalize val B32 (ys.take 400) = q at *
  have hcm := fun a b w h k => cmp_ok a b p q w h k (by omega) (by omega)
  obtain ⟨cv, hcv⟩ : ∃ cv, cmpN p q = cv := ⟨_, rfl⟩
  rw [hcv] at hcm
  have hcase : (cv < 0 ∧ p ≤ q) ∨ (¬ cv < 0 ∧ q ≤ p) := by
    rcases Nat.lt_trichotomy p q with h | h | h
    · rw [cmpN_lt h] at hcv; exact .inl ⟨by omega, Nat.le_of_lt h⟩
    · subst h; rw [cmpN_eq] at hcv; exact .inr ⟨by omega, Nat.le_refl _⟩
    · rw [cmpN_gt h] at hcv; exact .inr ⟨by omega, Nat.le_of_lt h⟩
  have HW0 := Lib.hid hw0
  have HW1 := Lib.hid hw1
  have HC := Lib.hid hcm
  clear hw0 hw1 hcm hcv hA hA1 hx hy hL hL1 hc hc1 hnil hnil1
  rcases hcase with ⟨hneg, hle⟩ | ⟨hneg, hle⟩
  · have lmm := len_mul lq lq
    have lnn := len_mul lp lp
    have lad : (dig B32 (q + p)).length ≤ 401 := len_add (by omega) (by omega)
    have lsb : (dig B32 (q - p)).length ≤ 400 := Nat.le_trans (dig32_mono b32_two (Nat.sub_le _ _)) lq
    have lpr := len_mul lad lsb
    have hmm := fun a b w h k => mul_l a b q q w h k (by omega) (by omega)
    have hnn := fun a b w h k => mul_l a b p p w h k (by omega) (by omega)
    have hsq := fun a b w h k => sub_n a b (q * q) (p * p) w h k (by omega) (by omega) (Nat.mul_le_mul hle hle)
    have had := fun a b w h k => add_n a b q p w h k (by omega) (by omega)
    have hsb := fun a b w h k => sub_n a b q p w h k (by omega) (by omega) hle
    have hml := fun a b w h k => mul_l a b (q + p) (q - p) w h k (by omega) (by omega)
    have hsm := fun a b w h k => same_n a b ((q + p) * (q - p)) w h k (by omega)
    rw [Nat.mul_self_sub_mul_self_eq] at hsq
    have HMMM := Lib.hid hmm
    have HM16 := Lib.hid hnn
    have HSQ := Lib.hid hsq
    have HADD := Lib.hid had
    have HSUB := Lib.hid hsb
    have HMUL := Lib.hid hml
    have HSAME := Lib.hid hsm
    clear hmm hnn hsq had hsb hml hsm lmm lnn lad lsb lpr hle lp lq
    go_enter Try.func16, Try.ntmps16
    go_wp2_with (fail)
    refine (HW0.out _ (Below.refl _ _)).mono ?_
    rintro e x1 ⟨va, rfl, g1, hb1⟩
    have b1 := hb1
    go_wp2_with (fail)
    refine (HW1.out _ b1).mono ?_
    rintro e x2 ⟨vb, rfl, g2, hb2⟩
    have b2 := below_at b1 (Nat.le_refl _) hb2
    have va_2 := g1.keep hb2
    go_wp2_with (fail)
    refine (HC.out _ _ _ va_2 g2).mono ?_
    rintro e x3 ⟨rfl, hb3⟩
    have b3 := below_at b2 (Nat.le_refl _) hb3
    have va_3 := va_2.keep hb3
    have vb_3 := g2.keep hb3
    go_wp2_with (fail)
    refine (lives_any _).mono ?_
    rintro e x4 ⟨rfl, hb4⟩
    have b4 := below_at b3 (Nat.le_refl _) hb4
    have kva := va_3.keep hb4
    have kvb := vb_3.keep hb4
    go_wp2_with (fail)
    refine (HMMM.out _ _ _ kvb kvb).mono ?_
    rintro e x5 ⟨u1, rfl, g5, hb5⟩
    have b5 := below_at b4 (Nat.le_refl _) hb5
    have vb_5 := kvb.keep hb5
    have va_5 := kva.keep hb5
    go_wp2_with (fail)
    refine (HM16.out _ _ _ va_5 va_5).mono ?_
    rintro e x6 ⟨u2, rfl, g6, hb6⟩
    have b6 := below_at b5 (Nat.le_refl _) hb6
    have vb_6 := vb_5.keep hb6
    have va_6 := va_5.keep hb6
    have u1_6 := g5.keep hb6
    go_wp2_with (fail)
    refine (HSQ.out _ _ _ u1_6 g6).mono ?_
    rintro e x7 ⟨u3, rfl, g7, hb7⟩
    have b7 := below_at b6 (Nat.le_refl _) hb7
    have vb_7 := vb_6.keep hb7
    have va_7 := va_6.keep hb7
    have u1_7 := u1_6.keep hb7
    have u2_7 := g6.keep hb7
    go_wp2_with (fail)
    refine (HADD.out _ _ _ vb_7 va_7).mono ?_
    rintro e x8 ⟨u4, rfl, g8, hb8⟩
    have b8 := below_at b7 (Nat.le_refl _) hb8
    have vb_8 := vb_7.keep hb8
    have va_8 := va_7.keep hb8
    have u1_8 := u1_7.keep hb8
    have u2_8 := u2_7.keep hb8
    have u3_8 := g7.keep hb8
    go_wp2_with (fail)
    refine (HSUB.out _ _ _ vb_8 va_8).mono ?_
    rintro e x9 ⟨u5, rfl, g9, hb9⟩
    have b9 := below_at b8 (Nat.le_refl _) hb9
    have vb_9 := vb_8.keep hb9
    have va_9 := va_8.keep hb9
    have u1_9 := u1_8.keep hb9
    have u2_9 := u2_8.keep hb9
    have u3_9 := u3_8.keep hb9
    have u4_9 := g8.keep hb9
    go_wp2_with (fail)
    refine (HMUL.out _ _ _ u4_9 g9).mono ?_
    rintro e x10 ⟨u6, rfl, g10, hb10⟩
    have b10 := below_at b9 (Nat.le_refl _) hb10
    have vb_10 := vb_9.keep hb10
    have va_10 := va_9.keep hb10
    have u1_10 := u1_9.keep hb10
    have u2_10 := u2_9.keep hb10
    have u3_10 := u3_9.keep hb10
    have u4_10 := u4_9.keep hb10
    have u5_10 := g9.keep hb10
    go_wp2_with (fail)
    refine (HSAME.out _ _ _ u3_10 g10).mono ?_
    rintro e x11 ⟨rfl, hb11⟩
    have b11 := below_at b10 (Nat.le_refl _) hb11
    go_wp2_with (fail)
    go_ret
    exact ⟨rfl, b11⟩
  · have lmm := len_mul lp lp
    have lnn := len_mul lq lq
    have lad : (dig B32 (p + q)).length ≤ 401 := len_add (by omega) (by omega)
    have lsb : (dig B32 (p - q)).length ≤ 400 := Nat.le_trans (dig32_mono b32_two (Nat.sub_le _ _)) lp
    have lpr := len_mul lad lsb
    have hmm := fun a b w h k => mul_l a b p p w h k (by omega) (by omega)
    have hnn := fun a b w h k => mul_l a b q q w h k (by omega) (by omega)
    have hsq := fun a b w h k => sub_n a b (p * p) (q * q) w h k (by omega) (by omega) (Nat.mul_le_mul hle hle)
    have had := fun a b w h k => add_n a b p q w h k (by omega) (by omega)
    have hsb := fun a b w h k => sub_n a b p q w h k (by omega) (by omega) hle
    have hml := fun a b w h k => mul_l a b (p + q) (p - q) w h k (by omega) (by omega)
    have hsm := fun a b w h k => same_n a b ((p + q) * (p - q)) w h k (by omega)
    rw [Nat.mul_self_sub_mul_self_eq] at hsq
    have HMMM := Lib.hid hmm
    have HM16 := Lib.hid hnn
    have HSQ := Lib.hid hsq
    have HADD := Lib.hid had
    have HSUB := Lib.hid hsb
    have HMUL := Lib.hid hml
    have HSAME := Lib.hid hsm
    clear hmm hnn hsq had hsb hml hsm lmm lnn lad lsb lpr hle lp lq
    go_enter Try.func16, Try.ntmps16
    go_wp2_with (fail)
    refine (HW0.out _ (Below.refl _ _)).mono ?_
    rintro e x1 ⟨va, rfl, g1, hb1⟩
    have b1 := hb1
    go_wp2_with (fail)
    refine (HW1.out _ b1).mono ?_
    rintro e x2 ⟨vb, rfl, g2, hb2⟩
    have b2 := below_at b1 (Nat.le_refl _) hb2
    have va_2 := g1.keep hb2
    go_wp2_with (fail)
    refine (HC.out _ _ _ va_2 g2).mono ?_
    rintro e x3 ⟨rfl, hb3⟩
    have b3 := below_at b2 (Nat.le_refl _) hb3
    have va_3 := va_2.keep hb3
    have vb_3 := g2.keep hb3
    go_wp2_with (fail)
    refine (lives_any _).mono ?_
    rintro e x4 ⟨rfl, hb4⟩
    have b4 := below_at b3 (Nat.le_refl _) hb4
    have kva := va_3.keep hb4
    have kvb := vb_3.keep hb4
    go_wp2_with (fail)
    refine (HMMM.out _ _ _ kva kva).mono ?_
    rintro e x5 ⟨u1, rfl, g5, hb5⟩
    have b5 := below_at b4 (Nat.le_refl _) hb5
    have va_5 := kva.keep hb5
    have vb_5 := kvb.keep hb5
    go_wp2_with (fail)
    refine (HM16.out _ _ _ vb_5 vb_5).mono ?_
    rintro e x6 ⟨u2, rfl, g6, hb6⟩
    have b6 := below_at b5 (Nat.le_refl _) hb6
    have va_6 := va_5.keep hb6
    have vb_6 := vb_5.keep hb6
    have u1_6 := g5.keep hb6
    go_wp2_with (fail)
    refine (HSQ.out _ _ _ u1_6 g6).mono ?_
    rintro e x7 ⟨u3, rfl, g7, hb7⟩
    have b7 := below_at b6 (Nat.le_refl _) hb7
    have va_7 := va_6.keep hb7
    have vb_7 := vb_6.keep hb7
    have u1_7 := u1_6.keep hb7
    have u2_7 := g6.keep hb7
    go_wp2_with (fail)
    refine (HADD.out _ _ _ va_7 vb_7).mono ?_
    rintro e x8 ⟨u4, rfl, g8, hb8⟩
    have b8 := below_at b7 (Nat.le_refl _) hb8
    have va_8 := va_7.keep hb8
    have vb_8 := vb_7.keep hb8
    have u1_8 := u1_7.keep hb8
    have u2_8 := u2_7.keep hb8
    have u3_8 := g7.keep hb8
    go_wp2_with (fail)
    refine (HSUB.out _ _ _ va_8 vb_8).mono ?_
    rintro e x9 ⟨u5, rfl, g9, hb9⟩
    have b9 := below_at b8 (Nat.le_refl _) hb9
    have va_9 := va_8.keep hb9
    have vb_9 := vb_8.keep hb9
    have u1_9 := u1_8.keep hb9
    have u2_9 := u2_8.keep hb9
    have u3_9 := u3_8.keep hb9
    have u4_9 := g8.keep hb9
    go_wp2_with (fail)
    refine (HMUL.out _ _ _ u4_9 g9).mono ?_
    rintro e x10 ⟨u6, rfl, g10, hb10⟩
    have b10 := below_at b9 (Nat.le_refl _) hb10
    have va_10 := va_9.keep hb10
    have vb_10 := vb_9.keep hb10
    have u1_10 := u1_9.keep hb10
    have u2_10 := u2_9.keep hb10
    have u3_10 := u3_9.keep hb10
    have u4_10 := u4_9.keep hb10
    have u5_10 := g9.keep hb10
    go_wp2_with (fail)
    refine (HSAME.out _ _ _ u3_10 g10).mono ?_
    rintro e x11 ⟨rfl, hb11⟩
    have b11 := below_at b10 (Nat.le_refl _) hb11
    go_wp2_with (fail)
    go_ret
    exact ⟨rfl, b11⟩
end Go.Proofs.Ytaegkhdkhgemmaa

namespace Go.Proofs.Ytaegkhdkhgemmaa
open Go.RowKit Num

theorem words_half {n K : Nat} (h : (dig B32 n).length ≤ K) : (dig B64 n).length ≤ (K + 1) / 2 := words_le (by omega)
theorem pos_len {n : Nat} (h : n ≠ 0) : 0 < (dig B32 n).length := by
  rcases Nat.eq_zero_or_pos (dig B32 n).length with h1 | h1
  · exact absurd ((dig_nil_iff b32_two).1 (List.eq_nil_of_length_eq_zero h1)) h
  · exact h1
set_option maxHeartbeats 2000000 in
set_option maxRecDepth 100000 in
theorem quot_zero (A A1 : Option Addr) (c c1 L L1 : Nat) (xs ys : List Nat) (w : World) (hA : Nums .u32 w A xs) (hA1 : Nums .u32 w A1 ys) (hx : Low B32 xs) (hy : Low B32 ys) (hL : L = xs.length) (hL1 : L1 = ys.length) (hc : L ≤ c) (hc1 : L1 ≤ c1) (hnil : A = none → c = 0) (hnil1 : A1 = none → c1 = 0) (hz : val B32 (ys.take 150) = 0) :
    Calls Try.prog 17 #[.slice A L c, .slice A1 L1 c1] w (LivesPost w) := by
  have hw1 := fun w' (h : Below w.heap.size w w') => whole_any A c L 300 xs w' (hA.keep h) hx hL hc hnil (by omega)
  have hw2 := fun w' (h : Below w.heap.size w w') => whole_any A1 c1 L1 150 ys w' (hA1.keep h) hy hL1 hc1 hnil1 (by omega)
  have l1 : (dig B32 (val B32 (xs.take 300))).length ≤ 300 := whole_len hx 300
  have l2 : (dig B32 (val B32 (ys.take 150))).length ≤ 150 := whole_len hy 150
  generalize val B32 (xs.take 300) = m at *
  generalize val B32 (ys.take 150) = n at *
  have hD : (dig B32 n).length = 0 := by rw [hz, dig_zero]; rfl
  have HW1 := Lib.hid hw1
  have HW2 := Lib.hid hw2
  have HD := Lib.hid hD
  clear hw1 hw2 hD
  clear hz
  clear hA hA1 hx hy hL hL1 hnil hnil1 l1 l2
  go_enter Try.func17, Try.ntmps17
  go_wp2_with (fail)
  refine (HW1.out _ (Below.refl _ _)).mono ?_
  rintro e w1 ⟨va, rfl, hva, hb1⟩
  have b1 := below_at (Below.refl _ _) (Nat.le_refl _) hb1
  have ka_1 := hva
  go_wp2_with (fail)
  refine (HW2.out _ b1).mono ?_
  rintro e w2 ⟨vb, rfl, hvb, hb2⟩
  have b2 := below_at b1 (Nat.le_refl _) hb2
  have ka_2 := ka_1.keep hb2
  have kb_2 := hvb
  have kk := kb_2
  obtain ⟨A2, c2, hve, hcc, _⟩ := kk
  rw [HD.out] at hve
  subst hve
  go_wp2_with (fail)
  refine (lives_any _).mono ?_
  rintro e w3 ⟨rfl, hb3⟩
  have b3 := below_at b2 (Nat.le_refl _) hb3
  have ka_3 := ka_2.keep hb3
  have kb_3 := kb_2.keep hb3
  go_wp2
  go_ret
  exact ⟨rfl, b3⟩

set_option maxHeartbeats 2000000 in
set_option maxRecDepth 100000 in
theorem quot_pos (A A1 : Option Addr) (c c1 L L1 : Nat) (xs ys : List Nat) (w : World) (hA : Nums .u32 w A xs) (hA1 : Nums .u32 w A1 ys) (hx : Low B32 xs) (hy : Low B32 ys) (hL : L = xs.length) (hL1 : L1 = ys.length) (hc : L ≤ c) (hc1 : L1 ≤ c1) (hnil : A = none → c = 0) (hnil1 : A1 = none → c1 = 0) (hz : val B32 (ys.take 150) ≠ 0) :
    Calls Try.prog 17 #[.slice A L c, .slice A1 L1 c1] w (LivesPost w) := by
  have hw1 := fun w' (h : Below w.heap.size w w') => whole_any A c L 300 xs w' (hA.keep h) hx hL hc hnil (by omega)
  have hw2 := fun w' (h : Below w.heap.size w w') => whole_any A1 c1 L1 150 ys w' (hA1.keep h) hy hL1 hc1 hnil1 (by omega)
  have l1 : (dig B32 (val B32 (xs.take 300))).length ≤ 300 := whole_len hx 300
  have l2 : (dig B32 (val B32 (ys.take 150))).length ≤ 150 := whole_len hy 150
  generalize val B32 (xs.take 300) = m at *
  generalize val B32 (ys.take 150) = n at *
  have hp := pos_len hz
  have w2 := words_half l2
  have lq : (dig B32 (m / n)).length ≤ 300 := Nat.le_trans (dig32_mono b32_two (Nat.div_le_self _ _)) l1
  have lr : (dig B32 (m % n)).length ≤ 300 := Nat.le_trans (dig32_mono b32_two (Nat.mod_le _ _)) l1
  have e1 : m / n * n + m % n = m := by rw [Nat.mul_comm]; exact Nat.div_add_mod m n
  have lp : (dig B32 (m / n * n)).length ≤ 300 := Nat.le_trans (dig32_mono b32_two (by omega)) l1
  have h47 := fun a b w' (h : N32 w' a m) (k : N32 w' b n) => divMod_ok a b m n w' h k (by omega) (by omega) (by omega) (.inl (by omega))
  have hcq := fun v w' (h : N32 w' v (m / n)) => check_l v _ w' (Limbs.num h (by omega))
  have hcr := fun v w' (h : N32 w' v (m % n)) => check_l v _ w' (Limbs.num h (by omega))
  rw [chk_dig (by omega)] at hcq hcr
  have h39 := fun a b w' (h : N32 w' a (m % n)) (k : N32 w' b n) => cmp_ok a b _ n w' h k (by omega) (by omega)
  rw [cmpN_lt (Nat.mod_lt _ (by omega))] at h39
  have h72 := fun a b w' (h : N32 w' a (m / n)) (k : N32 w' b n) => mul_l a b _ n w' h k (by omega) (by omega)
  have h71 := fun a b w' (h : N32 w' a (m / n * n)) (k : N32 w' b (m % n)) => add_n a b _ _ w' h k (by omega) (by omega)
  rw [e1] at h71
  have h70 := fun a b w' (h : N32 w' a m) (k : N32 w' b m) => same_n a b m w' h k (by omega)
  obtain ⟨D, hD⟩ : ∃ D, (dig B32 n).length = D := ⟨_, rfl⟩
  rw [hD] at hp
  have HW1 := Lib.hid hw1
  have HW2 := Lib.hid hw2
  have H47 := Lib.hid h47
  have HCQ := Lib.hid hcq
  have HCR := Lib.hid hcr
  have H39 := Lib.hid h39
  have H72 := Lib.hid h72
  have H71 := Lib.hid h71
  have H70 := Lib.hid h70
  have HD := Lib.hid hD
  clear hw1 hw2 h47 hcq hcr h39 h72 h71 h70 hD
  clear hz w2 lq lr e1 lp
  clear hA hA1 hx hy hL hL1 hnil hnil1 l1 l2
  go_enter Try.func17, Try.ntmps17
  go_wp2_with (fail)
  refine (HW1.out _ (Below.refl _ _)).mono ?_
  rintro e w1 ⟨va, rfl, hva, hb1⟩
  have b1 := below_at (Below.refl _ _) (Nat.le_refl _) hb1
  have ka_1 := hva
  go_wp2_with (fail)
  refine (HW2.out _ b1).mono ?_
  rintro e w2 ⟨vb, rfl, hvb, hb2⟩
  have b2 := below_at b1 (Nat.le_refl _) hb2
  have ka_2 := ka_1.keep hb2
  have kb_2 := hvb
  have kk := kb_2
  obtain ⟨A2, c2, hve, hcc, _⟩ := kk
  rw [HD.out] at hve
  subst hve
  go_wp2_with (fail)
  refine (H47.out _ _ _ ka_2 kb_2).mono ?_
  rintro e w3 ⟨q, r, rfl, hq, hr, hb3⟩
  have b3 := below_at b2 (Nat.le_refl _) hb3
  have ka_3 := ka_2.keep hb3
  have kb_3 := kb_2.keep hb3
  have kq_3 := hq.is
  have kr_3 := hr.is
  go_wp2_with (fail)
  refine (HCQ.out _ _ kq_3).mono ?_
  rintro e w4 ⟨rfl, rfl⟩
  go_wp2_with (fail)
  refine (HCR.out _ _ kr_3).mono ?_
  rintro e w5 ⟨rfl, rfl⟩
  go_wp2_with (fail)
  refine (H39.out _ _ _ kr_3 kb_3).mono ?_
  rintro e w6 ⟨rfl, hb6⟩
  have b6 := below_at b3 (Nat.le_refl _) hb6
  have ka_6 := ka_3.keep hb6
  have kb_6 := kb_3.keep hb6
  have kq_6 := kq_3.keep hb6
  have kr_6 := kr_3.keep hb6
  go_wp2_with (fail)
  refine (H72.out _ _ _ kq_6 kb_6).mono ?_
  rintro e w7 ⟨vp, rfl, hvp, hb7⟩
  have b7 := below_at b6 (Nat.le_refl _) hb7
  have ka_7 := ka_6.keep hb7
  have kr_7 := kr_6.keep hb7
  have kp_7 := hvp
  go_wp2_with (fail)
  refine (H71.out _ _ _ kp_7 kr_7).mono ?_
  rintro e w8 ⟨vs, rfl, hvs, hb8⟩
  have b8 := below_at b7 (Nat.le_refl _) hb8
  have ka_8 := ka_7.keep hb8
  have ks_8 := hvs
  go_wp2_with (fail)
  refine (H70.out _ _ _ ks_8 ka_8).mono ?_
  rintro e w9 ⟨rfl, hb9⟩
  have b9 := below_at b8 (Nat.le_refl _) hb9
  go_wp2_with (fail)
  refine (lives_any _).mono ?_
  rintro e w10 ⟨rfl, hb10⟩
  have b10 := below_at b9 (Nat.le_refl _) hb10
  go_wp2
  go_ret
  exact ⟨rfl, b10⟩

/-- The law NatQuotient, for whatever limbs. -/
theorem quot_walk (A A1 : Option Addr) (c c1 L L1 : Nat) (xs ys : List Nat) (w : World) (hA : Nums .u32 w A xs) (hA1 : Nums .u32 w A1 ys) (hx : Low B32 xs) (hy : Low B32 ys) (hL : L = xs.length) (hL1 : L1 = ys.length) (hc : L ≤ c) (hc1 : L1 ≤ c1) (hnil : A = none → c = 0) (hnil1 : A1 = none → c1 = 0) : Calls Try.prog 17 #[.slice A L c, .slice A1 L1 c1] w (LivesPost w) := by
  by_cases hz : val B32 (ys.take 150) = 0
  · exact quot_zero A A1 c c1 L L1 xs ys w hA hA1 hx hy hL hL1 hc hc1 hnil hnil1 hz
  · exact quot_pos A A1 c c1 L L1 xs ys w hA hA1 hx hy hL hL1 hc hc1 hnil hnil1 hz

set_option maxHeartbeats 2000000 in
set_option maxRecDepth 100000 in
theorem quotOf_ge (A A1 A2 : Option Addr) (c c1 c2 L L1 L2 : Nat) (xs ys zs : List Nat) (w : World) (hA : Nums .u32 w A xs) (hA1 : Nums .u32 w A1 ys) (hA2 : Nums .u32 w A2 zs) (hx : Low B32 xs) (hy : Low B32 ys) (hzl : Low B32 zs) (hL : L = xs.length) (hL1 : L1 = ys.length) (hL2 : L2 = zs.length) (hc : L ≤ c) (hc1 : L1 ≤ c1) (hc2 : L2 ≤ c2) (hnil : A = none → c = 0) (hnil1 : A1 = none → c1 = 0) (hnil2 : A2 = none → c2 = 0) (hcmp : val B32 (ys.take 100) ≤ val B32 (zs.take 100)) :
    Calls Try.prog 18 #[.slice A L c, .slice A1 L1 c1, .slice A2 L2 c2] w (LivesPost w) := by
  have hw1 := fun w' (h : Below w.heap.size w w') => whole_any A c L 100 xs w' (hA.keep h) hx hL hc hnil (by omega)
  have hw2 := fun w' (h : Below w.heap.size w w') => whole_any A1 c1 L1 100 ys w' (hA1.keep h) hy hL1 hc1 hnil1 (by omega)
  have hw3 := fun w' (h : Below w.heap.size w w') => whole_any A2 c2 L2 100 zs w' (hA2.keep h) hzl hL2 hc2 hnil2 (by omega)
  have l1 : (dig B32 (val B32 (xs.take 100))).length ≤ 100 := whole_len hx 100
  have l2 : (dig B32 (val B32 (ys.take 100))).length ≤ 100 := whole_len hy 100
  have l3 : (dig B32 (val B32 (zs.take 100))).length ≤ 100 := whole_len hzl 100
  generalize val B32 (xs.take 100) = q at *
  generalize val B32 (ys.take 100) = n at *
  generalize val B32 (zs.take 100) = r at *
  have h42 := fun a b w' (h : N32 w' a r) (k : N32 w' b n) => refCmp_call a b r n w' h k (by omega) (by omega)
  have hc0 : 0 ≤ cmpN r n := by
    rcases Nat.lt_or_ge n r with h | h
    · rw [cmpN_gt h]; omega
    · obtain rfl : r = n := by omega
      rw [cmpN_eq]; omega
  generalize cmpN r n = cc at *
  have HW1 := Lib.hid hw1
  have HW2 := Lib.hid hw2
  have HW3 := Lib.hid hw3
  have H42 := Lib.hid h42
  clear hw1 hw2 hw3 h42
  clear hcmp
  clear hA hA1 hA2 hx hy hzl hL hL1 hL2 hnil hnil1 hnil2 l1 l2 l3
  go_enter Try.func18, Try.ntmps18
  go_wp2_with (fail)
  refine (HW1.out _ (Below.refl _ _)).mono ?_
  rintro e w1 ⟨va, rfl, hva, hb1⟩
  have b1 := below_at (Below.refl _ _) (Nat.le_refl _) hb1
  have ka_1 := hva
  go_wp2_with (fail)
  refine (HW2.out _ b1).mono ?_
  rintro e w2 ⟨vb, rfl, hvb, hb2⟩
  have b2 := below_at b1 (Nat.le_refl _) hb2
  have ka_2 := ka_1.keep hb2
  have kb_2 := hvb
  go_wp2_with (fail)
  refine (HW3.out _ b2).mono ?_
  rintro e w3 ⟨vc, rfl, hvc, hb3⟩
  have b3 := below_at b2 (Nat.le_refl _) hb3
  have ka_3 := ka_2.keep hb3
  have kb_3 := kb_2.keep hb3
  have kc_3 := hvc
  go_wp2_with (fail)
  refine (H42.out _ _ _ kc_3 kb_3).mono ?_
  rintro e w4 ⟨rfl, hb4⟩
  have b4 := below_at b3 (Nat.le_refl _) hb4
  have ka_4 := ka_3.keep hb4
  have kb_4 := kb_3.keep hb4
  have kc_4 := kc_3.keep hb4
  go_wp2_with (fail)
  refine (lives_any _).mono ?_
  rintro e w5 ⟨rfl, hb5⟩
  have b5 := below_at b4 (Nat.le_refl _) hb5
  have ka_5 := ka_4.keep hb5
  have kb_5 := kb_4.keep hb5
  have kc_5 := kc_4.keep hb5
  go_wp2
  go_ret
  exact ⟨rfl, b5⟩

set_option maxHeartbeats 2000000 in
set_option maxRecDepth 100000 in
theorem quotOf_lt (A A1 A2 : Option Addr) (c c1 c2 L L1 L2 : Nat) (xs ys zs : List Nat) (w : World) (hA : Nums .u32 w A xs) (hA1 : Nums .u32 w A1 ys) (hA2 : Nums .u32 w A2 zs) (hx : Low B32 xs) (hy : Low B32 ys) (hzl : Low B32 zs) (hL : L = xs.length) (hL1 : L1 = ys.length) (hL2 : L2 = zs.length) (hc : L ≤ c) (hc1 : L1 ≤ c1) (hc2 : L2 ≤ c2) (hnil : A = none → c = 0) (hnil1 : A1 = none → c1 = 0) (hnil2 : A2 = none → c2 = 0) (hcmp : val B32 (zs.take 100) < val B32 (ys.take 100)) :
    Calls Try.prog 18 #[.slice A L c, .slice A1 L1 c1, .slice A2 L2 c2] w (LivesPost w) := by
  have hw1 := fun w' (h : Below w.heap.size w w') => whole_any A c L 100 xs w' (hA.keep h) hx hL hc hnil (by omega)
  have hw2 := fun w' (h : Below w.heap.size w w') => whole_any A1 c1 L1 100 ys w' (hA1.keep h) hy hL1 hc1 hnil1 (by omega)
  have hw3 := fun w' (h : Below w.heap.size w w') => whole_any A2 c2 L2 100 zs w' (hA2.keep h) hzl hL2 hc2 hnil2 (by omega)
  have l1 : (dig B32 (val B32 (xs.take 100))).length ≤ 100 := whole_len hx 100
  have l2 : (dig B32 (val B32 (ys.take 100))).length ≤ 100 := whole_len hy 100
  have l3 : (dig B32 (val B32 (zs.take 100))).length ≤ 100 := whole_len hzl 100
  generalize val B32 (xs.take 100) = q at *
  generalize val B32 (ys.take 100) = n at *
  generalize val B32 (zs.take 100) = r at *
  have h42 := fun a b w' (h : N32 w' a r) (k : N32 w' b n) => refCmp_call a b r n w' h k (by omega) (by omega)
  rw [cmpN_lt hcmp] at h42
  have lp : (dig B32 (q * n)).length ≤ 200 := len_mul l1 l2
  have ls : (dig B32 (q * n + r)).length ≤ 201 := len_add lp (by omega)
  have w2 := words_half l2
  have e1 : (q * n + r) / n = q := by rw [Nat.mul_comm, Nat.mul_add_div (by omega), Nat.div_eq_of_lt hcmp]; rfl
  have e2 : (q * n + r) % n = r := by rw [Nat.mul_comm, Nat.mul_add_mod, Nat.mod_eq_of_lt hcmp]
  have h72 := fun a b w' (h : N32 w' a q) (k : N32 w' b n) => mul_l a b _ n w' h k (by omega) (by omega)
  have h71 := fun a b w' (h : N32 w' a (q * n)) (k : N32 w' b r) => add_n a b _ _ w' h k (by omega) (by omega)
  have h47 := fun a b w' (h : N32 w' a (q * n + r)) (k : N32 w' b n) => divMod_ok a b _ n w' h k (by omega) (by omega) (by omega) (.inl (by omega))
  rw [e1, e2] at h47
  have h70 := fun a b w' (h : N32 w' a q) (k : N32 w' b q) => same_n a b q w' h k (by omega)
  have h70r := fun a b w' (h : N32 w' a r) (k : N32 w' b r) => same_n a b r w' h k (by omega)
  have HW1 := Lib.hid hw1
  have HW2 := Lib.hid hw2
  have HW3 := Lib.hid hw3
  have H42 := Lib.hid h42
  have H72 := Lib.hid h72
  have H71 := Lib.hid h71
  have H47 := Lib.hid h47
  have H70 := Lib.hid h70
  have H70r := Lib.hid h70r
  clear hw1 hw2 hw3 h42 h72 h71 h47 h70 h70r
  clear hcmp lp ls w2 e1 e2
  clear hA hA1 hA2 hx hy hzl hL hL1 hL2 hnil hnil1 hnil2 l1 l2 l3
  go_enter Try.func18, Try.ntmps18
  go_wp2_with (fail)
  refine (HW1.out _ (Below.refl _ _)).mono ?_
  rintro e w1 ⟨va, rfl, hva, hb1⟩
  have b1 := below_at (Below.refl _ _) (Nat.le_refl _) hb1
  have ka_1 := hva
  go_wp2_with (fail)
  refine (HW2.out _ b1).mono ?_
  rintro e w2 ⟨vb, rfl, hvb, hb2⟩
  have b2 := below_at b1 (Nat.le_refl _) hb2
  have ka_2 := ka_1.keep hb2
  have kb_2 := hvb
  go_wp2_with (fail)
  refine (HW3.out _ b2).mono ?_
  rintro e w3 ⟨vc, rfl, hvc, hb3⟩
  have b3 := below_at b2 (Nat.le_refl _) hb3
  have ka_3 := ka_2.keep hb3
  have kb_3 := kb_2.keep hb3
  have kc_3 := hvc
  go_wp2_with (fail)
  refine (H42.out _ _ _ kc_3 kb_3).mono ?_
  rintro e w4 ⟨rfl, hb4⟩
  have b4 := below_at b3 (Nat.le_refl _) hb4
  have ka_4 := ka_3.keep hb4
  have kb_4 := kb_3.keep hb4
  have kc_4 := kc_3.keep hb4
  go_wp2_with (fail)
  refine (H72.out _ _ _ ka_4 kb_4).mono ?_
  rintro e w5 ⟨vp, rfl, hvp, hb5⟩
  have b5 := below_at b4 (Nat.le_refl _) hb5
  have ka_5 := ka_4.keep hb5
  have kb_5 := kb_4.keep hb5
  have kc_5 := kc_4.keep hb5
  have kp_5 := hvp
  go_wp2_with (fail)
  refine (H71.out _ _ _ kp_5 kc_5).mono ?_
  rintro e w6 ⟨vs, rfl, hvs, hb6⟩
  have b6 := below_at b5 (Nat.le_refl _) hb6
  have ka_6 := ka_5.keep hb6
  have kb_6 := kb_5.keep hb6
  have kc_6 := kc_5.keep hb6
  have ks_6 := hvs
  go_wp2_with (fail)
  refine (H47.out _ _ _ ks_6 kb_6).mono ?_
  rintro e w7 ⟨q', r', rfl, hq, hr, hb7⟩
  have b7 := below_at b6 (Nat.le_refl _) hb7
  have ka_7 := ka_6.keep hb7
  have kc_7 := kc_6.keep hb7
  have kq_7 := hq.is
  have kr_7 := hr.is
  go_wp2_with (fail)
  refine (H70.out _ _ _ kq_7 ka_7).mono ?_
  rintro e w8 ⟨rfl, hb8⟩
  have b8 := below_at b7 (Nat.le_refl _) hb8
  have kc_8 := kc_7.keep hb8
  have kr_8 := kr_7.keep hb8
  go_wp2_with (fail)
  refine (H70r.out _ _ _ kr_8 kc_8).mono ?_
  rintro e w9 ⟨rfl, hb9⟩
  have b9 := below_at b8 (Nat.le_refl _) hb9
  go_wp2_with (fail)
  refine (lives_any _).mono ?_
  rintro e w10 ⟨rfl, hb10⟩
  have b10 := below_at b9 (Nat.le_refl _) hb10
  go_wp2
  go_ret
  exact ⟨rfl, b10⟩

/-- The law NatQuotientOf, for whatever limbs. -/
theorem quotOf_walk (A A1 A2 : Option Addr) (c c1 c2 L L1 L2 : Nat) (xs ys zs : List Nat) (w : World) (hA : Nums .u32 w A xs) (hA1 : Nums .u32 w A1 ys) (hA2 : Nums .u32 w A2 zs) (hx : Low B32 xs) (hy : Low B32 ys) (hzl : Low B32 zs) (hL : L = xs.length) (hL1 : L1 = ys.length) (hL2 : L2 = zs.length) (hc : L ≤ c) (hc1 : L1 ≤ c1) (hc2 : L2 ≤ c2) (hnil : A = none → c = 0) (hnil1 : A1 = none → c1 = 0) (hnil2 : A2 = none → c2 = 0) : Calls Try.prog 18 #[.slice A L c, .slice A1 L1 c1, .slice A2 L2 c2] w (LivesPost w) := by
  rcases Nat.lt_or_ge (val B32 (zs.take 100)) (val B32 (ys.take 100)) with h | h
  · exact quotOf_lt A A1 A2 c c1 c2 L L1 L2 xs ys zs w hA hA1 hA2 hx hy hzl hL hL1 hL2 hc hc1 hc2 hnil hnil1 hnil2 h
  · exact quotOf_ge A A1 A2 c c1 c2 L L1 L2 xs ys zs w hA hA1 hA2 hx hy hzl hL hL1 hL2 hc hc1 hc2 hnil hnil1 hnil2 h
end Go.Proofs.Ytaegkhdkhgemmaa

namespace Go.Proofs.Ytaegkhdkhgemmaa
open Go.RowKit Num

theorem lcm_any (m n : Nat) (hm : (dig B32 m).length ≤ 10) (hn : (dig B32 n).length ≤ 10) : ∃ lc, Nat.gcd m n * lc = m * n ∧ (dig B32 lc).length ≤ 20 ∧ ∀ a b w, N32 w a m → N32 w b n → Calls Try.prog 59 #[a, b] w (NatOk w lc) := by
  by_cases h0 : m = 0 ∨ n = 0
  · refine ⟨0, ?_, by rw [dig_zero]; simp, fun a b w ha hb => lcm_zero a b m n w ha hb (by omega) (by omega) h0⟩
    rcases h0 with h | h
    · subst h; simp
    · subst h; simp
  · have hg : Nat.gcd m n ∣ m := Nat.gcd_dvd_left m n
    refine ⟨m / Nat.gcd m n * n, ?_, ?_, fun a b w ha hb => lcm_ok a b m n w ha hb (by omega) (by omega) (by omega) (by omega)⟩
    · rw [← Nat.mul_assoc, Nat.mul_comm (Nat.gcd m n), Nat.div_mul_cancel hg]
    · exact Nat.le_trans (prod_len (Nat.le_trans (len_mono32 (Nat.div_le_self _ _)) hm) hn) (by omega)
theorem len_zero32 : (dig B32 0).length = 0 := by rw [dig_zero]; rfl

set_option maxHeartbeats 4000000 in
set_option maxRecDepth 100000 in
theorem common_zero (A A1 A2 : Option Addr) (c c1 c2 L L1 L2 : Nat) (xs ys zs : List Nat) (w : World) (hA : Nums .u32 w A xs) (hA1 : Nums .u32 w A1 ys) (hA2 : Nums .u32 w A2 zs) (hx : Low B32 xs) (hy : Low B32 ys) (hzl : Low B32 zs) (hL : L = xs.length) (hL1 : L1 = ys.length) (hL2 : L2 = zs.length) (hc : L ≤ c) (hc1 : L1 ≤ c1) (hc2 : L2 ≤ c2) (hnil : A = none → c = 0) (hnil1 : A1 = none → c1 = 0) (hnil2 : A2 = none → c2 = 0) (hz : Nat.gcd (val B32 (xs.take 6) * val B32 (zs.take 4)) (val B32 (ys.take 6) * val B32 (zs.take 4)) = 0) :
    Calls Try.prog 21 #[.slice A L c, .slice A1 L1 c1, .slice A2 L2 c2] w (LivesPost w) := by
  have hw1 := fun w' (h : Below w.heap.size w w') => whole_any A c L 6 xs w' (hA.keep h) hx hL hc hnil (by omega)
  have hw2 := fun w' (h : Below w.heap.size w w') => whole_any A1 c1 L1 6 ys w' (hA1.keep h) hy hL1 hc1 hnil1 (by omega)
  have hw3 := fun w' (h : Below w.heap.size w w') => whole_any A2 c2 L2 4 zs w' (hA2.keep h) hzl hL2 hc2 hnil2 (by omega)
  have l1 : (dig B32 (val B32 (xs.take 6))).length ≤ 6 := whole_len hx 6
  have l2 : (dig B32 (val B32 (ys.take 6))).length ≤ 6 := whole_len hy 6
  have l3 : (dig B32 (val B32 (zs.take 4))).length ≤ 4 := whole_len hzl 4
  generalize val B32 (xs.take 6) = m at *
  generalize val B32 (ys.take 6) = n at *
  generalize val B32 (zs.take 4) = k at *
  have hdv : k ∣ Nat.gcd (m * k) (n * k) := Nat.dvd_gcd (Nat.dvd_mul_left k m) (Nat.dvd_mul_left k n)
  have h72a := fun a b w' (h : N32 w' a m) (j : N32 w' b k) => mul_l a b m k w' h j (by omega) (by omega)
  have h72b := fun a b w' (h : N32 w' a n) (j : N32 w' b k) => mul_l a b n k w' h j (by omega) (by omega)
  have l4 : (dig B32 (m * k)).length ≤ 10 := Nat.le_trans (prod_len l1 l3) (by omega)
  have l5 : (dig B32 (n * k)).length ≤ 10 := Nat.le_trans (prod_len l2 l3) (by omega)
  have hk0 : k = 0 → m * k = 0 := fun h => by rw [h, Nat.mul_zero]
  have hk1 : k = 0 → n * k = 0 := fun h => by rw [h, Nat.mul_zero]
  generalize hP : m * k = P at *
  generalize hQ : n * k = Q at *
  have lg : (dig B32 (Nat.gcd P Q)).length ≤ 10 := by
    rcases Nat.eq_zero_or_pos P with h | h
    · rw [h, Nat.gcd_zero_left]; exact l5
    · exact Nat.le_trans (len_mono32 (Nat.gcd_le_left Q h)) l4
  obtain ⟨lc, e1, l6, h59⟩ := lcm_any P Q l4 l5
  have l7 : (dig B32 (P * Q)).length ≤ 20 := Nat.le_trans (prod_len l4 l5) (by omega)
  have h58 := fun a b w' (h : N32 w' a P) (j : N32 w' b Q) => gcd_ok a b P Q w' h j (by omega) (by omega)
  have hd1 : P % Nat.gcd P Q = 0 := Nat.mod_eq_zero_of_dvd (Nat.gcd_dvd_left P Q)
  have hd2 : Q % Nat.gcd P Q = 0 := Nat.mod_eq_zero_of_dvd (Nat.gcd_dvd_right P Q)
  have hd3 : Nat.gcd P Q % k = 0 := Nat.mod_eq_zero_of_dvd hdv
  have hg0 : Nat.gcd P Q = 0 → P = 0 ∧ Q = 0 := fun h => Nat.gcd_eq_zero_iff.1 h
  have hgk : k = 0 → Nat.gcd P Q = 0 := fun h => by rw [hk0 h, hk1 h, Nat.gcd_zero_left]
  have hz0 := hz
  obtain ⟨hP0, hQ0⟩ := hg0 hz
  generalize Nat.gcd P Q = G at *
  have h72c := fun a b w' (h : N32 w' a G) (j : N32 w' b lc) => mul_l a b G lc w' h j (by omega) (by omega)
  rw [e1] at h72c
  have h72d := fun a b w' (h : N32 w' a P) (j : N32 w' b Q) => mul_l a b P Q w' h j (by omega) (by omega)
  have h70 := fun a b w' (h : N32 w' a (P * Q)) (j : N32 w' b (P * Q)) => same_n a b (P * Q) w' h j (by omega)
  obtain ⟨DP, hDP⟩ : ∃ D, (dig B32 P).length = D := ⟨_, rfl⟩
  obtain ⟨DQ, hDQ⟩ : ∃ D, (dig B32 Q).length = D := ⟨_, rfl⟩
  obtain ⟨DC, hDC⟩ : ∃ D, (dig B32 k).length = D := ⟨_, rfl⟩
  obtain ⟨DG, hDG⟩ : ∃ D, (dig B32 G).length = D := ⟨_, rfl⟩
  have q0 : DP = 0 := by rw [← hDP, hP0]; exact len_zero32
  have q1 : DQ = 0 := by rw [← hDQ, hQ0]; exact len_zero32
  have q2 : DG = 0 := by rw [← hDG, hz]; exact len_zero32
  subst q0 q1 q2
  have HW1 := Lib.hid hw1
  have HW2 := Lib.hid hw2
  have HW3 := Lib.hid hw3
  have H72A := Lib.hid h72a
  have H72B := Lib.hid h72b
  have H72C := Lib.hid h72c
  have H72D := Lib.hid h72d
  have H58 := Lib.hid h58
  have H59 := Lib.hid h59
  have H70 := Lib.hid h70
  have HDP := Lib.hid hDP
  have HDQ := Lib.hid hDQ
  have HDC := Lib.hid hDC
  have HDG := Lib.hid hDG
  clear hw1 hw2 hw3 h72a h72b h72c h72d h58 h59 h70 hDP hDQ hDC hDG
  clear hz hz0 hP0 hQ0
  clear hA hA1 hA2 hx hy hzl hL hL1 hL2 hnil hnil1 hnil2 l1 l2 l3 l4 l5 l6 l7 lg e1 hd1 hd2 hd3 hg0 hgk hk0 hk1 hdv hP hQ
  go_enter Try.func21, Try.ntmps21
  go_wp2_with (fail)
  refine (HW1.out _ (Below.refl _ _)).mono ?_
  rintro e w1 ⟨va, rfl, hva, hb1⟩
  have b1 := below_at (Below.refl _ _) (Nat.le_refl _) hb1
  have ka_1 := hva
  go_wp2_with (fail)
  refine (HW2.out _ b1).mono ?_
  rintro e w2 ⟨vb, rfl, hvb, hb2⟩
  have b2 := below_at b1 (Nat.le_refl _) hb2
  have ka_2 := ka_1.keep hb2
  have kb_2 := hvb
  go_wp2_with (fail)
  refine (HW3.out _ b2).mono ?_
  rintro e w3 ⟨vc, rfl, hvc, hb3⟩
  have b3 := below_at b2 (Nat.le_refl _) hb3
  have ka_3 := ka_2.keep hb3
  have kb_3 := kb_2.keep hb3
  have kc_3 := hvc
  have kk := kc_3
  obtain ⟨A3, c3, hve, hcc, _⟩ := kk
  rw [HDC.out] at hve hcc
  subst hve
  go_wp2_with (fail)
  refine (H72A.out _ _ _ ka_3 kc_3).mono ?_
  rintro e w4 ⟨vp, rfl, hvp, hb4⟩
  have b4 := below_at b3 (Nat.le_refl _) hb4
  have kb_4 := kb_3.keep hb4
  have kc_4 := kc_3.keep hb4
  have kp_4 := hvp
  have kk := kp_4
  obtain ⟨A4, c4, hve, hcc4, _⟩ := kk
  rw [HDP.out] at hve hcc4
  subst hve
  go_wp2_with (fail)
  refine (H72B.out _ _ _ kb_4 kc_4).mono ?_
  rintro e w5 ⟨vq, rfl, hvq, hb5⟩
  have b5 := below_at b4 (Nat.le_refl _) hb5
  have kc_5 := kc_4.keep hb5
  have kp_5 := kp_4.keep hb5
  have kq_5 := hvq
  have kk := kq_5
  obtain ⟨A5, c5, hve, hcc5, _⟩ := kk
  rw [HDQ.out] at hve hcc5
  subst hve
  go_wp2_with (fail)
  refine (H58.out _ _ _ kp_5 kq_5).mono ?_
  rintro e w6 ⟨g, rfl, hg, hb6⟩
  have b6 := below_at b5 (Nat.le_refl _) hb6
  have kc_6 := kc_5.keep hb6
  have kp_6 := kp_5.keep hb6
  have kq_6 := kq_5.keep hb6
  have kg_6 := hg.is
  have kk := kg_6
  obtain ⟨A6, c6, hve, hcc6, _⟩ := kk
  rw [HDG.out] at hve hcc6
  subst hve
  go_wp2_with (fail)
  refine (H59.out _ _ _ kp_6 kq_6).mono ?_
  rintro e w7 ⟨l, rfl, hl, hb7⟩
  have b7 := below_at b6 (Nat.le_refl _) hb7
  have kc_7 := kc_6.keep hb7
  have kp_7 := kp_6.keep hb7
  have kq_7 := kq_6.keep hb7
  have kg_7 := kg_6.keep hb7
  have kl_7 := hl.is
  go_wp2_with (fail)
  refine (H72C.out _ _ _ kg_7 kl_7).mono ?_
  rintro e w8 ⟨v1, rfl, hv1, hb8⟩
  have b8 := below_at b7 (Nat.le_refl _) hb8
  have kc_8 := kc_7.keep hb8
  have kp_8 := kp_7.keep hb8
  have kq_8 := kq_7.keep hb8
  have kg_8 := kg_7.keep hb8
  have k1_8 := hv1
  go_wp2_with (fail)
  refine (H72D.out _ _ _ kp_8 kq_8).mono ?_
  rintro e w9 ⟨v2, rfl, hv2, hb9⟩
  have b9 := below_at b8 (Nat.le_refl _) hb9
  have kc_9 := kc_8.keep hb9
  have kp_9 := kp_8.keep hb9
  have kq_9 := kq_8.keep hb9
  have kg_9 := kg_8.keep hb9
  have k1_9 := k1_8.keep hb9
  have k2_9 := hv2
  go_wp2_with (fail)
  refine (H70.out _ _ _ k1_9 k2_9).mono ?_
  rintro e w10 ⟨rfl, hb10⟩
  have b10 := below_at b9 (Nat.le_refl _) hb10
  have kc_10 := kc_9.keep hb10
  have kp_10 := kp_9.keep hb10
  have kq_10 := kq_9.keep hb10
  have kg_10 := kg_9.keep hb10
  go_wp2_with (fail)
  refine (lives_any _).mono ?_
  rintro e w11 ⟨rfl, hb11⟩
  have b11 := below_at b10 (Nat.le_refl _) hb11
  have kc_11 := kc_10.keep hb11
  have kp_11 := kp_10.keep hb11
  have kq_11 := kq_10.keep hb11
  have kg_11 := kg_10.keep hb11
  go_wp2
  go_ret
  exact ⟨rfl, b11⟩

set_option maxHeartbeats 4000000 in
set_option maxRecDepth 100000 in
theorem common_pos (A A1 A2 : Option Addr) (c c1 c2 L L1 L2 : Nat) (xs ys zs : List Nat) (w : World) (hA : Nums .u32 w A xs) (hA1 : Nums .u32 w A1 ys) (hA2 : Nums .u32 w A2 zs) (hx : Low B32 xs) (hy : Low B32 ys) (hzl : Low B32 zs) (hL : L = xs.length) (hL1 : L1 = ys.length) (hL2 : L2 = zs.length) (hc : L ≤ c) (hc1 : L1 ≤ c1) (hc2 : L2 ≤ c2) (hnil : A = none → c = 0) (hnil1 : A1 = none → c1 = 0) (hnil2 : A2 = none → c2 = 0) (hz : Nat.gcd (val B32 (xs.take 6) * val B32 (zs.take 4)) (val B32 (ys.take 6) * val B32 (zs.take 4)) ≠ 0) :
    Calls Try.prog 21 #[.slice A L c, .slice A1 L1 c1, .slice A2 L2 c2] w (LivesPost w) := by
  have hw1 := fun w' (h : Below w.heap.size w w') => whole_any A c L 6 xs w' (hA.keep h) hx hL hc hnil (by omega)
  have hw2 := fun w' (h : Below w.heap.size w w') => whole_any A1 c1 L1 6 ys w' (hA1.keep h) hy hL1 hc1 hnil1 (by omega)
  have hw3 := fun w' (h : Below w.heap.size w w') => whole_any A2 c2 L2 4 zs w' (hA2.keep h) hzl hL2 hc2 hnil2 (by omega)
  have l1 : (dig B32 (val B32 (xs.take 6))).length ≤ 6 := whole_len hx 6
  have l2 : (dig B32 (val B32 (ys.take 6))).length ≤ 6 := whole_len hy 6
  have l3 : (dig B32 (val B32 (zs.take 4))).length ≤ 4 := whole_len hzl 4
  generalize val B32 (xs.take 6) = m at *
  generalize val B32 (ys.take 6) = n at *
  generalize val B32 (zs.take 4) = k at *
  have hdv : k ∣ Nat.gcd (m * k) (n * k) := Nat.dvd_gcd (Nat.dvd_mul_left k m) (Nat.dvd_mul_left k n)
  have h72a := fun a b w' (h : N32 w' a m) (j : N32 w' b k) => mul_l a b m k w' h j (by omega) (by omega)
  have h72b := fun a b w' (h : N32 w' a n) (j : N32 w' b k) => mul_l a b n k w' h j (by omega) (by omega)
  have l4 : (dig B32 (m * k)).length ≤ 10 := Nat.le_trans (prod_len l1 l3) (by omega)
  have l5 : (dig B32 (n * k)).length ≤ 10 := Nat.le_trans (prod_len l2 l3) (by omega)
  have hk0 : k = 0 → m * k = 0 := fun h => by rw [h, Nat.mul_zero]
  have hk1 : k = 0 → n * k = 0 := fun h => by rw [h, Nat.mul_zero]
  generalize hP : m * k = P at *
  generalize hQ : n * k = Q at *
  have lg : (dig B32 (Nat.gcd P Q)).length ≤ 10 := by
    rcases Nat.eq_zero_or_pos P with h | h
    · rw [h, Nat.gcd_zero_left]; exact l5
    · exact Nat.le_trans (len_mono32 (Nat.gcd_le_left Q h)) l4
  obtain ⟨lc, e1, l6, h59⟩ := lcm_any P Q l4 l5
  have l7 : (dig B32 (P * Q)).length ≤ 20 := Nat.le_trans (prod_len l4 l5) (by omega)
  have h58 := fun a b w' (h : N32 w' a P) (j : N32 w' b Q) => gcd_ok a b P Q w' h j (by omega) (by omega)
  have hd1 : P % Nat.gcd P Q = 0 := Nat.mod_eq_zero_of_dvd (Nat.gcd_dvd_left P Q)
  have hd2 : Q % Nat.gcd P Q = 0 := Nat.mod_eq_zero_of_dvd (Nat.gcd_dvd_right P Q)
  have hd3 : Nat.gcd P Q % k = 0 := Nat.mod_eq_zero_of_dvd hdv
  have hg0 : Nat.gcd P Q = 0 → P = 0 ∧ Q = 0 := fun h => Nat.gcd_eq_zero_iff.1 h
  have hgk : k = 0 → Nat.gcd P Q = 0 := fun h => by rw [hk0 h, hk1 h, Nat.gcd_zero_left]
  have hz0 := hz
  generalize Nat.gcd P Q = G at *
  have h72c := fun a b w' (h : N32 w' a G) (j : N32 w' b lc) => mul_l a b G lc w' h j (by omega) (by omega)
  rw [e1] at h72c
  have h72d := fun a b w' (h : N32 w' a P) (j : N32 w' b Q) => mul_l a b P Q w' h j (by omega) (by omega)
  have h70 := fun a b w' (h : N32 w' a (P * Q)) (j : N32 w' b (P * Q)) => same_n a b (P * Q) w' h j (by omega)
  have wg : (dig B64 G).length ≤ 5 := words_le (by omega)
  have wc : (dig B64 k).length ≤ 5 := words_le (by omega)
  have hkp : 0 < k := by
    rcases Nat.eq_zero_or_pos k with h | h
    · exact absurd (hgk h) hz
    · exact h
  have h47a := fun a b w' (h : N32 w' a P) (j : N32 w' b G) => divMod_ok a b P G w' h j (by omega) (by omega) (by omega) (.inl (by omega))
  have h47b := fun a b w' (h : N32 w' a Q) (j : N32 w' b G) => divMod_ok a b Q G w' h j (by omega) (by omega) (by omega) (.inl (by omega))
  have h47c := fun a b w' (h : N32 w' a G) (j : N32 w' b k) => divMod_ok a b G k w' h j (by omega) (by omega) hkp (.inl (by omega))
  rw [hd1] at h47a
  rw [hd2] at h47b
  rw [hd3] at h47c
  obtain ⟨DP, hDP⟩ : ∃ D, (dig B32 P).length = D := ⟨_, rfl⟩
  obtain ⟨DQ, hDQ⟩ : ∃ D, (dig B32 Q).length = D := ⟨_, rfl⟩
  obtain ⟨DC, hDC⟩ : ∃ D, (dig B32 k).length = D := ⟨_, rfl⟩
  obtain ⟨DG, hDG⟩ : ∃ D, (dig B32 G).length = D := ⟨_, rfl⟩
  have q0 : 0 < DG := by rw [← hDG]; exact dig_len_pos32 (by omega)
  have q1 : 0 < DC := by rw [← hDC]; exact dig_len_pos32 hkp
  have q2 : ((DG : Int) == 0) = false := by simp; omega
  have q3 : ((DC : Int) == 0) = false := by simp; omega
  have HW1 := Lib.hid hw1
  have HW2 := Lib.hid hw2
  have HW3 := Lib.hid hw3
  have H72A := Lib.hid h72a
  have H72B := Lib.hid h72b
  have H72C := Lib.hid h72c
  have H72D := Lib.hid h72d
  have H58 := Lib.hid h58
  have H59 := Lib.hid h59
  have H70 := Lib.hid h70
  have HDP := Lib.hid hDP
  have HDQ := Lib.hid hDQ
  have HDC := Lib.hid hDC
  have HDG := Lib.hid hDG
  have H47A := Lib.hid h47a
  have H47B := Lib.hid h47b
  have H47C := Lib.hid h47c
  clear hw1 hw2 hw3 h72a h72b h72c h72d h58 h59 h70 hDP hDQ hDC hDG h47a h47b h47c
  clear hz hz0 hkp wg wc
  clear hA hA1 hA2 hx hy hzl hL hL1 hL2 hnil hnil1 hnil2 l1 l2 l3 l4 l5 l6 l7 lg e1 hd1 hd2 hd3 hg0 hgk hk0 hk1 hdv hP hQ
  go_enter Try.func21, Try.ntmps21
  go_wp2_with (fail)
  refine (HW1.out _ (Below.refl _ _)).mono ?_
  rintro e w1 ⟨va, rfl, hva, hb1⟩
  have b1 := below_at (Below.refl _ _) (Nat.le_refl _) hb1
  have ka_1 := hva
  go_wp2_with (fail)
  refine (HW2.out _ b1).mono ?_
  rintro e w2 ⟨vb, rfl, hvb, hb2⟩
  have b2 := below_at b1 (Nat.le_refl _) hb2
  have ka_2 := ka_1.keep hb2
  have kb_2 := hvb
  go_wp2_with (fail)
  refine (HW3.out _ b2).mono ?_
  rintro e w3 ⟨vc, rfl, hvc, hb3⟩
  have b3 := below_at b2 (Nat.le_refl _) hb3
  have ka_3 := ka_2.keep hb3
  have kb_3 := kb_2.keep hb3
  have kc_3 := hvc
  have kk := kc_3
  obtain ⟨A3, c3, hve, hcc, _⟩ := kk
  rw [HDC.out] at hve hcc
  subst hve
  go_wp2_with (fail)
  refine (H72A.out _ _ _ ka_3 kc_3).mono ?_
  rintro e w4 ⟨vp, rfl, hvp, hb4⟩
  have b4 := below_at b3 (Nat.le_refl _) hb4
  have kb_4 := kb_3.keep hb4
  have kc_4 := kc_3.keep hb4
  have kp_4 := hvp
  have kk := kp_4
  obtain ⟨A4, c4, hve, hcc4, _⟩ := kk
  rw [HDP.out] at hve hcc4
  subst hve
  go_wp2_with (fail)
  refine (H72B.out _ _ _ kb_4 kc_4).mono ?_
  rintro e w5 ⟨vq, rfl, hvq, hb5⟩
  have b5 := below_at b4 (Nat.le_refl _) hb5
  have kc_5 := kc_4.keep hb5
  have kp_5 := kp_4.keep hb5
  have kq_5 := hvq
  have kk := kq_5
  obtain ⟨A5, c5, hve, hcc5, _⟩ := kk
  rw [HDQ.out] at hve hcc5
  subst hve
  go_wp2_with (fail)
  refine (H58.out _ _ _ kp_5 kq_5).mono ?_
  rintro e w6 ⟨g, rfl, hg, hb6⟩
  have b6 := below_at b5 (Nat.le_refl _) hb6
  have kc_6 := kc_5.keep hb6
  have kp_6 := kp_5.keep hb6
  have kq_6 := kq_5.keep hb6
  have kg_6 := hg.is
  have kk := kg_6
  obtain ⟨A6, c6, hve, hcc6, _⟩ := kk
  rw [HDG.out] at hve hcc6
  subst hve
  go_wp2_with (fail)
  refine (H59.out _ _ _ kp_6 kq_6).mono ?_
  rintro e w7 ⟨l, rfl, hl, hb7⟩
  have b7 := below_at b6 (Nat.le_refl _) hb7
  have kc_7 := kc_6.keep hb7
  have kp_7 := kp_6.keep hb7
  have kq_7 := kq_6.keep hb7
  have kg_7 := kg_6.keep hb7
  have kl_7 := hl.is
  go_wp2_with (fail)
  refine (H72C.out _ _ _ kg_7 kl_7).mono ?_
  rintro e w8 ⟨v1, rfl, hv1, hb8⟩
  have b8 := below_at b7 (Nat.le_refl _) hb8
  have kc_8 := kc_7.keep hb8
  have kp_8 := kp_7.keep hb8
  have kq_8 := kq_7.keep hb8
  have kg_8 := kg_7.keep hb8
  have k1_8 := hv1
  go_wp2_with (fail)
  refine (H72D.out _ _ _ kp_8 kq_8).mono ?_
  rintro e w9 ⟨v2, rfl, hv2, hb9⟩
  have b9 := below_at b8 (Nat.le_refl _) hb9
  have kc_9 := kc_8.keep hb9
  have kp_9 := kp_8.keep hb9
  have kq_9 := kq_8.keep hb9
  have kg_9 := kg_8.keep hb9
  have k1_9 := k1_8.keep hb9
  have k2_9 := hv2
  go_wp2_with (fail)
  refine (H70.out _ _ _ k1_9 k2_9).mono ?_
  rintro e w10 ⟨rfl, hb10⟩
  have b10 := below_at b9 (Nat.le_refl _) hb10
  have kc_10 := kc_9.keep hb10
  have kp_10 := kp_9.keep hb10
  have kq_10 := kq_9.keep hb10
  have kg_10 := kg_9.keep hb10
  go_wp2_with (fail)
  refine (lives_any _).mono ?_
  rintro e w11 ⟨rfl, hb11⟩
  have b11 := below_at b10 (Nat.le_refl _) hb11
  have kc_11 := kc_10.keep hb11
  have kp_11 := kp_10.keep hb11
  have kq_11 := kq_10.keep hb11
  have kg_11 := kg_10.keep hb11
  go_wp2_with (fail)
  refine (H47A.out _ _ _ kp_11 kg_11).mono ?_
  rintro e w12 ⟨q1, r1, rfl, hq1, hr1, hb12⟩
  have b12 := below_at b11 (Nat.le_refl _) hb12
  have kc_12 := kc_11.keep hb12
  have kq_12 := kq_11.keep hb12
  have kg_12 := kg_11.keep hb12
  have kr_12 := hr1.is
  have kk := kr_12
  obtain ⟨A7, c7, hve, _, _⟩ := kk
  rw [len_zero32] at hve
  subst hve
  go_wp2_with (fail)
  refine (H47B.out _ _ _ kq_12 kg_12).mono ?_
  rintro e w13 ⟨q2, r2, rfl, hq2, hr2, hb13⟩
  have b13 := below_at b12 (Nat.le_refl _) hb13
  have kc_13 := kc_12.keep hb13
  have kg_13 := kg_12.keep hb13
  have kr_13 := hr2.is
  have kk := kr_13
  obtain ⟨A8, c8, hve, _, _⟩ := kk
  rw [len_zero32] at hve
  subst hve
  go_wp2_with (fail)
  refine (H47C.out _ _ _ kg_13 kc_13).mono ?_
  rintro e w14 ⟨q3, r3, rfl, hq3, hr3, hb14⟩
  have b14 := below_at b13 (Nat.le_refl _) hb14
  have kr_14 := hr3.is
  have kk := kr_14
  obtain ⟨A9, c9, hve, _, _⟩ := kk
  rw [len_zero32] at hve
  subst hve
  go_wp2
  go_ret
  exact ⟨rfl, b14⟩

/-- The law NatCommon, for whatever limbs. -/
theorem common_walk (A A1 A2 : Option Addr) (c c1 c2 L L1 L2 : Nat) (xs ys zs : List Nat) (w : World) (hA : Nums .u32 w A xs) (hA1 : Nums .u32 w A1 ys) (hA2 : Nums .u32 w A2 zs) (hx : Low B32 xs) (hy : Low B32 ys) (hzl : Low B32 zs) (hL : L = xs.length) (hL1 : L1 = ys.length) (hL2 : L2 = zs.length) (hc : L ≤ c) (hc1 : L1 ≤ c1) (hc2 : L2 ≤ c2) (hnil : A = none → c = 0) (hnil1 : A1 = none → c1 = 0) (hnil2 : A2 = none → c2 = 0) : Calls Try.prog 21 #[.slice A L c, .slice A1 L1 c1, .slice A2 L2 c2] w (LivesPost w) := by
  by_cases hz : Nat.gcd (val B32 (xs.take 6) * val B32 (zs.take 4)) (val B32 (ys.take 6) * val B32 (zs.take 4)) = 0
  · exact common_zero A A1 A2 c c1 c2 L L1 L2 xs ys zs w hA hA1 hA2 hx hy hzl hL hL1 hL2 hc hc1 hc2 hnil hnil1 hnil2 hz
  · exact common_pos A A1 A2 c c1 c2 L L1 L2 xs ys zs w hA hA1 hA2 hx hy hzl hL hL1 hL2 hc hc1 hc2 hnil hnil1 hnil2 hz
end Go.Proofs.Ytaegkhdkhgemmaa
