/- Part of the proof of NatQuotientOf: RingW, KarLaws, KarW, Kara, KarQ, Blk, MulAll, SquaresW, QuotW. -/
import Derived.Test.YtaegkhdkhgemmaaPartE
import Derived.Test.YtaegkhdkhgemmaaPartB
import Derived.Test.YtaegkhdkhgemmaaPartD
import Derived.StillTailTactics
namespace Go.Proofs.Ytaegkhdkhgemmaa
open Go.RowKit Num

/-- A number is returned; nothing that was there has turned. -/
def NumRet (w : World) (n : Nat) (e : Ending) (w' : World) : Prop := ∃ v, e = .returned v ∧ N32 w' v n ∧ Below w.heap.size w w'

theorem len_add {m n K : Nat} (hm : (dig B32 m).length ≤ K) (hn : (dig B32 n).length ≤ K) : (dig B32 (m + n)).length ≤ K + 1 := by
  have h1 := Nat.lt_of_lt_of_le (dig_len_lt b32_two (n := m)) (Nat.pow_le_pow_right b32_pos hm)
  have h2 := Nat.lt_of_lt_of_le (dig_len_lt b32_two (n := n)) (Nat.pow_le_pow_right b32_pos hn)
  exact dig_len_le b32_two (two_pow_lt b32_two h1 h2)
theorem len_mul {m n K J : Nat} (hm : (dig B32 m).length ≤ K) (hn : (dig B32 n).length ≤ J) : (dig B32 (m * n)).length ≤ K + J := by
  have h1 := Nat.lt_of_lt_of_le (dig_len_lt b32_two (n := m)) (Nat.pow_le_pow_right b32_pos hm)
  have h2 := Nat.lt_of_lt_of_le (dig_len_lt b32_two (n := n)) (Nat.pow_le_pow_right b32_pos hn)
  refine dig_len_le b32_two ?_
  rw [Nat.pow_add]
  exact Nat.mul_lt_mul_of_lt_of_lt h1 h2

set_option maxHeartbeats 400000 in
theorem add_n (a b : Value) (m n : Nat) (w : World) (ha : N32 w a m) (hb : N32 w b n) (hm : (dig B32 m).length ≤ 1000) (hn : (dig B32 n).length ≤ 1000) : Calls Try.prog 71 #[a, b] w (NumRet w (m + n)) := by
  have h := add_ok a b m n w ha hb (by omega) (by omega) (Nat.le_trans (bits_of_len (len_add hm hn)) (by omega))
  have H := Lib.hid h
  clear h ha hb
  go_enter Try.func71, Try.ntmps71
  go_wp2_with (go_at_call 37; refine H.out.mono ?_; rintro e w1 ⟨v, rfl, hv, hb1⟩)
  go_ret
  exact ⟨_, rfl, hv.is, hb1⟩
set_option maxHeartbeats 400000 in
theorem sub_n (a b : Value) (m n : Nat) (w : World) (ha : N32 w a m) (hb : N32 w b n) (hm : (dig B32 m).length ≤ 1000) (hn : (dig B32 n).length ≤ 1000) (hle : n ≤ m) : Calls Try.prog 73 #[a, b] w (NumRet w (m - n)) := by
  have h := sub_ok a b m n w ha hb (by omega) (by omega) hle
  have H := Lib.hid h
  clear h ha hb hle
  go_enter Try.func73, Try.ntmps73
  go_wp2_with (go_at_call 38; refine H.out.mono ?_; rintro e w1 ⟨v, rfl, hv, hb1⟩)
  go_ret
  exact ⟨_, rfl, hv.is, hb1⟩
set_option maxHeartbeats 400000 in
theorem mul_n (a b : Value) (m n : Nat) (w : World) (ha : N32 w a m) (hb : N32 w b n) (hm : (dig B32 m).length ≤ 1000) (hn : (dig B32 n).length ≤ 1000) (hs : (dig B32 m).length ≤ 158 ∨ (dig B32 n).length ≤ 158) : Calls Try.prog 72 #[a, b] w (NumRet w (m * n)) := by
  have lm := words_le (n := m) (K := 500) hm
  have ln := words_le (n := n) (K := 500) hn
  have hsh : (dig B64 m).length ≤ 79 ∨ (dig B64 n).length ≤ 79 := by
    rcases hs with h | h
    · exact .inl (words_le (K := 79) h)
    · exact .inr (words_le (K := 79) h)
  have h := mul_at (N := 500) a b m n w (mulAt_short (by omega) (by omega) hsh) (by omega) ha hb (by omega) (by omega) (by omega) (by omega) (Nat.le_trans (bits_of_len (len_mul hm hn)) (by omega))
  have H := Lib.hid h
  clear h ha hb hs hsh
  go_enter Try.func72, Try.ntmps72
  go_wp2_with (go_at_call 45; refine H.out.mono ?_; rintro e w1 ⟨v, rfl, hv, hb1⟩)
  go_ret
  exact ⟨_, rfl, hv.is, hb1⟩
set_option maxHeartbeats 400000 in
theorem same_n (a b : Value) (n : Nat) (w : World) (ha : N32 w a n) (hb : N32 w b n) (hl : (dig B32 n).length ≤ 1000) : Calls Try.prog 70 #[a, b] w (LivesPost w) := by
  have hs := same_nums a b _ _ w (Limbs.num ha (by omega)) (Limbs.num hb (by omega))
  rw [decide_eq_true rfl] at hs
  have H := Lib.hid hs
  clear hs ha hb
  go_enter Try.func70, Try.ntmps70
  go_wp2_with (go_at_call 32; refine H.out.mono ?_; rintro e w1 ⟨rfl, hb1⟩)
  go_ret
  exact ⟨rfl, hb1⟩

theorem whole_len {xs : List Nat} (h : Low B32 xs) (n : Nat) : (dig B32 (val B32 (xs.take n))).length ≤ n := by
  refine Nat.le_trans (trim_le b32_two (h.take n)) ?_
  rw [List.length_take]; omega

set_option maxHeartbeats 4000000 in
set_option maxRecDepth 100000 in
/-- The law NatRing, for whatever limbs. -/
theorem ring_walk (A A1 A2 : Option Addr) (c c1 c2 L L1 L2 : Nat) (xs ys zs : List Nat) (w : World) (hA : Nums .u32 w A xs) (hA1 : Nums .u32 w A1 ys) (hA2 : Nums .u32 w A2 zs) (hx : Low B32 xs) (hy : Low B32 ys) (hz : Low B32 zs)
    (hL : L = xs.length) (hL1 : L1 = ys.length) (hL2 : L2 = zs.length) (hc : L ≤ c) (hc1 : L1 ≤ c1) (hc2 : L2 ≤ c2) (hnil : A = none → c = 0) (hnil1 : A1 = none → c1 = 0) (hnil2 : A2 = none → c2 = 0) :
    Calls Try.prog 15 #[.slice A L c, .slice A1 L1 c1, .slice A2 L2 c2] w (LivesPost w) := by
  have hw0 := fun w' (h : Below w.heap.size w w') => whole_any A c L 80 xs w' (hA.keep h) hx hL hc hnil (by omega)
  have hw1 := fun w' (h : Below w.heap.size w w') => whole_any A1 c1 L1 80 ys w' (hA1.keep h) hy hL1 hc1 hnil1 (by omega)
  have hw2 := fun w' (h : Below w.heap.size w w') => whole_any A2 c2 L2 80 zs w' (hA2.keep h) hz hL2 hc2 hnil2 (by omega)
  have lp := whole_len hx 80
  have lq := whole_len hy 80
  have lr := whole_len hz 80
  generalize val B32 (xs.take 80) = p at *
  generalize val B32 (ys.take 80) = q at *
  generalize val B32 (zs.take 80) = r at *
  have lpq := len_add lp lq
  have lqr := len_add lq lr
  have lpqr : (dig B32 (p + q + r)).length ≤ 82 := len_add lpq (Nat.le_trans lr (by omega))
  have mpq := len_mul lp lq
  have mqr := len_mul lq lr
  have mpr := len_mul lp lr
  have mpqr : (dig B32 (p * q * r)).length ≤ 240 := len_mul mpq lr
  have mps := len_mul lp lqr
  have hapq := fun a b w h k => add_n a b p q w h k (by omega) (by omega)
  have haqp := fun a b w h k => add_n a b q p w h k (by omega) (by omega)
  have hapqr := fun a b w h k => add_n a b (p + q) r w h k (by omega) (by omega)
  have haqr := fun a b w h k => add_n a b q r w h k (by omega) (by omega)
  have hapqr2 := fun a b w h k => add_n a b p (q + r) w h k (by omega) (by omega)
  have hmpq := fun a b w h k => mul_n a b p q w h k (by omega) (by omega) (.inl (by omega))
  have hmqp := fun a b w h k => mul_n a b q p w h k (by omega) (by omega) (.inl (by omega))
  have hmpqr := fun a b w h k => mul_n a b (p * q) r w h k (by omega) (by omega) (.inr (by omega))
  have hmqr := fun a b w h k => mul_n a b q r w h k (by omega) (by omega) (.inl (by omega))
  have hmpqr2 := fun a b w h k => mul_n a b p (q * r) w h k (by omega) (by omega) (.inl (by omega))
  have hmps := fun a b w h k => mul_n a b p (q + r) w h k (by omega) (by omega) (.inl (by omega))
  have hmpr := fun a b w h k => mul_n a b p r w h k (by omega) (by omega) (.inl (by omega))
  have hadd := fun a b w h k => add_n a b (p * q) (p * r) w h k (by omega) (by omega)
  have hsub := fun a b w h k => sub_n a b (p + q) q w h k (by omega) (by omega) (by omega)
  have hs1 := fun a b w h k => same_n a b (p + q) w h k (by omega)
  have hs2 := fun a b w h k => same_n a b (p + q + r) w h k (by omega)
  have hs3 := fun a b w h k => same_n a b (p * q) w h k (by omega)
  have hs4 := fun a b w h k => same_n a b (p * q * r) w h k (by omega)
  have hs5 := fun a b w h k => same_n a b (p * (q + r)) w h k (by omega)
  have hs6 := fun a b w h k => same_n a b p w h k (by omega)
  rw [Nat.add_comm q p] at haqp
  rw [← Nat.add_assoc] at hapqr2
  rw [Nat.mul_comm q p] at hmqp
  rw [← Nat.mul_assoc] at hmpqr2
  rw [← Nat.mul_add] at hadd
  rw [Nat.add_sub_cancel] at hsub
  have HW0 := Lib.hid hw0
  have HW1 := Lib.hid hw1
  have HW2 := Lib.hid hw2
  have HAPQ := Lib.hid hapq
  have HAQP := Lib.hid haqp
  have HAPQR := Lib.hid hapqr
  have HAQR := Lib.hid haqr
  have HAPQR2 := Lib.hid hapqr2
  have HMPQ := Lib.hid hmpq
  have HMQP := Lib.hid hmqp
  have HMPQR := Lib.hid hmpqr
  have HMQR := Lib.hid hmqr
  have HMPQR2 := Lib.hid hmpqr2
  have HMPS := Lib.hid hmps
  have HMPR := Lib.hid hmpr
  have HADD := Lib.hid hadd
  have HSUB := Lib.hid hsub
  have HS1 := Lib.hid hs1
  have HS2 := Lib.hid hs2
  have HS3 := Lib.hid hs3
  have HS4 := Lib.hid hs4
  have HS5 := Lib.hid hs5
  have HS6 := Lib.hid hs6
  clear hw0 hw1 hw2 hapq haqp hapqr haqr hapqr2 hmpq hmqp hmpqr hmqr hmpqr2 hmps hmpr hadd hsub hs1 hs2 hs3 hs4 hs5 hs6 lp lq lr lpq lqr lpqr mpq mqr mpr mpqr mps hA hA1 hA2 hx hy hz hL hL1 hL2 hc hc1 hc2 hnil hnil1 hnil2
  go_enter Try.func15, Try.ntmps15
  go_wp2_with (fail)
  refine (HW0.out _ (Below.refl _ _)).mono ?_
  rintro e w1 ⟨va, rfl, g1, hb1⟩
  have b1 := hb1
  go_wp2_with (fail)
  refine (HW1.out _ b1).mono ?_
  rintro e w2 ⟨vb, rfl, g2, hb2⟩
  have b2 := below_at b1 (Nat.le_refl _) hb2
  have va_2 := g1.keep hb2
  go_wp2_with (fail)
  refine (HW2.out _ b2).mono ?_
  rintro e w3 ⟨vc, rfl, g3, hb3⟩
  have b3 := below_at b2 (Nat.le_refl _) hb3
  have va_3 := va_2.keep hb3
  have vb_3 := g2.keep hb3
  go_wp2_with (fail)
  refine (HAPQ.out _ _ _ va_3 vb_3).mono ?_
  rintro e w4 ⟨v1, rfl, g4, hb4⟩
  have b4 := below_at b3 (Nat.le_refl _) hb4
  have va_4 := va_3.keep hb4
  have vb_4 := vb_3.keep hb4
  have vc_4 := g3.keep hb4
  go_wp2_with (fail)
  refine (HAQP.out _ _ _ vb_4 va_4).mono ?_
  rintro e w5 ⟨v2, rfl, g5, hb5⟩
  have b5 := below_at b4 (Nat.le_refl _) hb5
  have va_5 := va_4.keep hb5
  have vb_5 := vb_4.keep hb5
  have vc_5 := vc_4.keep hb5
  have v1_5 := g4.keep hb5
  go_wp2_with (fail)
  refine (HS1.out _ _ _ v1_5 g5).mono ?_
  rintro e w6 ⟨rfl, hb6⟩
  have b6 := below_at b5 (Nat.le_refl _) hb6
  have va_6 := va_5.keep hb6
  have vb_6 := vb_5.keep hb6
  have vc_6 := vc_5.keep hb6
  have v1_6 := v1_5.keep hb6
  have v2_6 := g5.keep hb6
  go_wp2_with (fail)
  refine (HAPQ.out _ _ _ va_6 vb_6).mono ?_
  rintro e w7 ⟨v3, rfl, g7, hb7⟩
  have b7 := below_at b6 (Nat.le_refl _) hb7
  have va_7 := va_6.keep hb7
  have vb_7 := vb_6.keep hb7
  have vc_7 := vc_6.keep hb7
  go_wp2_with (fail)
  refine (HAPQR.out _ _ _ g7 vc_7).mono ?_
  rintro e w8 ⟨v4, rfl, g8, hb8⟩
  have b8 := below_at b7 (Nat.le_refl _) hb8
  have va_8 := va_7.keep hb8
  have vb_8 := vb_7.keep hb8
  have vc_8 := vc_7.keep hb8
  have v3_8 := g7.keep hb8
  go_wp2_with (fail)
  refine (HAQR.out _ _ _ vb_8 vc_8).mono ?_
  rintro e w9 ⟨v5, rfl, g9, hb9⟩
  have b9 := below_at b8 (Nat.le_refl _) hb9
  have va_9 := va_8.keep hb9
  have vb_9 := vb_8.keep hb9
  have vc_9 := vc_8.keep hb9
  have v3_9 := v3_8.keep hb9
  have v4_9 := g8.keep hb9
  go_wp2_with (fail)
  refine (HAPQR2.out _ _ _ va_9 g9).mono ?_
  rintro e w10 ⟨v6, rfl, g10, hb10⟩
  have b10 := below_at b9 (Nat.le_refl _) hb10
  have va_10 := va_9.keep hb10
  have vb_10 := vb_9.keep hb10
  have vc_10 := vc_9.keep hb10
  have v3_10 := v3_9.keep hb10
  have v4_10 := v4_9.keep hb10
  have v5_10 := g9.keep hb10
  go_wp2_with (fail)
  refine (HS2.out _ _ _ v4_10 g10).mono ?_
  rintro e w11 ⟨rfl, hb11⟩
  have b11 := below_at b10 (Nat.le_refl _) hb11
  have va_11 := va_10.keep hb11
  have vb_11 := vb_10.keep hb11
  have vc_11 := vc_10.keep hb11
  have v3_11 := v3_10.keep hb11
  have v4_11 := v4_10.keep hb11
  have v5_11 := v5_10.keep hb11
  have v6_11 := g10.keep hb11
  go_wp2_with (fail)
  refine (HMPQ.out _ _ _ va_11 vb_11).mono ?_
  rintro e w12 ⟨v7, rfl, g12, hb12⟩
  have b12 := below_at b11 (Nat.le_refl _) hb12
  have va_12 := va_11.keep hb12
  have vb_12 := vb_11.keep hb12
  have vc_12 := vc_11.keep hb12
  go_wp2_with (fail)
  refine (HMQP.out _ _ _ vb_12 va_12).mono ?_
  rintro e w13 ⟨v8, rfl, g13, hb13⟩
  have b13 := below_at b12 (Nat.le_refl _) hb13
  have va_13 := va_12.keep hb13
  have vb_13 := vb_12.keep hb13
  have vc_13 := vc_12.keep hb13
  have v7_13 := g12.keep hb13
  go_wp2_with (fail)
  refine (HS3.out _ _ _ v7_13 g13).mono ?_
  rintro e w14 ⟨rfl, hb14⟩
  have b14 := below_at b13 (Nat.le_refl _) hb14
  have va_14 := va_13.keep hb14
  have vb_14 := vb_13.keep hb14
  have vc_14 := vc_13.keep hb14
  have v7_14 := v7_13.keep hb14
  have v8_14 := g13.keep hb14
  go_wp2_with (fail)
  refine (HMPQ.out _ _ _ va_14 vb_14).mono ?_
  rintro e w15 ⟨v9, rfl, g15, hb15⟩
  have b15 := below_at b14 (Nat.le_refl _) hb15
  have va_15 := va_14.keep hb15
  have vb_15 := vb_14.keep hb15
  have vc_15 := vc_14.keep hb15
  go_wp2_with (fail)
  refine (HMPQR.out _ _ _ g15 vc_15).mono ?_
  rintro e w16 ⟨v10, rfl, g16, hb16⟩
  have b16 := below_at b15 (Nat.le_refl _) hb16
  have va_16 := va_15.keep hb16
  have vb_16 := vb_15.keep hb16
  have vc_16 := vc_15.keep hb16
  have v9_16 := g15.keep hb16
  go_wp2_with (fail)
  refine (HMQR.out _ _ _ vb_16 vc_16).mono ?_
  rintro e w17 ⟨v11, rfl, g17, hb17⟩
  have b17 := below_at b16 (Nat.le_refl _) hb17
  have va_17 := va_16.keep hb17
  have vb_17 := vb_16.keep hb17
  have vc_17 := vc_16.keep hb17
  have v9_17 := v9_16.keep hb17
  have v10_17 := g16.keep hb17
  go_wp2_with (fail)
  refine (HMPQR2.out _ _ _ va_17 g17).mono ?_
  rintro e w18 ⟨v12, rfl, g18, hb18⟩
  have b18 := below_at b17 (Nat.le_refl _) hb18
  have va_18 := va_17.keep hb18
  have vb_18 := vb_17.keep hb18
  have vc_18 := vc_17.keep hb18
  have v9_18 := v9_17.keep hb18
  have v10_18 := v10_17.keep hb18
  have v11_18 := g17.keep hb18
  go_wp2_with (fail)
  refine (HS4.out _ _ _ v10_18 g18).mono ?_
  rintro e w19 ⟨rfl, hb19⟩
  have b19 := below_at b18 (Nat.le_refl _) hb19
  have va_19 := va_18.keep hb19
  have vb_19 := vb_18.keep hb19
  have vc_19 := vc_18.keep hb19
  have v9_19 := v9_18.keep hb19
  have v10_19 := v10_18.keep hb19
  have v11_19 := v11_18.keep hb19
  have v12_19 := g18.keep hb19
  go_wp2_with (fail)
  refine (HAQR.out _ _ _ vb_19 vc_19).mono ?_
  rintro e w20 ⟨v13, rfl, g20, hb20⟩
  have b20 := below_at b19 (Nat.le_refl _) hb20
  have va_20 := va_19.keep hb20
  have vb_20 := vb_19.keep hb20
  have vc_20 := vc_19.keep hb20
  go_wp2_with (fail)
  refine (HMPS.out _ _ _ va_20 g20).mono ?_
  rintro e w21 ⟨v14, rfl, g21, hb21⟩
  have b21 := below_at b20 (Nat.le_refl _) hb21
  have va_21 := va_20.keep hb21
  have vb_21 := vb_20.keep hb21
  have vc_21 := vc_20.keep hb21
  have v13_21 := g20.keep hb21
  go_wp2_with (fail)
  refine (HMPQ.out _ _ _ va_21 vb_21).mono ?_
  rintro e w22 ⟨v15, rfl, g22, hb22⟩
  have b22 := below_at b21 (Nat.le_refl _) hb22
  have va_22 := va_21.keep hb22
  have vb_22 := vb_21.keep hb22
  have vc_22 := vc_21.keep hb22
  have v13_22 := v13_21.keep hb22
  have v14_22 := g21.keep hb22
  go_wp2_with (fail)
  refine (HMPR.out _ _ _ va_22 vc_22).mono ?_
  rintro e w23 ⟨v16, rfl, g23, hb23⟩
  have b23 := below_at b22 (Nat.le_refl _) hb23
  have va_23 := va_22.keep hb23
  have vb_23 := vb_22.keep hb23
  have vc_23 := vc_22.keep hb23
  have v13_23 := v13_22.keep hb23
  have v14_23 := v14_22.keep hb23
  have v15_23 := g22.keep hb23
  go_wp2_with (fail)
  refine (HADD.out _ _ _ v15_23 g23).mono ?_
  rintro e w24 ⟨v17, rfl, g24, hb24⟩
  have b24 := below_at b23 (Nat.le_refl _) hb24
  have va_24 := va_23.keep hb24
  have vb_24 := vb_23.keep hb24
  have vc_24 := vc_23.keep hb24
  have v13_24 := v13_23.keep hb24
  have v14_24 := v14_23.keep hb24
  have v15_24 := v15_23.keep hb24
  have v16_24 := g23.keep hb24
  go_wp2_with (fail)
  refine (HS5.out _ _ _ v14_24 g24).mono ?_
  rintro e w25 ⟨rfl, hb25⟩
  have b25 := below_at b24 (Nat.le_refl _) hb25
  have va_25 := va_24.keep hb25
  have vb_25 := vb_24.keep hb25
  have vc_25 := vc_24.keep hb25
  have v13_25 := v13_24.keep hb25
  have v14_25 := v14_24.keep hb25
  have v15_25 := v15_24.keep hb25
  have v16_25 := v16_24.keep hb25
  have v17_25 := g24.keep hb25
  go_wp2_with (fail)
  refine (HAPQ.out _ _ _ va_25 vb_25).mono ?_
  rintro e w26 ⟨v18, rfl, g26, hb26⟩
  have b26 := below_at b25 (Nat.le_refl _) hb26
  have va_26 := va_25.keep hb26
  have vb_26 := vb_25.keep hb26
  have vc_26 := vc_25.keep hb26
  go_wp2_with (fail)
  refine (HSUB.out _ _ _ g26 vb_26).mono ?_
  rintro e w27 ⟨v19, rfl, g27, hb27⟩
  have b27 := below_at b26 (Nat.le_refl _) hb27
  have va_27 := va_26.keep hb27
  have vb_27 := vb_26.keep hb27
  have vc_27 := vc_26.keep hb27
  have v18_27 := g26.keep hb27
  go_wp2_with (fail)
  refine (HS6.out _ _ _ g27 va_27).mono ?_
  rintro e w28 ⟨rfl, hb28⟩
  have b28 := below_at b27 (Nat.le_refl _) hb28
  have va_28 := va_27.keep hb28
  have vb_28 := vb_27.keep hb28
  have vc_28 := vc_27.keep hb28
  have v18_28 := v18_27.keep hb28
  have v19_28 := g27.keep hb28
  go_wp2_with (fail)
  refine (lives_any _).mono ?_
  rintro e w29 ⟨rfl, hb29⟩
  have b29 := below_at b28 (Nat.le_refl _) hb29
  have va_29 := va_28.keep hb29
  have vb_29 := vb_28.keep hb29
  have vc_29 := vc_28.keep hb29
  go_wp2
  go_ret
  exact ⟨rfl, b29⟩
end Go.Proofs.Ytaegkhdkhgemmaa

/- Plain laws: the two halves of a number, and Karatsuba's three products. -/
namespace Go.Proofs.Num
theorem dig_drop {b : Nat} (hb : 2 ≤ b) (n k : Nat) : (dig b n).drop k = dig b (n / b ^ k) := by
  induction k generalizing n with
  | zero => simp
  | succ k ih =>
    by_cases hn : n = 0
    · subst hn; simp [dig_zero]
    · rw [dig_pos hb hn, List.drop_succ_cons, ih, Nat.div_div_eq_div_mul, Nat.pow_succ, Nat.mul_comm]
theorem val_take_dig {b : Nat} (hb : 2 ≤ b) (n k : Nat) (hk : k ≤ (dig b n).length) : val b ((dig b n).take k) = n % b ^ k := by
  have h1 := val_take_drop b (dig b n) k hk
  rw [val_dig hb, dig_drop hb, val_dig hb] at h1
  have h2 := val_lt b _ ((low_dig hb n).take k)
  rw [List.length_take, Nat.min_eq_left hk] at h2
  have h3 := Nat.mod_add_div n (b ^ k)
  omega
theorem dig_len_mod {b : Nat} (hb : 2 ≤ b) (n k : Nat) : (dig b (n % b ^ k)).length ≤ k := dig_len_le hb (Nat.mod_lt _ (Nat.pow_pos (by omega)))
theorem dig_len_div {b : Nat} (hb : 2 ≤ b) (n k : Nat) : (dig b (n / b ^ k)).length = (dig b n).length - k := by rw [← dig_drop hb, List.length_drop]
/-- The middle product, without the two others. -/
theorem kara_mid (m0 m1 n0 n1 : Nat) : (m0 + m1) * (n0 + n1) - m0 * n0 - m1 * n1 = m0 * n1 + m1 * n0 ∧ m0 * n0 ≤ (m0 + m1) * (n0 + n1) ∧ m1 * n1 ≤ (m0 + m1) * (n0 + n1) - m0 * n0 := by
  have e : (m0 + m1) * (n0 + n1) = m0 * n0 + m0 * n1 + m1 * n0 + m1 * n1 := by grind
  rw [e]
  omega
theorem kara_sum (m0 m1 n0 n1 x : Nat) : (m0 + x * m1) * (n0 + x * n1) = m0 * n0 + x * x * (m1 * n1) + x * (m0 * n1 + m1 * n0) := by grind
end Go.Proofs.Num
namespace Go.Proofs.Num
theorem val_lay_add {b : Nat} {zs ys : List Nat} {off : Nat} (h : off + ys.length ≤ zs.length) (hz : ∀ (i v : Nat), off ≤ i → i < off + ys.length → zs[i]? = some v → v = 0) :
    val b (zs.take off ++ (ys ++ zs.drop (off + ys.length))) = val b zs + b ^ off * val b ys := by
  have e1 := val_take_drop b zs off (by omega)
  have e2 := val_take_drop b (zs.drop off) ys.length (by rw [List.length_drop]; omega)
  have e3 : val b ((zs.drop off).take ys.length) = 0 := val_zero fun i v hv => by
    have := seg_get? zs off ys.length i
    unfold seg at this
    rw [this] at hv
    split at hv
    · exact hz _ v (by omega) (by omega) hv
    · cases hv
  rw [e3, List.drop_drop] at e2
  rw [val_append, val_append, List.length_take, Nat.min_eq_left (by omega), e1, e2]
  grind
/-- What addTo leaves of a whole number, when nothing is carried out of it. -/
theorem AddSt.whole {b : Nat} {zs xs zs' : List Nat} {off n c N : Nat} (h : AddSt b zs xs off n zs' c) (hn : off + n = zs.length) (hx : xs.length ≤ n) (hN : val b zs + b ^ off * val b xs = N) (hlt : N < b ^ zs.length) : val b zs' = N := by
  have e := h.eq
  rw [List.take_of_length_le hx] at e
  have l := h.len
  have e1 := val_split (b := b) (zs := zs) (i := off) (j := n) (r := 0) (by omega)
  have e2 := val_split (b := b) (zs := zs') (i := off) (j := n) (r := 0) (by omega)
  have e3 : seg zs' 0 off = seg zs 0 off := seg_congr fun i _ h2 => h.far i (by omega)
  have z1 : val b (seg zs (off + n) 0) = 0 := by rw [seg_zero]; rfl
  have z2 : val b (seg zs' (off + n) 0) = 0 := by rw [seg_zero]; rfl
  rw [z1] at e1
  rw [z2, e3] at e2
  have e4 : val b zs' + b ^ zs.length * c = N := by
    rw [← hN, ← hn, Nat.pow_add]
    clear h hlt hN z1 z2 e3 l
    grind
  have h0 : c = 0 := by
    rcases Nat.eq_zero_or_pos c with h | h
    · exact h
    · have : b ^ zs.length * 1 ≤ b ^ zs.length * c := Nat.mul_le_mul_left _ h
      omega
  subst h0
  simpa using e4
end Go.Proofs.Num

namespace Go.Proofs.Ytaegkhdkhgemmaa
open Go.RowKit Num

/-- The first len words of row g make n. -/
structure RawAt (w : World) (g : Nat) (zs : List Nat) (len n : Nat) : Prop where
  row : Row .u64 24 w g zs
  low : Low B64 zs
  le : len ≤ zs.length
  eq : val B64 (seg zs 0 len) = n

theorem subFrom_raw (g len c n m : Nat) (zs : List Nat) (x : Value) (w0 w : World) (hz : RawAt w g zs len m) (hx : W64 w0 x n) (hb : Below w0.heap.size w0 w) (hg : w0.heap.size ≤ g) (hle : n ≤ m) (hbig : len ≤ 1000000000000) :
    Calls Try.prog 109 #[.slice (some ⟨g, 0, none⟩) len c, x] w fun e w' => ∃ zs', e = .returned (.tuple #[]) ∧ RawAt w' g zs' len (m - n) ∧ zs'.length = zs.length ∧ w.grownBy w' (some g) := by
  obtain ⟨A, d, rfl, _, hA⟩ := hx
  have hm : m < B64 ^ len := by
    have := val_lt B64 _ (seg_low hz.low 0 len)
    rw [seg_len (by have := hz.le; omega), hz.eq] at this
    exact this
  have hl : (dig B64 n).length ≤ len := dig_len_le b64_two (by omega)
  refine (subFrom_any g 0 len c d _ zs (dig B64 n) A w hz.row hz.low (by have := hz.le; omega) (hA.keep hb) (dig_low64 n) (nums_ne hA hg) rfl hl hbig).mono ?_
  rintro e w' ⟨zs', cy, rfl, hst, hr, hgr⟩
  have e := hst.eq
  rw [List.take_of_length_le hl, val_dig b64_two, hz.eq] at e
  have h1 := val_lt B64 _ (seg_low hst.low 0 len)
  rw [seg_len (by have := hz.le; have := hst.len; omega)] at h1
  have h0 : cy = 0 := by
    rcases Nat.eq_zero_or_pos cy with h | h
    · exact h
    · have : B64 ^ len * 1 ≤ B64 ^ len * cy := Nat.mul_le_mul_left _ h
      omega
  subst h0
  exact ⟨zs', rfl, ⟨hr, hst.low, by rw [hst.len]; exact hz.le, by simp at e; omega⟩, hst.len, hgr⟩

/-- The low half, trimmed. -/
theorem low_half (A : Option Addr) (c n h : Nat) (w : World) (hA : Nums .u64 w A (dig B64 n)) (hh : h ≤ (dig B64 n).length) (hc : (dig B64 n).length ≤ c) (hbig : h ≤ 1000000000000) :
    Calls Try.prog 78 #[.slice A h c] w fun e w' => e = .returned (.slice A (dig B64 (n % B64 ^ h)).length c) ∧ w = w' := by
  have := trim_any A c h ((dig B64 n).take h) w (hA.take h) ((dig_low64 n).take h) (by rw [List.length_take]; omega) (by omega) hbig
  rw [val_take_dig b64_two n h hh] at this
  exact this
theorem low_is (A : Option Addr) (c n h : Nat) (w : World) (hA : Nums .u64 w A (dig B64 n)) (hh : h ≤ (dig B64 n).length) (hc : (dig B64 n).length ≤ c) : W64 w (.slice A (dig B64 (n % B64 ^ h)).length c) (n % B64 ^ h) := by
  have h1 := trim_take b64_two ((dig_low64 n).take h)
  have h2 := dig_len_mod b64_two n h
  rw [val_take_dig b64_two n h hh] at h1
  refine ⟨A, c, rfl, by omega, ?_⟩
  have := (hA.take h).take (dig B64 (n % B64 ^ h)).length
  rw [h1] at this
  exact this
/-- The high half. -/
theorem high_is (g off c n h : Nat) (w : World) (hA : Nums .u64 w (some ⟨g, off, none⟩) (dig B64 n)) (hc : (dig B64 n).length ≤ c) : W64 w (.slice (some ⟨g, off + h, none⟩) ((dig B64 n).length - h) (c - h)) (n / B64 ^ h) := by
  refine ⟨_, _, by rw [dig_len_div b64_two], by rw [dig_len_div b64_two]; omega, fun hp => ?_⟩
  rw [dig_len_div b64_two] at hp
  obtain ⟨g', off', e, hg, hcell⟩ := hA (by omega)
  injection e with e
  injection e with e1 e2 e3
  subst e1 e2
  refine ⟨g, off + h, rfl, hg, fun i v hv => ?_⟩
  rw [← dig_drop b64_two, List.getElem?_drop] at hv
  have := hcell (h + i) v hv
  rw [← Nat.add_assoc] at this
  exact this
end Go.Proofs.Ytaegkhdkhgemmaa

namespace Go.Proofs.Ytaegkhdkhgemmaa
open Go.RowKit Num

theorem lt_of_wlen {n k : Nat} (h : (dig B64 n).length ≤ k) : n < B64 ^ k := Nat.lt_of_lt_of_le (dig_len_lt b64_two) (Nat.pow_le_pow_right b64_pos h)
theorem wlen_add {m n K : Nat} (hm : (dig B64 m).length ≤ K) (hn : (dig B64 n).length ≤ K) : (dig B64 (m + n)).length ≤ K + 1 := dig_len_le b64_two (two_pow_lt b64_two (lt_of_wlen hm) (lt_of_wlen hn))

theorem val_two {b L k : Nat} {xs ys : List Nat} (hx : xs.length ≤ k) (hy : k + ys.length ≤ L) : val b (lay (lay (List.replicate L 0) 0 xs) k ys) = val b xs + b ^ k * val b ys := by
  have hl : (lay (List.replicate L 0) 0 xs).length = L := by rw [lay_len (by simp only [List.length_replicate]; omega)]; simp
  have := val_lay_add (b := b) (zs := lay (List.replicate L 0) 0 xs) (ys := ys) (off := k) (by rw [hl]; exact hy) fun i v h1 _ hv => by
    unfold lay at hv
    rw [List.take_zero, List.nil_append, List.getElem?_append_right (by omega), List.getElem?_drop, List.getElem?_replicate] at hv
    split at hv
    · injection hv with hv; exact hv.symm
    · cases hv
  rw [val_lay0] at this
  exact this
theorem mid_lt {m n x y p q a b B N h : Nat} (e : m * n = x + y + B ^ h * (p * q + a * b)) (hlt : m * n < B ^ (h + N)) : p * q + a * b < B ^ N := by
  rw [Nat.pow_add] at hlt
  exact Nat.lt_of_mul_lt_mul_left (a := B ^ h) (by omega)

set_option maxHeartbeats 4000000 in
set_option maxRecDepth 100000 in
theorem kara_any {K : Nat} (HM : MulSpec K) (ga oa c gb ob c' La Lb m n : Nat) (w : World) (hA : Nums .u64 w (some ⟨ga, oa, none⟩) (dig B64 m)) (hB : Nums .u64 w (some ⟨gb, ob, none⟩) (dig B64 n))
    (hLa : La = (dig B64 m).length) (hLb : Lb = (dig B64 n).length) (h80 : 80 ≤ Lb) (hle : Lb ≤ La) (h2 : La < 2 * Lb) (hc : La ≤ c) (hc' : Lb ≤ c') (hbig : La ≤ 1000000000) (hK : (La + 1) / 2 + 1 ≤ K) (hcb : ¬ c' = (La + 1) / 2) :
    Calls Try.prog 130 #[.slice (some ⟨ga, oa, none⟩) La c, .slice (some ⟨gb, ob, none⟩) Lb c'] w (SumPost w (m * n)) := by
  obtain ⟨h, hh⟩ : ∃ h, (La + 1) / 2 = h := ⟨_, rfl⟩
  have hhi : ((La : Int) + 1) / 2 = (h : Int) := by omega
  have hca : ¬ c = h := by omega
  rw [hh] at hcb hK
  have b1 : h ≤ Lb := by omega
  have b2 : h < La := by omega
  have b3 : 40 ≤ h := by omega
  have b4 : La - h ≤ h := by omega
  have b5 : Lb - h ≤ h := by omega
  have ha0 := fun w (hA : Nums .u64 w (some ⟨ga, oa, none⟩) (dig B64 m)) => low_half _ c m h w hA (by omega) (by omega) (by omega)
  have hb0 := fun w (hB : Nums .u64 w (some ⟨gb, ob, none⟩) (dig B64 n)) => low_half _ c' n h w hB (by omega) (by omega) (by omega)
  have ia0 := fun w (hA : Nums .u64 w (some ⟨ga, oa, none⟩) (dig B64 m)) => low_is _ c m h w hA (by omega) (by omega)
  have ib0 := fun w (hB : Nums .u64 w (some ⟨gb, ob, none⟩) (dig B64 n)) => low_is _ c' n h w hB (by omega) (by omega)
  have ia1 := fun w (hA : Nums .u64 w (some ⟨ga, oa, none⟩) (dig B64 m)) => high_is ga oa c m h w hA (by omega)
  have ib1 := fun w (hB : Nums .u64 w (some ⟨gb, ob, none⟩) (dig B64 n)) => high_is gb ob c' n h w hB (by omega)
  rw [← hLa] at ia1
  rw [← hLb] at ib1
  have lm0 := dig_len_mod b64_two m h
  have ln0 := dig_len_mod b64_two n h
  have lm1 := dig_len_div b64_two m h
  have ln1 := dig_len_div b64_two n h
  rw [← hLa] at lm1
  rw [← hLb] at ln1
  have em := Nat.mod_add_div m (B64 ^ h)
  have en := Nat.mod_add_div n (B64 ^ h)
  have hlt := Nat.mul_lt_mul_of_lt_of_lt (dig_len_lt b64_two (n := m)) (dig_len_lt b64_two (n := n))
  rw [← hLa, ← hLb, ← Nat.pow_add] at hlt
  generalize m % B64 ^ h = m0 at *
  generalize n % B64 ^ h = n0 at *
  generalize m / B64 ^ h = m1 at *
  generalize n / B64 ^ h = n1 at *
  have ls1 : (dig B64 (m0 + m1)).length ≤ h + 1 := wlen_add lm0 (by omega)
  have ls2 : (dig B64 (n0 + n1)).length ≤ h + 1 := wlen_add ln0 (by omega)
  have M1 : ∀ a b w, W64 w a m0 → W64 w b n0 → Calls Try.prog 111 #[a, b] w (SumPost w (m0 * n0)) := fun a b w h k => HM a b m0 n0 w h k (by omega) (by omega)
  have M2 : ∀ a b w, W64 w a m1 → W64 w b n1 → Calls Try.prog 111 #[a, b] w (SumPost w (m1 * n1)) := fun a b w h k => HM a b m1 n1 w h k (by omega) (by omega)
  have M3 : ∀ a b w, W64 w a (m0 + m1) → W64 w b (n0 + n1) → Calls Try.prog 111 #[a, b] w (SumPost w ((m0 + m1) * (n0 + n1))) := fun a b w h k => HM a b _ _ w h k (by omega) (by omega)
  have S1 : ∀ a b w, W64 w a m0 → W64 w b m1 → Calls Try.prog 82 #[a, b] w (SumPost w (m0 + m1)) := fun a b w h k => sum_any a b m0 m1 w h k (by omega) (by omega)
  have S2 : ∀ a b w, W64 w a n0 → W64 w b n1 → Calls Try.prog 82 #[a, b] w (SumPost w (n0 + n1)) := fun a b w h k => sum_any a b n0 n1 w h k (by omega) (by omega)
  have hmk := make64 (La + Lb) (by omega)
  push_cast at hmk
  have hbits : m0 * n0 < B64 ^ (2 * h) ∧ m1 * n1 < B64 ^ (La + Lb - 2 * h) ∧ (m0 + m1) * (n0 + n1) < B64 ^ (2 * h + 2) := by
    refine ⟨?_, ?_, ?_⟩
    · rw [show 2 * h = h + h by omega, Nat.pow_add]
      exact Nat.mul_lt_mul_of_lt_of_lt (lt_of_wlen lm0) (lt_of_wlen ln0)
    · rw [show La + Lb - 2 * h = (La - h) + (Lb - h) by omega, Nat.pow_add]
      exact Nat.mul_lt_mul_of_lt_of_lt (lt_of_wlen (by omega)) (lt_of_wlen (by omega))
    · rw [show 2 * h + 2 = (h + 1) + (h + 1) by omega, Nat.pow_add]
      exact Nat.mul_lt_mul_of_lt_of_lt (lt_of_wlen ls1) (lt_of_wlen ls2)
  have HA := Lib.hid hA
  have HB := Lib.hid hB
  have H0 := Lib.hid ha0
  have H1 := Lib.hid hb0
  have IA0 := Lib.hid ia0
  have IB0 := Lib.hid ib0
  have IA1 := Lib.hid ia1
  have IB1 := Lib.hid ib1
  have HLA := Lib.hid hLa
  have HLB := Lib.hid hLb
  have HH := Lib.hid hh
  have HM1 := Lib.hid M1
  have HM2 := Lib.hid M2
  have HM3 := Lib.hid M3
  have HS1 := Lib.hid S1
  have HS2 := Lib.hid S2
  have HEM := Lib.hid em
  have HEN := Lib.hid en
  have HLT := Lib.hid hlt
  have HBI := Lib.hid hbits
  have below0 : ∀ k, Below w.heap.size w (w.drewN k) := fun k => below_drewN (Below.refl _ _) k
  have HBE := Lib.hid below0
  clear ha0 hb0 ia0 ib0 ia1 ib1 hLa hLb hh M1 M2 M3 S1 S2 em en hlt hbits HM below0 hA hB lm1 ln1
  go_enter Try.func130, Try.ntmps130
  go_wp2
  go_quiet ((go_at_call 78; exact quiet_l (H0.out _ (HA.out.keep (HBE.out _)))))
  go_wp2
  go_quiet ((go_at_call 78; exact quiet_a (H1.out _ (HB.out.keep (HBE.out _)))))
  go_wp2_with (fail)
  refine (HM1.out _ _ _ (IA0.out _ (HA.out.keep (HBE.out _))) (IB0.out _ (HB.out.keep (HBE.out _)))).mono ?_
  rintro e w1 ⟨v1, rfl, hv1, hb1⟩
  have c1 : Below w.heap.size w w1 := (HBE.out _).trans (hb1.mono (HBE.out _).size)
  obtain ⟨A1, d1, rfl, hd1, k1⟩ := hv1.is
  clear hv1
  have ll1 : (dig B64 (m0 * n0)).length ≤ 2 * h := dig_len_le b64_two HBI.out.1
  obtain ⟨l1, hl1⟩ : ∃ l, (dig B64 (m0 * n0)).length = l := ⟨_, rfl⟩
  have HL1 := Lib.hid hl1
  rw [hl1] at hd1 ll1 ⊢
  clear hl1
  go_wp2_with (fail)
  refine (HM2.out _ _ _ (IA1.out _ (HA.out.keep c1)) (IB1.out _ (HB.out.keep c1))).mono ?_
  rintro e w2 ⟨v2, rfl, hv2, hb2⟩
  have c2 := below_at c1 (Nat.le_refl _) hb2
  have k1' := k1.keep hb2
  obtain ⟨A2, d2', rfl, hd2, k2⟩ := hv2.is
  clear hv2 k1
  have ll2 : (dig B64 (m1 * n1)).length ≤ La + Lb - 2 * h := dig_len_le b64_two HBI.out.2.1
  obtain ⟨l2, hl2⟩ : ∃ l, (dig B64 (m1 * n1)).length = l := ⟨_, rfl⟩
  have HL2 := Lib.hid hl2
  rw [hl2] at hd2 ll2 ⊢
  clear hl2
  go_wp2_with (fail)
  refine (HS1.out _ _ _ (IA0.out _ (HA.out.keep c2)) (IA1.out _ (HA.out.keep c2))).mono ?_
  rintro e w3 ⟨v3, rfl, hv3, hb3⟩
  have c3 := below_at c2 (Nat.le_refl _) hb3
  go_wp2_with (fail)
  refine (HS2.out _ _ _ (IB0.out _ (HB.out.keep c3)) (IB1.out _ (HB.out.keep c3))).mono ?_
  rintro e w4 ⟨v4, rfl, hv4, hb4⟩
  have c4 := below_at c3 (Nat.le_refl _) hb4
  go_wp2_with (fail)
  refine (HM3.out _ _ _ (hv3.is.keep hb4) hv4.is).mono ?_
  rintro e w5 ⟨v5, rfl, ⟨g5, c5, zs5, rfl, hc5, hcz5, hg5, hr5, hl5, ht5⟩, hb5⟩
  have c5' := below_at c4 (Nat.le_refl _) hb5
  clear hv3 hv4
  have hK2 := kara_mid m0 m1 n0 n1
  have hmid5 : RawAt w5 g5 zs5 (dig B64 ((m0 + m1) * (n0 + n1))).length ((m0 + m1) * (n0 + n1)) := ⟨hr5, hl5, by omega, by
    have : seg zs5 0 (dig B64 ((m0 + m1) * (n0 + n1))).length = zs5.take (dig B64 ((m0 + m1) * (n0 + n1))).length := by simp [seg]
    rw [this, ht5, val_dig b64_two]⟩
  have lmid : (dig B64 ((m0 + m1) * (n0 + n1))).length ≤ 2 * h + 2 := dig_len_le b64_two HBI.out.2.2
  have w2g : w2.heap.size ≤ g5 := Nat.le_trans hb3.size (Nat.le_trans hb4.size hg5)
  have d2 : Below w2.heap.size w2 w5 := (hb3.trans (hb4.mono hb3.size)).trans (hb5.mono (Nat.le_trans hb3.size hb4.size))
  have HK2 := Lib.hid hK2
  have HT5 := Lib.hid ht5
  clear hK2 ht5 hr5
  generalize (dig B64 ((m0 + m1) * (n0 + n1))).length = lm at *
  subst hcz5
  go_wp2_with (fail)
  refine (subFrom_raw g5 lm _ (m0 * n0) _ zs5 _ w2 _ hmid5 ⟨_, _, by rw [HL1.out], by rw [HL1.out]; exact hd1, k1'⟩ d2 w2g HK2.out.2.1 (by omega)).mono ?_
  rintro e w6 ⟨zs6, rfl, hmid6, hlen6, hgr6⟩
  have d3 : Below w2.heap.size w2 w6 := d2.grown hgr6 d2.size (fun k hk => by injection hk with hk; omega)
  go_wp2_with (fail)
  refine (subFrom_raw g5 lm _ (m1 * n1) _ zs6 _ w2 _ hmid6 ⟨_, _, by rw [HL2.out], by rw [HL2.out]; exact hd2, k2⟩ d3 w2g HK2.out.2.2 (by omega)).mono ?_
  rintro e w7 ⟨zs7, rfl, hmid7, hlen7, hgr7⟩
  have d4 : Below w2.heap.size w2 w7 := d3.grown hgr7 d3.size (fun k hk => by injection hk with hk; omega)
  rw [HK2.out.1] at hmid7
  have k1z := k1'.keep d4
  have k2z := k2.keep d4
  have hr0 := Row.made w7 .u64 (La + Lb) 24
  have hbA : Below w7.heap.size w7 (w7.alloc (.cells (madeCells #[.int .u64 0] (La + Lb)) 24)) := (Below.refl _ _).alloc (Nat.le_refl _) _
  have q1 := k1z.keep hbA
  have q2 := k2z.keep hbA
  have HR0 := Lib.hid hr0
  have hn1 : (lay (List.replicate (La + Lb) 0) 0 (dig B64 (m0 * n0))).length = La + Lb := by rw [lay_len (by simp only [List.length_replicate, HL1.out]; omega)]; simp
  have HN1 := Lib.hid hn1
  clear hr0 hn1
  go_wp2_with (first
    | (refine wpList_copy_row rfl (.tmp 57) (.tmp 58) rfl _ _ _ _ _ _ rfl rfl _ 0 _ _ HR0.out q1 HL1.out.symm (by omega) (fun _ => rfl) (by simp only [List.length_replicate]; omega) ?_
       intro w8 hr8 hg8
       have hb8 : Below w7.heap.size w7 w8 := hbA.grown hg8 hbA.size (by simp)
       have q3 := q2.grown (nums_ne k2z (Nat.le_refl _)) hg8)
    | (refine wpList_copy_row rfl (.tmp 63) (.tmp 64) rfl _ _ _ _ _ _ rfl rfl _ (2 * h) _ _ (by assumption) (by assumption) HL2.out.symm (by omega) (fun _ => rfl) (by rw [HN1.out]; omega) ?_
       intro w9 hr9 hg9
       have hb9 : Below w7.heap.size w7 w9 := hb8.grown hg9 hb8.size (by simp)))
  have ev : (h : Int) ≤ (La : Int) + (Lb : Int) := by omega
  have nv : ¬ La + Lb = h := by omega
  have q5 : Row .u64 24 w9.drew g5 zs7 := (hmid7.row.below hb9 hmid7.row.lt).drew
  have q6 := q5.nums0 lm
  have t1 := trim_any (some ⟨g5, 0, none⟩) zs5.length lm (zs7.take lm) w9.drew q6 (hmid7.low.take lm) (by rw [List.length_take, Nat.min_eq_left hmid7.le]) (by have := hmid7.le; omega) (by omega)
  have t2 : val B64 (zs7.take lm) = m0 * n1 + m1 * n0 := by have := hmid7.eq; simpa [seg] using this
  rw [t2] at t1
  have hmn : m * n = m0 * n0 + B64 ^ h * B64 ^ h * (m1 * n1) + B64 ^ h * (m0 * n1 + m1 * n0) := by
    have := kara_sum m0 m1 n0 n1 (B64 ^ h)
    rwa [HEM.out, HEN.out] at this
  have hml : m0 * n1 + m1 * n0 < B64 ^ (La + Lb - h) := mid_lt hmn (by rw [show h + (La + Lb - h) = La + Lb by omega]; exact HLT.out)
  have hl3 : (dig B64 (m0 * n1 + m1 * n0)).length ≤ La + Lb - h := dig_len_le b64_two hml
  have q7 := q6.take (dig B64 (m0 * n1 + m1 * n0)).length
  have q8 := trim_take b64_two (hmid7.low.take lm)
  rw [t2] at q8
  rw [q8] at q7
  obtain ⟨Z, hZ⟩ : ∃ Z, lay (lay (List.replicate (La + Lb) 0) 0 (dig B64 (m0 * n0))) (2 * h) (dig B64 (m1 * n1)) = Z := ⟨_, rfl⟩
  have zl : Z.length = La + Lb := by rw [← hZ, lay_len (by rw [HN1.out, HL2.out]; omega), HN1.out]
  have zlow : Low B64 Z := by rw [← hZ]; exact lay_low (lay_low (Low.replicate b64_pos _) (dig_low64 _)) (dig_low64 _)
  have zv : val B64 Z = m0 * n0 + B64 ^ h * B64 ^ h * (m1 * n1) := by
    rw [← hZ, val_two (by rw [HL1.out]; omega) (by rw [HL2.out]; omega), val_dig b64_two, val_dig b64_two, show 2 * h = h + h by omega, Nat.pow_add]
  have zv2 : val B64 Z + B64 ^ h * val B64 (dig B64 (m0 * n1 + m1 * n0)) = m * n := by rw [zv, hmn, val_dig b64_two]
  have zlt : m * n < B64 ^ Z.length := by rw [zl]; exact HLT.out
  rw [hZ] at hr9
  have hr10 := hr9.drew
  have g2 : w.heap.size ≤ g5 := Nat.le_trans c2.size w2g
  have c6 : Below w.heap.size w w7 := (c5'.grown hgr6 c5'.size (fun k hk => by injection hk with hk; omega)) |>.grown hgr7 (by have := c5'.size; have := hgr6.size; omega) (fun k hk => by injection hk with hk; omega)
  have c9 : Below w.heap.size w w9 := below_at c6 (Nat.le_refl _) hb9
  have c10 : Below w.heap.size w w9.drew := c9.drew
  have g7 : w.heap.size ≤ w7.heap.size := c6.size
  have g57 : g5 < w7.heap.size := hmid7.row.lt
  have TT := Lib.hid t1
  have T2 := Lib.hid t2
  have ZL := Lib.hid zl
  have ZV := Lib.hid zv2
  clear t1 t2 hmn q8 hZ zl zv zv2 hr9
  go_still_tail 5, (by kernel_rfl)
  still_call (TT.out.mono fun _ _ ⟨he, hm⟩ => ⟨he, hm.symm⟩)
  refine wpStill_nil ?_
  change wpList _ _ _ _ _ w9.drew
  generalize w9.drew = w10 at *
  go_wp2_with (first
    | (go_at_call 106
       refine (addTo_any w7.heap.size h (La + Lb - h) (La + Lb - h) _ _ Z _ _ _ hr10 zlow (by rw [ZL.out]; omega) q7 (dig_low64 _) (fun _ a ha => by injection ha with ha; subst ha; exact Nat.ne_of_lt g57) rfl hl3 (by omega)).mono ?_
       rintro e w11 ⟨zs', cy, rfl, hst, hr11, hg11⟩
       have hb11 : Below w.heap.size w w11 := c10.grown hg11 c10.size (fun k hk => by injection hk with hk; omega)
       have hl11 := hst.len.trans ZL.out
       have hn11 : Nums .u64 w11 (some ⟨w7.heap.size, 0, none⟩) zs' := by have := hr11.nums0 zs'.length; rwa [List.take_length] at this
       have HL11 := Lib.hid hl11
       clear hl11)
    | (go_at_call 78
       refine (trim_any _ (La + Lb) (La + Lb) zs' _ (by assumption) hst.low HL11.out.symm (Nat.le_refl _) (by omega)).mono ?_
       rintro e w12 ⟨rfl, rfl⟩))
  go_ret
  have hv := hst.whole (by rw [ZL.out]; omega) hl3 ZV.out zlt
  rw [← hv]
  refine ⟨_, rfl, ?_, hb11⟩
  have := own_of_trim b64_two hr11 hst.low g7
  rw [HL11.out] at this
  exact this
end Go.Proofs.Ytaegkhdkhgemmaa

namespace Go.Proofs.Ytaegkhdkhgemmaa
open Go.RowKit Num
theorem high_none (A : Option Addr) (n h : Nat) (w : World) (hl : (dig B64 n).length ≤ h) : W64 w (.slice A 0 0) (n / B64 ^ h) := by
  have e : n / B64 ^ h = 0 := Nat.div_eq_of_lt (lt_of_wlen hl)
  rw [e]
  refine ⟨A, 0, ?_, ?_, ?_⟩
  all_goals rw [dig_zero]
  all_goals first | rfl | exact Nats.nil | exact Nums.nil | exact Nat.le_refl _
set_option maxHeartbeats 4000000 in
set_option maxRecDepth 100000 in
theorem kara_eq {K : Nat} (HM : MulSpec K) (ga oa c gb ob c' La Lb m n : Nat) (w : World) (hA : Nums .u64 w (some ⟨ga, oa, none⟩) (dig B64 m)) (hB : Nums .u64 w (some ⟨gb, ob, none⟩) (dig B64 n))
    (hLa : La = (dig B64 m).length) (hLb : Lb = (dig B64 n).length) (h80 : 80 ≤ Lb) (_hle : Lb ≤ La) (h2 : La < 2 * Lb) (hc : La ≤ c) (hc' : Lb ≤ c') (hbig : La ≤ 1000000000) (hK : (La + 1) / 2 + 1 ≤ K) (hcb : c' = (La + 1) / 2) :
    Calls Try.prog 130 #[.slice (some ⟨ga, oa, none⟩) La c, .slice (some ⟨gb, ob, none⟩) Lb c'] w (SumPost w (m * n)) := by
  obtain ⟨h, hh⟩ : ∃ h, (La + 1) / 2 = h := ⟨_, rfl⟩
  have hhi : ((La : Int) + 1) / 2 = (h : Int) := by omega
  have hca : ¬ c = h := by omega
  rw [hh] at hcb hK
  subst c'
  have b1 : h ≤ Lb := by omega
  have b2 : h < La := by omega
  have b3 : 40 ≤ h := by omega
  have b4 : La - h ≤ h := by omega
  have b5 : Lb - h ≤ h := by omega
  have ha0 := fun w (hA : Nums .u64 w (some ⟨ga, oa, none⟩) (dig B64 m)) => low_half _ c m h w hA (by omega) (by omega) (by omega)
  have hb0 := fun w (hB : Nums .u64 w (some ⟨gb, ob, none⟩) (dig B64 n)) => low_half _ h n h w hB (by omega) (by omega) (by omega)
  have ia0 := fun w (hA : Nums .u64 w (some ⟨ga, oa, none⟩) (dig B64 m)) => low_is _ c m h w hA (by omega) (by omega)
  have ib0 := fun w (hB : Nums .u64 w (some ⟨gb, ob, none⟩) (dig B64 n)) => low_is _ h n h w hB (by omega) (by omega)
  have ia1 := fun w (hA : Nums .u64 w (some ⟨ga, oa, none⟩) (dig B64 m)) => high_is ga oa c m h w hA (by omega)
  have ib1 := fun (w : World) (_ : Nums .u64 w (some ⟨gb, ob, none⟩) (dig B64 n)) => high_none (some ⟨gb, ob, none⟩) n h w (by omega)
  rw [← hLa] at ia1
  have lm0 := dig_len_mod b64_two m h
  have ln0 := dig_len_mod b64_two n h
  have lm1 := dig_len_div b64_two m h
  have ln1 := dig_len_div b64_two n h
  rw [← hLa] at lm1
  rw [← hLb] at ln1
  have em := Nat.mod_add_div m (B64 ^ h)
  have en := Nat.mod_add_div n (B64 ^ h)
  have hlt := Nat.mul_lt_mul_of_lt_of_lt (dig_len_lt b64_two (n := m)) (dig_len_lt b64_two (n := n))
  rw [← hLa, ← hLb, ← Nat.pow_add] at hlt
  generalize m % B64 ^ h = m0 at *
  generalize n % B64 ^ h = n0 at *
  generalize m / B64 ^ h = m1 at *
  generalize n / B64 ^ h = n1 at *
  have ls1 : (dig B64 (m0 + m1)).length ≤ h + 1 := wlen_add lm0 (by omega)
  have ls2 : (dig B64 (n0 + n1)).length ≤ h + 1 := wlen_add ln0 (by omega)
  have M1 : ∀ a b w, W64 w a m0 → W64 w b n0 → Calls Try.prog 111 #[a, b] w (SumPost w (m0 * n0)) := fun a b w h k => HM a b m0 n0 w h k (by omega) (by omega)
  have M2 : ∀ a b w, W64 w a m1 → W64 w b n1 → Calls Try.prog 111 #[a, b] w (SumPost w (m1 * n1)) := fun a b w h k => HM a b m1 n1 w h k (by omega) (by omega)
  have M3 : ∀ a b w, W64 w a (m0 + m1) → W64 w b (n0 + n1) → Calls Try.prog 111 #[a, b] w (SumPost w ((m0 + m1) * (n0 + n1))) := fun a b w h k => HM a b _ _ w h k (by omega) (by omega)
  have S1 : ∀ a b w, W64 w a m0 → W64 w b m1 → Calls Try.prog 82 #[a, b] w (SumPost w (m0 + m1)) := fun a b w h k => sum_any a b m0 m1 w h k (by omega) (by omega)
  have S2 : ∀ a b w, W64 w a n0 → W64 w b n1 → Calls Try.prog 82 #[a, b] w (SumPost w (n0 + n1)) := fun a b w h k => sum_any a b n0 n1 w h k (by omega) (by omega)
  have hmk := make64 (La + Lb) (by omega)
  push_cast at hmk
  have hbits : m0 * n0 < B64 ^ (2 * h) ∧ m1 * n1 < B64 ^ (La + Lb - 2 * h) ∧ (m0 + m1) * (n0 + n1) < B64 ^ (2 * h + 2) := by
    refine ⟨?_, ?_, ?_⟩
    · rw [show 2 * h = h + h by omega, Nat.pow_add]
      exact Nat.mul_lt_mul_of_lt_of_lt (lt_of_wlen lm0) (lt_of_wlen ln0)
    · rw [show La + Lb - 2 * h = (La - h) + (Lb - h) by omega, Nat.pow_add]
      exact Nat.mul_lt_mul_of_lt_of_lt (lt_of_wlen (by omega)) (lt_of_wlen (by omega))
    · rw [show 2 * h + 2 = (h + 1) + (h + 1) by omega, Nat.pow_add]
      exact Nat.mul_lt_mul_of_lt_of_lt (lt_of_wlen ls1) (lt_of_wlen ls2)
  have HA := Lib.hid hA
  have HB := Lib.hid hB
  have H0 := Lib.hid ha0
  have H1 := Lib.hid hb0
  have IA0 := Lib.hid ia0
  have IB0 := Lib.hid ib0
  have IA1 := Lib.hid ia1
  have IB1 := Lib.hid ib1
  have HLA := Lib.hid hLa
  have HLB := Lib.hid hLb
  have HH := Lib.hid hh
  have HM1 := Lib.hid M1
  have HM2 := Lib.hid M2
  have HM3 := Lib.hid M3
  have HS1 := Lib.hid S1
  have HS2 := Lib.hid S2
  have HEM := Lib.hid em
  have HEN := Lib.hid en
  have HLT := Lib.hid hlt
  have HBI := Lib.hid hbits
  have below0 : ∀ k, Below w.heap.size w (w.drewN k) := fun k => below_drewN (Below.refl _ _) k
  have HBE := Lib.hid below0
  clear ha0 hb0 ia0 ib0 ia1 ib1 hLa hLb hh M1 M2 M3 S1 S2 em en hlt hbits HM below0 hA hB lm1 ln1
  go_enter Try.func130, Try.ntmps130
  go_wp2
  go_quiet ((go_at_call 78; exact quiet_l (H0.out _ (HA.out.keep (HBE.out _)))))
  go_wp2
  go_quiet ((go_at_call 78; exact quiet_a (H1.out _ (HB.out.keep (HBE.out _)))))
  go_wp2_with (fail)
  refine (HM1.out _ _ _ (IA0.out _ (HA.out.keep (HBE.out _))) (IB0.out _ (HB.out.keep (HBE.out _)))).mono ?_
  rintro e w1 ⟨v1, rfl, hv1, hb1⟩
  have c1 : Below w.heap.size w w1 := (HBE.out _).trans (hb1.mono (HBE.out _).size)
  obtain ⟨A1, d1, rfl, hd1, k1⟩ := hv1.is
  clear hv1
  have ll1 : (dig B64 (m0 * n0)).length ≤ 2 * h := dig_len_le b64_two HBI.out.1
  obtain ⟨l1, hl1⟩ : ∃ l, (dig B64 (m0 * n0)).length = l := ⟨_, rfl⟩
  have HL1 := Lib.hid hl1
  rw [hl1] at hd1 ll1 ⊢
  clear hl1
  go_wp2_with (fail)
  refine (HM2.out _ _ _ (IA1.out _ (HA.out.keep c1)) (IB1.out _ (HB.out.keep c1))).mono ?_
  rintro e w2 ⟨v2, rfl, hv2, hb2⟩
  have c2 := below_at c1 (Nat.le_refl _) hb2
  have k1' := k1.keep hb2
  obtain ⟨A2, d2', rfl, hd2, k2⟩ := hv2.is
  clear hv2 k1
  have ll2 : (dig B64 (m1 * n1)).length ≤ La + Lb - 2 * h := dig_len_le b64_two HBI.out.2.1
  obtain ⟨l2, hl2⟩ : ∃ l, (dig B64 (m1 * n1)).length = l := ⟨_, rfl⟩
  have HL2 := Lib.hid hl2
  rw [hl2] at hd2 ll2 ⊢
  clear hl2
  go_wp2_with (fail)
  refine (HS1.out _ _ _ (IA0.out _ (HA.out.keep c2)) (IA1.out _ (HA.out.keep c2))).mono ?_
  rintro e w3 ⟨v3, rfl, hv3, hb3⟩
  have c3 := below_at c2 (Nat.le_refl _) hb3
  go_wp2_with (fail)
  refine (HS2.out _ _ _ (IB0.out _ (HB.out.keep c3)) (IB1.out _ (HB.out.keep c3))).mono ?_
  rintro e w4 ⟨v4, rfl, hv4, hb4⟩
  have c4 := below_at c3 (Nat.le_refl _) hb4
  go_wp2_with (fail)
  refine (HM3.out _ _ _ (hv3.is.keep hb4) hv4.is).mono ?_
  rintro e w5 ⟨v5, rfl, ⟨g5, c5, zs5, rfl, hc5, hcz5, hg5, hr5, hl5, ht5⟩, hb5⟩
  have c5' := below_at c4 (Nat.le_refl _) hb5
  clear hv3 hv4
  have hK2 := kara_mid m0 m1 n0 n1
  have hmid5 : RawAt w5 g5 zs5 (dig B64 ((m0 + m1) * (n0 + n1))).length ((m0 + m1) * (n0 + n1)) := ⟨hr5, hl5, by omega, by
    have : seg zs5 0 (dig B64 ((m0 + m1) * (n0 + n1))).length = zs5.take (dig B64 ((m0 + m1) * (n0 + n1))).length := by simp [seg]
    rw [this, ht5, val_dig b64_two]⟩
  have lmid : (dig B64 ((m0 + m1) * (n0 + n1))).length ≤ 2 * h + 2 := dig_len_le b64_two HBI.out.2.2
  have w2g : w2.heap.size ≤ g5 := Nat.le_trans hb3.size (Nat.le_trans hb4.size hg5)
  have d2 : Below w2.heap.size w2 w5 := (hb3.trans (hb4.mono hb3.size)).trans (hb5.mono (Nat.le_trans hb3.size hb4.size))
  have HK2 := Lib.hid hK2
  have HT5 := Lib.hid ht5
  clear hK2 ht5 hr5
  generalize (dig B64 ((m0 + m1) * (n0 + n1))).length = lm at *
  subst hcz5
  go_wp2_with (fail)
  refine (subFrom_raw g5 lm _ (m0 * n0) _ zs5 _ w2 _ hmid5 ⟨_, _, by rw [HL1.out], by rw [HL1.out]; exact hd1, k1'⟩ d2 w2g HK2.out.2.1 (by omega)).mono ?_
  rintro e w6 ⟨zs6, rfl, hmid6, hlen6, hgr6⟩
  have d3 : Below w2.heap.size w2 w6 := d2.grown hgr6 d2.size (fun k hk => by injection hk with hk; omega)
  go_wp2_with (fail)
  refine (subFrom_raw g5 lm _ (m1 * n1) _ zs6 _ w2 _ hmid6 ⟨_, _, by rw [HL2.out], by rw [HL2.out]; exact hd2, k2⟩ d3 w2g HK2.out.2.2 (by omega)).mono ?_
  rintro e w7 ⟨zs7, rfl, hmid7, hlen7, hgr7⟩
  have d4 : Below w2.heap.size w2 w7 := d3.grown hgr7 d3.size (fun k hk => by injection hk with hk; omega)
  rw [HK2.out.1] at hmid7
  have k1z := k1'.keep d4
  have k2z := k2.keep d4
  have hr0 := Row.made w7 .u64 (La + Lb) 24
  have hbA : Below w7.heap.size w7 (w7.alloc (.cells (madeCells #[.int .u64 0] (La + Lb)) 24)) := (Below.refl _ _).alloc (Nat.le_refl _) _
  have q1 := k1z.keep hbA
  have q2 := k2z.keep hbA
  have HR0 := Lib.hid hr0
  have hn1 : (lay (List.replicate (La + Lb) 0) 0 (dig B64 (m0 * n0))).length = La + Lb := by rw [lay_len (by simp only [List.length_replicate, HL1.out]; omega)]; simp
  have HN1 := Lib.hid hn1
  clear hr0 hn1
  go_wp2_with (first
    | (refine wpList_copy_row rfl (.tmp 57) (.tmp 58) rfl _ _ _ _ _ _ rfl rfl _ 0 _ _ HR0.out q1 HL1.out.symm (by omega) (fun _ => rfl) (by simp only [List.length_replicate]; omega) ?_
       intro w8 hr8 hg8
       have hb8 : Below w7.heap.size w7 w8 := hbA.grown hg8 hbA.size (by simp)
       have q3 := q2.grown (nums_ne k2z (Nat.le_refl _)) hg8)
    | (refine wpList_copy_row rfl (.tmp 63) (.tmp 64) rfl _ _ _ _ _ _ rfl rfl _ (2 * h) _ _ (by assumption) (by assumption) HL2.out.symm (by omega) (fun _ => rfl) (by rw [HN1.out]; omega) ?_
       intro w9 hr9 hg9
       have hb9 : Below w7.heap.size w7 w9 := hb8.grown hg9 hb8.size (by simp)))
  have ev : (h : Int) ≤ (La : Int) + (Lb : Int) := by omega
  have nv : ¬ La + Lb = h := by omega
  have q5 : Row .u64 24 w9.drew g5 zs7 := (hmid7.row.below hb9 hmid7.row.lt).drew
  have q6 := q5.nums0 lm
  have t1 := trim_any (some ⟨g5, 0, none⟩) zs5.length lm (zs7.take lm) w9.drew q6 (hmid7.low.take lm) (by rw [List.length_take, Nat.min_eq_left hmid7.le]) (by have := hmid7.le; omega) (by omega)
  have t2 : val B64 (zs7.take lm) = m0 * n1 + m1 * n0 := by have := hmid7.eq; simpa [seg] using this
  rw [t2] at t1
  have hmn : m * n = m0 * n0 + B64 ^ h * B64 ^ h * (m1 * n1) + B64 ^ h * (m0 * n1 + m1 * n0) := by
    have := kara_sum m0 m1 n0 n1 (B64 ^ h)
    rwa [HEM.out, HEN.out] at this
  have hml : m0 * n1 + m1 * n0 < B64 ^ (La + Lb - h) := mid_lt hmn (by rw [show h + (La + Lb - h) = La + Lb by omega]; exact HLT.out)
  have hl3 : (dig B64 (m0 * n1 + m1 * n0)).length ≤ La + Lb - h := dig_len_le b64_two hml
  have q7 := q6.take (dig B64 (m0 * n1 + m1 * n0)).length
  have q8 := trim_take b64_two (hmid7.low.take lm)
  rw [t2] at q8
  rw [q8] at q7
  obtain ⟨Z, hZ⟩ : ∃ Z, lay (lay (List.replicate (La + Lb) 0) 0 (dig B64 (m0 * n0))) (2 * h) (dig B64 (m1 * n1)) = Z := ⟨_, rfl⟩
  have zl : Z.length = La + Lb := by rw [← hZ, lay_len (by rw [HN1.out, HL2.out]; omega), HN1.out]
  have zlow : Low B64 Z := by rw [← hZ]; exact lay_low (lay_low (Low.replicate b64_pos _) (dig_low64 _)) (dig_low64 _)
  have zv : val B64 Z = m0 * n0 + B64 ^ h * B64 ^ h * (m1 * n1) := by
    rw [← hZ, val_two (by rw [HL1.out]; omega) (by rw [HL2.out]; omega), val_dig b64_two, val_dig b64_two, show 2 * h = h + h by omega, Nat.pow_add]
  have zv2 : val B64 Z + B64 ^ h * val B64 (dig B64 (m0 * n1 + m1 * n0)) = m * n := by rw [zv, hmn, val_dig b64_two]
  have zlt : m * n < B64 ^ Z.length := by rw [zl]; exact HLT.out
  rw [hZ] at hr9
  have hr10 := hr9.drew
  have g2 : w.heap.size ≤ g5 := Nat.le_trans c2.size w2g
  have c6 : Below w.heap.size w w7 := (c5'.grown hgr6 c5'.size (fun k hk => by injection hk with hk; omega)) |>.grown hgr7 (by have := c5'.size; have := hgr6.size; omega) (fun k hk => by injection hk with hk; omega)
  have c9 : Below w.heap.size w w9 := below_at c6 (Nat.le_refl _) hb9
  have c10 : Below w.heap.size w w9.drew := c9.drew
  have g7 : w.heap.size ≤ w7.heap.size := c6.size
  have g57 : g5 < w7.heap.size := hmid7.row.lt
  have TT := Lib.hid t1
  have T2 := Lib.hid t2
  have ZL := Lib.hid zl
  have ZV := Lib.hid zv2
  clear t1 t2 hmn q8 hZ zl zv zv2 hr9
  go_still_tail 5, (by kernel_rfl)
  still_call (TT.out.mono fun _ _ ⟨he, hm⟩ => ⟨he, hm.symm⟩)
  refine wpStill_nil ?_
  change wpList _ _ _ _ _ w9.drew
  generalize w9.drew = w10 at *
  go_wp2_with (first
    | (go_at_call 106
       refine (addTo_any w7.heap.size h (La + Lb - h) (La + Lb - h) _ _ Z _ _ _ hr10 zlow (by rw [ZL.out]; omega) q7 (dig_low64 _) (fun _ a ha => by injection ha with ha; subst ha; exact Nat.ne_of_lt g57) rfl hl3 (by omega)).mono ?_
       rintro e w11 ⟨zs', cy, rfl, hst, hr11, hg11⟩
       have hb11 : Below w.heap.size w w11 := c10.grown hg11 c10.size (fun k hk => by injection hk with hk; omega)
       have hl11 := hst.len.trans ZL.out
       have hn11 : Nums .u64 w11 (some ⟨w7.heap.size, 0, none⟩) zs' := by have := hr11.nums0 zs'.length; rwa [List.take_length] at this
       have HL11 := Lib.hid hl11
       clear hl11)
    | (go_at_call 78
       refine (trim_any _ (La + Lb) (La + Lb) zs' _ (by assumption) hst.low HL11.out.symm (Nat.le_refl _) (by omega)).mono ?_
       rintro e w12 ⟨rfl, rfl⟩))
  go_ret
  have hv := hst.whole (by rw [ZL.out]; omega) hl3 ZV.out zlt
  rw [← hv]
  refine ⟨_, rfl, ?_, hb11⟩
  have := own_of_trim b64_two hr11 hst.low g7
  rw [HL11.out] at this
  exact this
end Go.Proofs.Ytaegkhdkhgemmaa

namespace Go.Proofs.Ytaegkhdkhgemmaa
open Go.RowKit Num

/-- One block of a number. -/
theorem block_is (ga oa c m i j : Nat) (w : World) (hA : Nums .u64 w (some ⟨ga, oa, none⟩) (dig B64 m)) (hc : (dig B64 m).length ≤ c) (hij : i + j ≤ (dig B64 m).length) (hbig : (dig B64 m).length ≤ 1000000000) :
    (Calls Try.prog 78 #[.slice (some ⟨ga, oa + i, none⟩) j (c - i)] w fun e w' => e = .returned (.slice (some ⟨ga, oa + i, none⟩) (dig B64 (m / B64 ^ i % B64 ^ j)).length (c - i)) ∧ w = w')
    ∧ W64 w (.slice (some ⟨ga, oa + i, none⟩) (dig B64 (m / B64 ^ i % B64 ^ j)).length (c - i)) (m / B64 ^ i % B64 ^ j) := by
  obtain ⟨A, d, e, _, hN⟩ := high_is ga oa c m i w hA hc
  injection e with e1 e2 e3
  subst e1 e3
  have hl := dig_len_div b64_two m i
  exact ⟨low_half _ _ _ j w hN (by omega) (by omega) (by omega), low_is _ _ _ j w hN (by omega) (by omega)⟩
theorem mod_block (b m i j : Nat) : m % b ^ i + b ^ i * (m / b ^ i % b ^ j) = m % b ^ (i + j) := by
  rw [Nat.pow_add, Nat.mod_mul]

set_option maxHeartbeats 4000000 in
set_option maxRecDepth 100000 in
theorem blocks_any {K : Nat} (HM : MulSpec K) (ga oa c gb ob c' La Lb m n : Nat) (w : World) (hA : Nums .u64 w (some ⟨ga, oa, none⟩) (dig B64 m)) (hB : Nums .u64 w (some ⟨gb, ob, none⟩) (dig B64 n))
    (hLa : La = (dig B64 m).length) (hLb : Lb = (dig B64 n).length) (h80 : 80 ≤ Lb) (h2 : 2 * Lb ≤ La) (hc : La ≤ c) (hc' : Lb ≤ c') (hbig : La ≤ 1000000000) (hK : Lb ≤ K) :
    Calls Try.prog 129 #[.slice (some ⟨ga, oa, none⟩) La c, .slice (some ⟨gb, ob, none⟩) Lb c'] w (SumPost w (m * n)) := by
  have hmk := make64 (La + Lb) (by omega)
  push_cast at hmk
  have hr0 := Row.made w .u64 (La + Lb) 24
  have hbA : Below w.heap.size w (w.alloc (.cells (madeCells #[.int .u64 0] (La + Lb)) 24)) := (Below.refl _ _).alloc (Nat.le_refl _) _
  have hv0 : val B64 (List.replicate (La + Lb) 0) = m % B64 ^ 0 * n := by rw [val_replicate, Nat.pow_zero, Nat.mod_one, Nat.zero_mul]
  have hlt := Nat.mul_lt_mul_of_lt_of_lt (dig_len_lt b64_two (n := m)) (dig_len_lt b64_two (n := n))
  rw [← hLa, ← hLb, ← Nat.pow_add] at hlt
  have HLT := Lib.hid hlt
  have HV0 := Lib.hid hv0
  have HR0 := Lib.hid hr0
  have HA := Lib.hid hA
  have HB := Lib.hid hB
  have HLA := Lib.hid hLa
  have HLB := Lib.hid hLb
  have HMM := Lib.hid HM
  clear hA hB hLa hLb HM hr0 hv0 hlt
  go_enter Try.func129, Try.ntmps129
  go_wp2
  go_loopw [6] (fun t wr => ∃ (i : Nat) (zs : List Nat), i ≤ La + Lb ∧ t = .int .i64 (i : Int) ∧ zs.length = La + Lb ∧ Low B64 zs ∧ val B64 zs = m % B64 ^ i * n ∧ Row .u64 24 wr w.heap.size zs ∧ Below w.heap.size w wr) (fun t _ => La + Lb - (intOf t).toNat)
  case atStart => exact ⟨0, _, Nat.zero_le _, rfl, by simp, Low.replicate b64_pos _, HV0.out, HR0.out, hbA⟩
  case round =>
    clear HR0 HV0 hbA hmk
    obtain ⟨i, zs, hi, rfl, hzl, hzlow, hzv, hrow, hbl⟩ := hrel
    have HZL := Lib.hid hzl
    have HZV := Lib.hid hzv
    clear hzl hzv
    by_cases hlt : i < La
    · have hci : ¬ c = i := by omega
      have ev : (i : Int) ≤ (La : Int) + (Lb : Int) := by omega
      have nv : ¬ La + Lb = i := by omega
      obtain ⟨j, hj⟩ : ∃ j, (min ((i : Int) + (Lb : Int)) (La : Int)).toNat - i = j := ⟨_, rfl⟩
      have j1 : j ≤ Lb := by omega
      have j2 : i + j ≤ La := by omega
      have j3 : i + j = La ∨ j = Lb := by omega
      have HJ := Lib.hid hj
      have J3 := Lib.hid j3
      have bc := fun w (hA : Nums .u64 w (some ⟨ga, oa, none⟩) (dig B64 m)) => block_is ga oa c m i j w hA (by rw [← HLA.out]; exact hc) (by rw [← HLA.out]; exact j2) (by rw [← HLA.out]; exact hbig)
      have bl : (dig B64 (m / B64 ^ i % B64 ^ j)).length ≤ j := dig_len_mod b64_two _ _
      have bm := mod_block B64 m i j
      obtain ⟨mb, hmb⟩ : ∃ mb, m / B64 ^ i % B64 ^ j = mb := ⟨_, rfl⟩
      rw [hmb] at bc bl bm
      have BC := Lib.hid bc
      have BM := Lib.hid bm
      have hpl : (dig B64 (mb * n)).length ≤ La + Lb - i := by
        refine dig_len_le b64_two ?_
        have h1 := Nat.mul_lt_mul_of_lt_of_lt (lt_of_wlen bl) (dig_len_lt b64_two (n := n))
        rw [← HLB.out, ← Nat.pow_add] at h1
        exact Nat.lt_of_lt_of_le h1 (Nat.pow_le_pow_right b64_pos (by omega))
      clear hj j3 bc bm hmb
      go_wp2_with (go_at_call 78; rw [HJ.out]; refine ((BC.out _ (HA.out.keep hbl)).1).mono ?_; rintro e w1 ⟨rfl, rfl⟩)
      have hrow1 := hrow.drew
      have hbl1 : Below w.heap.size w wr.drew := hbl.drew
      have hgz : w.heap.size < wr.drew.heap.size := hrow1.lt
      clear hrow hbl
      have hmul := HMM.out _ _ mb n wr.drew ((BC.out _ (HA.out.keep hbl1)).2) ⟨_, _, by rw [← HLB.out], by rw [← HLB.out]; exact hc', HB.out.keep hbl1⟩ (by omega) (by rw [← HLB.out]; exact hK)
      have HMUL := Lib.hid hmul
      clear hmul
      go_region_with (first
        | (go_at_call 111
           refine HMUL.out.mono ?_
           rintro e w2 ⟨v2, rfl, ⟨g2, c2, zs2, rfl, hc2, hcz2, hg2, hr2, hl2, ht2⟩, hb2⟩
           have hrow2 := hrow1.below hb2 hgz
           have hn2 : Nums .u64 w2 (some ⟨g2, 0, none⟩) (dig B64 (mb * n)) := by have := hr2.nums0 (dig B64 (mb * n)).length; rwa [ht2] at this
           have hbl2 : Below w.heap.size w w2 := below_at hbl1 (Nat.le_refl _) hb2
           have HC2 := Lib.hid hcz2
           clear hcz2 ht2 hr2)
        | (go_at_call 106
           refine (addTo_any w.heap.size i (La + Lb - i) (La + Lb - i) _ _ zs _ _ _ hrow2 hzlow (by rw [HZL.out]; omega) hn2 (dig_low64 _) (fun _ a ha => by injection ha with ha; subst ha; exact Nat.ne_of_gt (Nat.lt_of_lt_of_le hgz hg2)) rfl hpl (by omega)).mono ?_
           rintro e w3 ⟨zs', cy, rfl, hst, hr3, hg3⟩
           have hbl3 : Below w.heap.size w w3 := hbl2.grown hg3 hbl2.size (fun k hk => by injection hk with hk; omega)))
      go_wp2_with (fail)
      go_roundw
      case rel =>
        refine ⟨i + Lb, zs', by omega, by go_num, hst.len.trans HZL.out, hst.low, ?_, hr3, hbl3⟩
        have e1 : m % B64 ^ (i + Lb) = m % B64 ^ (i + j) := by
          rcases J3.out with h | h
          · have hm : m < B64 ^ La := lt_of_wlen (by rw [← HLA.out]; exact Nat.le_refl _)
            rw [h, Nat.mod_eq_of_lt hm, Nat.mod_eq_of_lt (Nat.lt_of_lt_of_le hm (Nat.pow_le_pow_right b64_pos (by omega)))]
          · rw [h]
        refine hst.whole (by rw [HZL.out]; omega) hpl ?_ ?_
        · rw [HZV.out, val_dig b64_two, e1, ← BM.out, Nat.add_mul, Nat.mul_assoc]
        · rw [HZL.out]
          exact Nat.lt_of_le_of_lt (Nat.mul_le_mul_right _ (Nat.mod_le _ _)) HLT.out
      case measure => simp [intOf]; omega
    · have hm : m < B64 ^ La := lt_of_wlen (by rw [← HLA.out]; exact Nat.le_refl _)
      have hv : val B64 zs = m * n := by rw [HZV.out, Nat.mod_eq_of_lt (Nat.lt_of_lt_of_le hm (Nat.pow_le_pow_right b64_pos (by omega)))]
      have hn := hrow.nums0 zs.length
      rw [List.take_length] at hn
      have HV := Lib.hid hv
      clear hv
      go_wp2_with (go_at_call 78
                   refine (trim_any _ (La + Lb) (La + Lb) zs _ hn hzlow HZL.out.symm (Nat.le_refl _) (by omega)).mono ?_
                   rintro e w1 ⟨rfl, rfl⟩)
      go_ret
      rw [← HV.out]
      refine ⟨_, rfl, ?_, hbl⟩
      have := own_of_trim b64_two hrow hzlow (Nat.le_refl w.heap.size)
      rw [HZL.out] at this
      exact this
end Go.Proofs.Ytaegkhdkhgemmaa

namespace Go.Proofs.Ytaegkhdkhgemmaa
open Go.RowKit Num

/-- Karatsuba's and the blocks' method, whichever multiply picks. -/
theorem big_ways {N : Nat} (HM : MulSpec (N - 1)) (A A' : Option Addr) (c c' La Lb m n : Nat) (w : World) (hA : Nums .u64 w A (dig B64 m)) (hB : Nums .u64 w A' (dig B64 n)) (hLa : La = (dig B64 m).length) (hLb : Lb = (dig B64 n).length)
    (h80 : 80 ≤ Lb) (hle : Lb ≤ La) (hc : La ≤ c) (hc' : Lb ≤ c') (hbig : La ≤ 1000000000) (hN : La ≤ N) :
    (La < 2 * Lb → Calls Try.prog 130 #[.slice A La c, .slice A' Lb c'] w (SumPost w (m * n))) ∧ (2 * Lb ≤ La → Calls Try.prog 129 #[.slice A La c, .slice A' Lb c'] w (SumPost w (m * n))) := by
  obtain ⟨ga, oa, rfl, _, _⟩ := hA (by omega)
  obtain ⟨gb, ob, rfl, _, _⟩ := hB (by omega)
  refine ⟨fun h2 => ?_, fun h2 => blocks_any HM ga oa c gb ob c' La Lb m n w hA hB hLa hLb h80 h2 hc hc' hbig (by omega)⟩
  by_cases hcb : c' = (La + 1) / 2
  · exact kara_eq HM ga oa c gb ob c' La Lb m n w hA hB hLa hLb h80 hle h2 hc hc' hbig (by omega) hcb
  · exact kara_any HM ga oa c gb ob c' La Lb m n w hA hB hLa hLb h80 hle h2 hc hc' hbig (by omega) hcb

set_option maxHeartbeats 400000 in
theorem mul_step {N : Nat} (HM : MulSpec (N - 1)) (a b : Value) (m n : Nat) (w : World) (ha : W64 w a m) (hb : W64 w b n) (hm : (dig B64 m).length ≤ N) (hn : (dig B64 n).length ≤ N) (hbig : N ≤ 1000000000)
    (h80 : 80 ≤ (dig B64 m).length) (h80' : 80 ≤ (dig B64 n).length) : Calls Try.prog 111 #[a, b] w (SumPost w (m * n)) := by
  obtain ⟨A, c, rfl, hc, hA⟩ := ha
  obtain ⟨A', c', rfl, hc', hA'⟩ := hb
  generalize hL : (dig B64 m).length = L at *
  generalize hL' : (dig B64 n).length = L' at *
  by_cases hlt : L < L'
  · have h := big_ways HM A' A c' c L' L n m w hA' hA hL'.symm hL.symm h80 (by omega) hc' hc (by omega) hn
    rw [Nat.mul_comm n m] at h
    have H := Lib.hid h
    clear h hL hL' HM hA hA'
    by_cases h2 : L' < 2 * L
    · go_enter Try.func111, Try.ntmps111
      go_wp2_with (go_at_call 130; refine (H.out.1 h2).mono ?_; rintro e w1 ⟨v, rfl, hv, hb1⟩)
      go_ret
      exact ⟨_, rfl, hv, hb1⟩
    · go_enter Try.func111, Try.ntmps111
      go_wp2_with (go_at_call 129; refine (H.out.2 (by omega)).mono ?_; rintro e w1 ⟨v, rfl, hv, hb1⟩)
      go_ret
      exact ⟨_, rfl, hv, hb1⟩
  · have h := big_ways HM A A' c c' L L' m n w hA hA' hL.symm hL'.symm h80' (by omega) hc hc' (by omega) hm
    have H := Lib.hid h
    clear h hL hL' HM hA hA'
    by_cases h2 : L < 2 * L'
    · go_enter Try.func111, Try.ntmps111
      go_wp2_with (go_at_call 130; refine (H.out.1 h2).mono ?_; rintro e w1 ⟨v, rfl, hv, hb1⟩)
      go_ret
      exact ⟨_, rfl, hv, hb1⟩
    · go_enter Try.func111, Try.ntmps111
      go_wp2_with (go_at_call 129; refine (H.out.2 (by omega)).mono ?_; rintro e w1 ⟨v, rfl, hv, hb1⟩)
      go_ret
      exact ⟨_, rfl, hv, hb1⟩

/-- multiply, whatever the factors' lengths. -/
theorem mulSpec_all : ∀ N, N ≤ 1000000000 → MulSpec N := by
  intro N
  induction N with
  | zero => exact fun _ a b m n w ha hb hm hn => mul_short a b m n w ha hb (by omega) (by omega) (.inl (by omega))
  | succ N ih =>
    intro h a b m n w ha hb hm hn
    by_cases h1 : (dig B64 m).length ≤ 79
    · exact mul_short a b m n w ha hb (by omega) (by omega) (.inl h1)
    · by_cases h2 : (dig B64 n).length ≤ 79
      · exact mul_short a b m n w ha hb (by omega) (by omega) (.inr h2)
      · exact mul_step (N := N + 1) (ih (by omega)) a b m n w ha hb hm hn h (by omega) (by omega)
theorem mulAt_all {m n : Nat} (hm : (dig B64 m).length ≤ 1000000000) (hn : (dig B64 n).length ≤ 1000000000) : MulAt m n := fun a b w ha hb => mulSpec_all _ (Nat.le_refl _) a b m n w ha hb hm hn
end Go.Proofs.Ytaegkhdkhgemmaa

namespace Go.Proofs.Ytaegkhdkhgemmaa
open Go.RowKit Num

set_option maxHeartbeats 400000 in
theorem mul_l (a b : Value) (m n : Nat) (w : World) (ha : N32 w a m) (hb : N32 w b n) (hm : (dig B32 m).length ≤ 1000) (hn : (dig B32 n).length ≤ 1000) : Calls Try.prog 72 #[a, b] w (NumRet w (m * n)) := by
  have lm := words_le (n := m) (K := 500) hm
  have ln := words_le (n := n) (K := 500) hn
  have h := mul_at (N := 500) a b m n w (mulAt_all (by omega) (by omega)) (by omega) ha hb (by omega) (by omega) (by omega) (by omega) (Nat.le_trans (bits_of_len (len_mul hm hn)) (by omega))
  have H := Lib.hid h
  clear h ha hb
  go_enter Try.func72, Try.ntmps72
  go_wp2_with (go_at_call 45; refine H.out.mono ?_; rintro e w1 ⟨v, rfl, hv, hb1⟩)
  go_ret
  exact ⟨_, rfl, hv.is, hb1⟩
theorem dig32_mono {b m n : Nat} (hb : 2 ≤ b) (h : m ≤ n) : (dig b m).length ≤ (dig b n).length := dig_len_le hb (Nat.lt_of_le_of_lt h (dig_len_lt hb))

set_option maxHeartbeats 4000000 in
set_option maxRecDepth 100000 in
/-- The law NatSquares, for whatever limbs. -/
theorem squares_walk (A A1 : Option Addr) (c c1 L L1 : Nat) (xs ys : List Nat) (w : World) (hA : Nums .u32 w A xs) (hA1 : Nums .u32 w A1 ys) (hx : Low B32 xs) (hy : Low B32 ys)
    (hL : L = xs.length) (hL1 : L1 = ys.length) (hc : L ≤ c) (hc1 : L1 ≤ c1) (hnil : A = none → c = 0) (hnil1 : A1 = none → c1 = 0) :
    Calls Try.prog 16 #[.slice A L c, .slice A1 L1 c1] w (LivesPost w) := by
  have hw0 := fun w' (h : Below w.heap.size w w') => whole_any A c L 400 xs w' (hA.keep h) hx hL hc hnil (by omega)
  have hw1 := fun w' (h : Below w.heap.size w w') => whole_any A1 c1 L1 400 ys w' (hA1.keep h) hy hL1 hc1 hnil1 (by omega)
  have lp := whole_len hx 400
  have lq := whole_len hy 400
  generalize val B32 (xs.take 400) = p at *
  generalize val B32 (ys.take 400) = q at *
  have hcm := fun a b w h k => cmp_ok a b p q w h k (by omega) (by omega)
  obtain ⟨cv, hcv⟩ : ∃ cv, cmpN p q = cv := ⟨_, rfl⟩
  rw [hcv] at hcm
  have hcase : (cv < 0 ∧ p ≤ q) ∨ (¬ cv < 0 ∧ q ≤ p) := by
    rcases Nat.lt_trichotomy p q with h | h | h
    · rw [cmpN_lt h] at hcv; exact .inl ⟨by omega, Nat.le_of_lt h⟩
    · subst h; rw [cmpN_eq] at hcv; exact .inr ⟨by omega, Nat.le_refl _⟩
    · rw [cmpN_gt h] at hcv; exact .inr ⟨by omega, Nat.le_of_lt h⟩
  have HW0 := Lib.hid hw0
  have HW1 := Lib.hid hw1
  have HC := Lib.hid hcm
  clear hw0 hw1 hcm hcv hA hA1 hx hy hL hL1 hc hc1 hnil hnil1
  rcases hcase with ⟨hneg, hle⟩ | ⟨hneg, hle⟩
  · have lmm := len_mul lq lq
    have lnn := len_mul lp lp
    have lad : (dig B32 (q + p)).length ≤ 401 := len_add (by omega) (by omega)
    have lsb : (dig B32 (q - p)).length ≤ 400 := Nat.le_trans (dig32_mono b32_two (Nat.sub_le _ _)) lq
    have lpr := len_mul lad lsb
    have hmm := fun a b w h k => mul_l a b q q w h k (by omega) (by omega)
    have hnn := fun a b w h k => mul_l a b p p w h k (by omega) (by omega)
    have hsq := fun a b w h k => sub_n a b (q * q) (p * p) w h k (by omega) (by omega) (Nat.mul_le_mul hle hle)
    have had := fun a b w h k => add_n a b q p w h k (by omega) (by omega)
    have hsb := fun a b w h k => sub_n a b q p w h k (by omega) (by omega) hle
    have hml := fun a b w h k => mul_l a b (q + p) (q - p) w h k (by omega) (by omega)
    have hsm := fun a b w h k => same_n a b ((q + p) * (q - p)) w h k (by omega)
    rw [Nat.mul_self_sub_mul_self_eq] at hsq
    have HMMM := Lib.hid hmm
    have HM16 := Lib.hid hnn
    have HSQ := Lib.hid hsq
    have HADD := Lib.hid had
    have HSUB := Lib.hid hsb
    have HMUL := Lib.hid hml
    have HSAME := Lib.hid hsm
    clear hmm hnn hsq had hsb hml hsm lmm lnn lad lsb lpr hle lp lq
    go_enter Try.func16, Try.ntmps16
    go_wp2_with (fail)
    refine (HW0.out _ (Below.refl _ _)).mono ?_
    rintro e x1 ⟨va, rfl, g1, hb1⟩
    have b1 := hb1
    go_wp2_with (fail)
    refine (HW1.out _ b1).mono ?_
    rintro e x2 ⟨vb, rfl, g2, hb2⟩
    have b2 := below_at b1 (Nat.le_refl _) hb2
    have va_2 := g1.keep hb2
    go_wp2_with (fail)
    refine (HC.out _ _ _ va_2 g2).mono ?_
    rintro e x3 ⟨rfl, hb3⟩
    have b3 := below_at b2 (Nat.le_refl _) hb3
    have va_3 := va_2.keep hb3
    have vb_3 := g2.keep hb3
    go_wp2_with (fail)
    refine (lives_any _).mono ?_
    rintro e x4 ⟨rfl, hb4⟩
    have b4 := below_at b3 (Nat.le_refl _) hb4
    have kva := va_3.keep hb4
    have kvb := vb_3.keep hb4
    go_wp2_with (fail)
    refine (HMMM.out _ _ _ kvb kvb).mono ?_
    rintro e x5 ⟨u1, rfl, g5, hb5⟩
    have b5 := below_at b4 (Nat.le_refl _) hb5
    have vb_5 := kvb.keep hb5
    have va_5 := kva.keep hb5
    go_wp2_with (fail)
    refine (HM16.out _ _ _ va_5 va_5).mono ?_
    rintro e x6 ⟨u2, rfl, g6, hb6⟩
    have b6 := below_at b5 (Nat.le_refl _) hb6
    have vb_6 := vb_5.keep hb6
    have va_6 := va_5.keep hb6
    have u1_6 := g5.keep hb6
    go_wp2_with (fail)
    refine (HSQ.out _ _ _ u1_6 g6).mono ?_
    rintro e x7 ⟨u3, rfl, g7, hb7⟩
    have b7 := below_at b6 (Nat.le_refl _) hb7
    have vb_7 := vb_6.keep hb7
    have va_7 := va_6.keep hb7
    have u1_7 := u1_6.keep hb7
    have u2_7 := g6.keep hb7
    go_wp2_with (fail)
    refine (HADD.out _ _ _ vb_7 va_7).mono ?_
    rintro e x8 ⟨u4, rfl, g8, hb8⟩
    have b8 := below_at b7 (Nat.le_refl _) hb8
    have vb_8 := vb_7.keep hb8
    have va_8 := va_7.keep hb8
    have u1_8 := u1_7.keep hb8
    have u2_8 := u2_7.keep hb8
    have u3_8 := g7.keep hb8
    go_wp2_with (fail)
    refine (HSUB.out _ _ _ vb_8 va_8).mono ?_
    rintro e x9 ⟨u5, rfl, g9, hb9⟩
    have b9 := below_at b8 (Nat.le_refl _) hb9
    have vb_9 := vb_8.keep hb9
    have va_9 := va_8.keep hb9
    have u1_9 := u1_8.keep hb9
    have u2_9 := u2_8.keep hb9
    have u3_9 := u3_8.keep hb9
    have u4_9 := g8.keep hb9
    go_wp2_with (fail)
    refine (HMUL.out _ _ _ u4_9 g9).mono ?_
    rintro e x10 ⟨u6, rfl, g10, hb10⟩
    have b10 := below_at b9 (Nat.le_refl _) hb10
    have vb_10 := vb_9.keep hb10
    have va_10 := va_9.keep hb10
    have u1_10 := u1_9.keep hb10
    have u2_10 := u2_9.keep hb10
    have u3_10 := u3_9.keep hb10
    have u4_10 := u4_9.keep hb10
    have u5_10 := g9.keep hb10
    go_wp2_with (fail)
    refine (HSAME.out _ _ _ u3_10 g10).mono ?_
    rintro e x11 ⟨rfl, hb11⟩
    have b11 := below_at b10 (Nat.le_refl _) hb11
    go_wp2_with (fail)
    go_ret
    exact ⟨rfl, b11⟩
  · have lmm := len_mul lp lp
    have lnn := len_mul lq lq
    have lad : (dig B32 (p + q)).length ≤ 401 := len_add (by omega) (by omega)
    have lsb : (dig B32 (p - q)).length ≤ 400 := Nat.le_trans (dig32_mono b32_two (Nat.sub_le _ _)) lp
    have lpr := len_mul lad lsb
    have hmm := fun a b w h k => mul_l a b p p w h k (by omega) (by omega)
    have hnn := fun a b w h k => mul_l a b q q w h k (by omega) (by omega)
    have hsq := fun a b w h k => sub_n a b (p * p) (q * q) w h k (by omega) (by omega) (Nat.mul_le_mul hle hle)
    have had := fun a b w h k => add_n a b p q w h k (by omega) (by omega)
    have hsb := fun a b w h k => sub_n a b p q w h k (by omega) (by omega) hle
    have hml := fun a b w h k => mul_l a b (p + q) (p - q) w h k (by omega) (by omega)
    have hsm := fun a b w h k => same_n a b ((p + q) * (p - q)) w h k (by omega)
    rw [Nat.mul_self_sub_mul_self_eq] at hsq
    have HMMM := Lib.hid hmm
    have HM16 := Lib.hid hnn
    have HSQ := Lib.hid hsq
    have HADD := Lib.hid had
    have HSUB := Lib.hid hsb
    have HMUL := Lib.hid hml
    have HSAME := Lib.hid hsm
    clear hmm hnn hsq had hsb hml hsm lmm lnn lad lsb lpr hle lp lq
    go_enter Try.func16, Try.ntmps16
    go_wp2_with (fail)
    refine (HW0.out _ (Below.refl _ _)).mono ?_
    rintro e x1 ⟨va, rfl, g1, hb1⟩
    have b1 := hb1
    go_wp2_with (fail)
    refine (HW1.out _ b1).mono ?_
    rintro e x2 ⟨vb, rfl, g2, hb2⟩
    have b2 := below_at b1 (Nat.le_refl _) hb2
    have va_2 := g1.keep hb2
    go_wp2_with (fail)
    refine (HC.out _ _ _ va_2 g2).mono ?_
    rintro e x3 ⟨rfl, hb3⟩
    have b3 := below_at b2 (Nat.le_refl _) hb3
    have va_3 := va_2.keep hb3
    have vb_3 := g2.keep hb3
    go_wp2_with (fail)
    refine (lives_any _).mono ?_
    rintro e x4 ⟨rfl, hb4⟩
    have b4 := below_at b3 (Nat.le_refl _) hb4
    have kva := va_3.keep hb4
    have kvb := vb_3.keep hb4
    go_wp2_with (fail)
    refine (HMMM.out _ _ _ kva kva).mono ?_
    rintro e x5 ⟨u1, rfl, g5, hb5⟩
    have b5 := below_at b4 (Nat.le_refl _) hb5
    have va_5 := kva.keep hb5
    have vb_5 := kvb.keep hb5
    go_wp2_with (fail)
    refine (HM16.out _ _ _ vb_5 vb_5).mono ?_
    rintro e x6 ⟨u2, rfl, g6, hb6⟩
    have b6 := below_at b5 (Nat.le_refl _) hb6
    have va_6 := va_5.keep hb6
    have vb_6 := vb_5.keep hb6
    have u1_6 := g5.keep hb6
    go_wp2_with (fail)
    refine (HSQ.out _ _ _ u1_6 g6).mono ?_
    rintro e x7 ⟨u3, rfl, g7, hb7⟩
    have b7 := below_at b6 (Nat.le_refl _) hb7
    have va_7 := va_6.keep hb7
    have vb_7 := vb_6.keep hb7
    have u1_7 := u1_6.keep hb7
    have u2_7 := g6.keep hb7
    go_wp2_with (fail)
    refine (HADD.out _ _ _ va_7 vb_7).mono ?_
    rintro e x8 ⟨u4, rfl, g8, hb8⟩
    have b8 := below_at b7 (Nat.le_refl _) hb8
    have va_8 := va_7.keep hb8
    have vb_8 := vb_7.keep hb8
    have u1_8 := u1_7.keep hb8
    have u2_8 := u2_7.keep hb8
    have u3_8 := g7.keep hb8
    go_wp2_with (fail)
    refine (HSUB.out _ _ _ va_8 vb_8).mono ?_
    rintro e x9 ⟨u5, rfl, g9, hb9⟩
    have b9 := below_at b8 (Nat.le_refl _) hb9
    have va_9 := va_8.keep hb9
    have vb_9 := vb_8.keep hb9
    have u1_9 := u1_8.keep hb9
    have u2_9 := u2_8.keep hb9
    have u3_9 := u3_8.keep hb9
    have u4_9 := g8.keep hb9
    go_wp2_with (fail)
    refine (HMUL.out _ _ _ u4_9 g9).mono ?_
    rintro e x10 ⟨u6, rfl, g10, hb10⟩
    have b10 := below_at b9 (Nat.le_refl _) hb10
    have va_10 := va_9.keep hb10
    have vb_10 := vb_9.keep hb10
    have u1_10 := u1_9.keep hb10
    have u2_10 := u2_9.keep hb10
    have u3_10 := u3_9.keep hb10
    have u4_10 := u4_9.keep hb10
    have u5_10 := g9.keep hb10
    go_wp2_with (fail)
    refine (HSAME.out _ _ _ u3_10 g10).mono ?_
    rintro e x11 ⟨rfl, hb11⟩
    have b11 := below_at b10 (Nat.le_refl _) hb11
    go_wp2_with (fail)
    go_ret
    exact ⟨rfl, b11⟩
end Go.Proofs.Ytaegkhdkhgemmaa

namespace Go.Proofs.Ytaegkhdkhgemmaa
open Go.RowKit Num

theorem words_half {n K : Nat} (h : (dig B32 n).length ≤ K) : (dig B64 n).length ≤ (K + 1) / 2 := words_le (by omega)
theorem pos_len {n : Nat} (h : n ≠ 0) : 0 < (dig B32 n).length := by
  rcases Nat.eq_zero_or_pos (dig B32 n).length with h1 | h1
  · exact absurd ((dig_nil_iff b32_two).1 (List.eq_nil_of_length_eq_zero h1)) h
  · exact h1
set_option maxHeartbeats 2000000 in
set_option maxRecDepth 100000 in
theorem quot_zero (A A1 : Option Addr) (c c1 L L1 : Nat) (xs ys : List Nat) (w : World) (hA : Nums .u32 w A xs) (hA1 : Nums .u32 w A1 ys) (hx : Low B32 xs) (hy : Low B32 ys) (hL : L = xs.length) (hL1 : L1 = ys.length) (hc : L ≤ c) (hc1 : L1 ≤ c1) (hnil : A = none → c = 0) (hnil1 : A1 = none → c1 = 0) (hz : val B32 (ys.take 150) = 0) :
    Calls Try.prog 17 #[.slice A L c, .slice A1 L1 c1] w (LivesPost w) := by
  have hw1 := fun w' (h : Below w.heap.size w w') => whole_any A c L 300 xs w' (hA.keep h) hx hL hc hnil (by omega)
  have hw2 := fun w' (h : Below w.heap.size w w') => whole_any A1 c1 L1 150 ys w' (hA1.keep h) hy hL1 hc1 hnil1 (by omega)
  have l1 : (dig B32 (val B32 (xs.take 300))).length ≤ 300 := whole_len hx 300
  have l2 : (dig B32 (val B32 (ys.take 150))).length ≤ 150 := whole_len hy 150
  generalize val B32 (xs.take 300) = m at *
  generalize val B32 (ys.take 150) = n at *
  have hD : (dig B32 n).length = 0 := by rw [hz, dig_zero]; rfl
  have HW1 := Lib.hid hw1
  have HW2 := Lib.hid hw2
  have HD := Lib.hid hD
  clear hw1 hw2 hD
  clear hz
  clear hA hA1 hx hy hL hL1 hnil hnil1 l1 l2
  go_enter Try.func17, Try.ntmps17
  go_wp2_with (fail)
  refine (HW1.out _ (Below.refl _ _)).mono ?_
  rintro e w1 ⟨va, rfl, hva, hb1⟩
  have b1 := below_at (Below.refl _ _) (Nat.le_refl _) hb1
  have ka_1 := hva
  go_wp2_with (fail)
  refine (HW2.out _ b1).mono ?_
  rintro e w2 ⟨vb, rfl, hvb, hb2⟩
  have b2 := below_at b1 (Nat.le_refl _) hb2
  have ka_2 := ka_1.keep hb2
  have kb_2 := hvb
  have kk := kb_2
  obtain ⟨A2, c2, hve, hcc, _⟩ := kk
  rw [HD.out] at hve
  subst hve
  go_wp2_with (fail)
  refine (lives_any _).mono ?_
  rintro e w3 ⟨rfl, hb3⟩
  have b3 := below_at b2 (Nat.le_refl _) hb3
  have ka_3 := ka_2.keep hb3
  have kb_3 := kb_2.keep hb3
  go_wp2
  go_ret
  exact ⟨rfl, b3⟩

set_option maxHeartbeats 2000000 in
set_option maxRecDepth 100000 in
theorem quot_pos (A A1 : Option Addr) (c c1 L L1 : Nat) (xs ys : List Nat) (w : World) (hA : Nums .u32 w A xs) (hA1 : Nums .u32 w A1 ys) (hx : Low B32 xs) (hy : Low B32 ys) (hL : L = xs.length) (hL1 : L1 = ys.length) (hc : L ≤ c) (hc1 : L1 ≤ c1) (hnil : A = none → c = 0) (hnil1 : A1 = none → c1 = 0) (hz : val B32 (ys.take 150) ≠ 0) :
    Calls Try.prog 17 #[.slice A L c, .slice A1 L1 c1] w (LivesPost w) := by
  have hw1 := fun w' (h : Below w.heap.size w w') => whole_any A c L 300 xs w' (hA.keep h) hx hL hc hnil (by omega)
  have hw2 := fun w' (h : Below w.heap.size w w') => whole_any A1 c1 L1 150 ys w' (hA1.keep h) hy hL1 hc1 hnil1 (by omega)
  have l1 : (dig B32 (val B32 (xs.take 300))).length ≤ 300 := whole_len hx 300
  have l2 : (dig B32 (val B32 (ys.take 150))).length ≤ 150 := whole_len hy 150
  generalize val B32 (xs.take 300) = m at *
  generalize val B32 (ys.take 150) = n at *
  have hp := pos_len hz
  have w2 := words_half l2
  have lq : (dig B32 (m / n)).length ≤ 300 := Nat.le_trans (dig32_mono b32_two (Nat.div_le_self _ _)) l1
  have lr : (dig B32 (m % n)).length ≤ 300 := Nat.le_trans (dig32_mono b32_two (Nat.mod_le _ _)) l1
  have e1 : m / n * n + m % n = m := by rw [Nat.mul_comm]; exact Nat.div_add_mod m n
  have lp : (dig B32 (m / n * n)).length ≤ 300 := Nat.le_trans (dig32_mono b32_two (by omega)) l1
  have h47 := fun a b w' (h : N32 w' a m) (k : N32 w' b n) => divMod_ok a b m n w' h k (by omega) (by omega) (by omega) (.inl (by omega))
  have hcq := fun v w' (h : N32 w' v (m / n)) => check_l v _ w' (Limbs.num h (by omega))
  have hcr := fun v w' (h : N32 w' v (m % n)) => check_l v _ w' (Limbs.num h (by omega))
  rw [chk_dig (by omega)] at hcq hcr
  have h39 := fun a b w' (h : N32 w' a (m % n)) (k : N32 w' b n) => cmp_ok a b _ n w' h k (by omega) (by omega)
  rw [cmpN_lt (Nat.mod_lt _ (by omega))] at h39
  have h72 := fun a b w' (h : N32 w' a (m / n)) (k : N32 w' b n) => mul_l a b _ n w' h k (by omega) (by omega)
  have h71 := fun a b w' (h : N32 w' a (m / n * n)) (k : N32 w' b (m % n)) => add_n a b _ _ w' h k (by omega) (by omega)
  rw [e1] at h71
  have h70 := fun a b w' (h : N32 w' a m) (k : N32 w' b m) => same_n a b m w' h k (by omega)
  obtain ⟨D, hD⟩ : ∃ D, (dig B32 n).length = D := ⟨_, rfl⟩
  rw [hD] at hp
  have HW1 := Lib.hid hw1
  have HW2 := Lib.hid hw2
  have H47 := Lib.hid h47
  have HCQ := Lib.hid hcq
  have HCR := Lib.hid hcr
  have H39 := Lib.hid h39
  have H72 := Lib.hid h72
  have H71 := Lib.hid h71
  have H70 := Lib.hid h70
  have HD := Lib.hid hD
  clear hw1 hw2 h47 hcq hcr h39 h72 h71 h70 hD
  clear hz w2 lq lr e1 lp
  clear hA hA1 hx hy hL hL1 hnil hnil1 l1 l2
  go_enter Try.func17, Try.ntmps17
  go_wp2_with (fail)
  refine (HW1.out _ (Below.refl _ _)).mono ?_
  rintro e w1 ⟨va, rfl, hva, hb1⟩
  have b1 := below_at (Below.refl _ _) (Nat.le_refl _) hb1
  have ka_1 := hva
  go_wp2_with (fail)
  refine (HW2.out _ b1).mono ?_
  rintro e w2 ⟨vb, rfl, hvb, hb2⟩
  have b2 := below_at b1 (Nat.le_refl _) hb2
  have ka_2 := ka_1.keep hb2
  have kb_2 := hvb
  have kk := kb_2
  obtain ⟨A2, c2, hve, hcc, _⟩ := kk
  rw [HD.out] at hve
  subst hve
  go_wp2_with (fail)
  refine (H47.out _ _ _ ka_2 kb_2).mono ?_
  rintro e w3 ⟨q, r, rfl, hq, hr, hb3⟩
  have b3 := below_at b2 (Nat.le_refl _) hb3
  have ka_3 := ka_2.keep hb3
  have kb_3 := kb_2.keep hb3
  have kq_3 := hq.is
  have kr_3 := hr.is
  go_wp2_with (fail)
  refine (HCQ.out _ _ kq_3).mono ?_
  rintro e w4 ⟨rfl, rfl⟩
  go_wp2_with (fail)
  refine (HCR.out _ _ kr_3).mono ?_
  rintro e w5 ⟨rfl, rfl⟩
  go_wp2_with (fail)
  refine (H39.out _ _ _ kr_3 kb_3).mono ?_
  rintro e w6 ⟨rfl, hb6⟩
  have b6 := below_at b3 (Nat.le_refl _) hb6
  have ka_6 := ka_3.keep hb6
  have kb_6 := kb_3.keep hb6
  have kq_6 := kq_3.keep hb6
  have kr_6 := kr_3.keep hb6
  go_wp2_with (fail)
  refine (H72.out _ _ _ kq_6 kb_6).mono ?_
  rintro e w7 ⟨vp, rfl, hvp, hb7⟩
  have b7 := below_at b6 (Nat.le_refl _) hb7
  have ka_7 := ka_6.keep hb7
  have kr_7 := kr_6.keep hb7
  have kp_7 := hvp
  go_wp2_with (fail)
  refine (H71.out _ _ _ kp_7 kr_7).mono ?_
  rintro e w8 ⟨vs, rfl, hvs, hb8⟩
  have b8 := below_at b7 (Nat.le_refl _) hb8
  have ka_8 := ka_7.keep hb8
  have ks_8 := hvs
  go_wp2_with (fail)
  refine (H70.out _ _ _ ks_8 ka_8).mono ?_
  rintro e w9 ⟨rfl, hb9⟩
  have b9 := below_at b8 (Nat.le_refl _) hb9
  go_wp2_with (fail)
  refine (lives_any _).mono ?_
  rintro e w10 ⟨rfl, hb10⟩
  have b10 := below_at b9 (Nat.le_refl _) hb10
  go_wp2
  go_ret
  exact ⟨rfl, b10⟩

/-- The law NatQuotient, for whatever limbs. -/
theorem quot_walk (A A1 : Option Addr) (c c1 L L1 : Nat) (xs ys : List Nat) (w : World) (hA : Nums .u32 w A xs) (hA1 : Nums .u32 w A1 ys) (hx : Low B32 xs) (hy : Low B32 ys) (hL : L = xs.length) (hL1 : L1 = ys.length) (hc : L ≤ c) (hc1 : L1 ≤ c1) (hnil : A = none → c = 0) (hnil1 : A1 = none → c1 = 0) : Calls Try.prog 17 #[.slice A L c, .slice A1 L1 c1] w (LivesPost w) := by
  by_cases hz : val B32 (ys.take 150) = 0
  · exact quot_zero A A1 c c1 L L1 xs ys w hA hA1 hx hy hL hL1 hc hc1 hnil hnil1 hz
  · exact quot_pos A A1 c c1 L L1 xs ys w hA hA1 hx hy hL hL1 hc hc1 hnil hnil1 hz

set_option maxHeartbeats 2000000 in
set_option maxRecDepth 100000 in
theorem quotOf_ge (A A1 A2 : Option Addr) (c c1 c2 L L1 L2 : Nat) (xs ys zs : List Nat) (w : World) (hA : Nums .u32 w A xs) (hA1 : Nums .u32 w A1 ys) (hA2 : Nums .u32 w A2 zs) (hx : Low B32 xs) (hy : Low B32 ys) (hzl : Low B32 zs) (hL : L = xs.length) (hL1 : L1 = ys.length) (hL2 : L2 = zs.length) (hc : L ≤ c) (hc1 : L1 ≤ c1) (hc2 : L2 ≤ c2) (hnil : A = none → c = 0) (hnil1 : A1 = none → c1 = 0) (hnil2 : A2 = none → c2 = 0) (hcmp : val B32 (ys.take 100) ≤ val B32 (zs.take 100)) :
    Calls Try.prog 18 #[.slice A L c, .slice A1 L1 c1, .slice A2 L2 c2] w (LivesPost w) := by
  have hw1 := fun w' (h : Below w.heap.size w w') => whole_any A c L 100 xs w' (hA.keep h) hx hL hc hnil (by omega)
  have hw2 := fun w' (h : Below w.heap.size w w') => whole_any A1 c1 L1 100 ys w' (hA1.keep h) hy hL1 hc1 hnil1 (by omega)
  have hw3 := fun w' (h : Below w.heap.size w w') => whole_any A2 c2 L2 100 zs w' (hA2.keep h) hzl hL2 hc2 hnil2 (by omega)
  have l1 : (dig B32 (val B32 (xs.take 100))).length ≤ 100 := whole_len hx 100
  have l2 : (dig B32 (val B32 (ys.take 100))).length ≤ 100 := whole_len hy 100
  have l3 : (dig B32 (val B32 (zs.take 100))).length ≤ 100 := whole_len hzl 100
  generalize val B32 (xs.take 100) = q at *
  generalize val B32 (ys.take 100) = n at *
  generalize val B32 (zs.take 100) = r at *
  have h42 := fun a b w' (h : N32 w' a r) (k : N32 w' b n) => refCmp_call a b r n w' h k (by omega) (by omega)
  have hc0 : 0 ≤ cmpN r n := by
    rcases Nat.lt_or_ge n r with h | h
    · rw [cmpN_gt h]; omega
    · obtain rfl : r = n := by omega
      rw [cmpN_eq]; omega
  generalize cmpN r n = cc at *
  have HW1 := Lib.hid hw1
  have HW2 := Lib.hid hw2
  have HW3 := Lib.hid hw3
  have H42 := Lib.hid h42
  clear hw1 hw2 hw3 h42
  clear hcmp
  clear hA hA1 hA2 hx hy hzl hL hL1 hL2 hnil hnil1 hnil2 l1 l2 l3
  go_enter Try.func18, Try.ntmps18
  go_wp2_with (fail)
  refine (HW1.out _ (Below.refl _ _)).mono ?_
  rintro e w1 ⟨va, rfl, hva, hb1⟩
  have b1 := below_at (Below.refl _ _) (Nat.le_refl _) hb1
  have ka_1 := hva
  go_wp2_with (fail)
  refine (HW2.out _ b1).mono ?_
  rintro e w2 ⟨vb, rfl, hvb, hb2⟩
  have b2 := below_at b1 (Nat.le_refl _) hb2
  have ka_2 := ka_1.keep hb2
  have kb_2 := hvb
  go_wp2_with (fail)
  refine (HW3.out _ b2).mono ?_
  rintro e w3 ⟨vc, rfl, hvc, hb3⟩
  have b3 := below_at b2 (Nat.le_refl _) hb3
  have ka_3 := ka_2.keep hb3
  have kb_3 := kb_2.keep hb3
  have kc_3 := hvc
  go_wp2_with (fail)
  refine (H42.out _ _ _ kc_3 kb_3).mono ?_
  rintro e w4 ⟨rfl, hb4⟩
  have b4 := below_at b3 (Nat.le_refl _) hb4
  have ka_4 := ka_3.keep hb4
  have kb_4 := kb_3.keep hb4
  have kc_4 := kc_3.keep hb4
  go_wp2_with (fail)
  refine (lives_any _).mono ?_
  rintro e w5 ⟨rfl, hb5⟩
  have b5 := below_at b4 (Nat.le_refl _) hb5
  have ka_5 := ka_4.keep hb5
  have kb_5 := kb_4.keep hb5
  have kc_5 := kc_4.keep hb5
  go_wp2
  go_ret
  exact ⟨rfl, b5⟩

set_option maxHeartbeats 2000000 in
set_option maxRecDepth 100000 in
theorem quotOf_lt (A A1 A2 : Option Addr) (c c1 c2 L L1 L2 : Nat) (xs ys zs : List Nat) (w : World) (hA : Nums .u32 w A xs) (hA1 : Nums .u32 w A1 ys) (hA2 : Nums .u32 w A2 zs) (hx : Low B32 xs) (hy : Low B32 ys) (hzl : Low B32 zs) (hL : L = xs.length) (hL1 : L1 = ys.length) (hL2 : L2 = zs.length) (hc : L ≤ c) (hc1 : L1 ≤ c1) (hc2 : L2 ≤ c2) (hnil : A = none → c = 0) (hnil1 : A1 = none → c1 = 0) (hnil2 : A2 = none → c2 = 0) (hcmp : val B32 (zs.take 100) < val B32 (ys.take 100)) :
    Calls Try.prog 18 #[.slice A L c, .slice A1 L1 c1, .slice A2 L2 c2] w (LivesPost w) := by
  have hw1 := fun w' (h : Below w.heap.size w w') => whole_any A c L 100 xs w' (hA.keep h) hx hL hc hnil (by omega)
  have hw2 := fun w' (h : Below w.heap.size w w') => whole_any A1 c1 L1 100 ys w' (hA1.keep h) hy hL1 hc1 hnil1 (by omega)
  have hw3 := fun w' (h : Below w.heap.size w w') => whole_any A2 c2 L2 100 zs w' (hA2.keep h) hzl hL2 hc2 hnil2 (by omega)
  have l1 : (dig B32 (val B32 (xs.take 100))).length ≤ 100 := whole_len hx 100
  have l2 : (dig B32 (val B32 (ys.take 100))).length ≤ 100 := whole_len hy 100
  have l3 : (dig B32 (val B32 (zs.take 100))).length ≤ 100 := whole_len hzl 100
  generalize val B32 (xs.take 100) = q at *
  generalize val B32 (ys.take 100) = n at *
  generalize val B32 (zs.take 100) = r at *
  have h42 := fun a b w' (h : N32 w' a r) (k : N32 w' b n) => refCmp_call a b r n w' h k (by omega) (by omega)
  rw [cmpN_lt hcmp] at h42
  have lp : (dig B32 (q * n)).length ≤ 200 := len_mul l1 l2
  have ls : (dig B32 (q * n + r)).length ≤ 201 := len_add lp (by omega)
  have w2 := words_half l2
  have e1 : (q * n + r) / n = q := by rw [Nat.mul_comm, Nat.mul_add_div (by omega), Nat.div_eq_of_lt hcmp]; rfl
  have e2 : (q * n + r) % n = r := by rw [Nat.mul_comm, Nat.mul_add_mod, Nat.mod_eq_of_lt hcmp]
  have h72 := fun a b w' (h : N32 w' a q) (k : N32 w' b n) => mul_l a b _ n w' h k (by omega) (by omega)
  have h71 := fun a b w' (h : N32 w' a (q * n)) (k : N32 w' b r) => add_n a b _ _ w' h k (by omega) (by omega)
  have h47 := fun a b w' (h : N32 w' a (q * n + r)) (k : N32 w' b n) => divMod_ok a b _ n w' h k (by omega) (by omega) (by omega) (.inl (by omega))
  rw [e1, e2] at h47
  have h70 := fun a b w' (h : N32 w' a q) (k : N32 w' b q) => same_n a b q w' h k (by omega)
  have h70r := fun a b w' (h : N32 w' a r) (k : N32 w' b r) => same_n a b r w' h k (by omega)
  have HW1 := Lib.hid hw1
  have HW2 := Lib.hid hw2
  have HW3 := Lib.hid hw3
  have H42 := Lib.hid h42
  have H72 := Lib.hid h72
  have H71 := Lib.hid h71
  have H47 := Lib.hid h47
  have H70 := Lib.hid h70
  have H70r := Lib.hid h70r
  clear hw1 hw2 hw3 h42 h72 h71 h47 h70 h70r
  clear hcmp lp ls w2 e1 e2
  clear hA hA1 hA2 hx hy hzl hL hL1 hL2 hnil hnil1 hnil2 l1 l2 l3
  go_enter Try.func18, Try.ntmps18
  go_wp2_with (fail)
  refine (HW1.out _ (Below.refl _ _)).mono ?_
  rintro e w1 ⟨va, rfl, hva, hb1⟩
  have b1 := below_at (Below.refl _ _) (Nat.le_refl _) hb1
  have ka_1 := hva
  go_wp2_with (fail)
  refine (HW2.out _ b1).mono ?_
  rintro e w2 ⟨vb, rfl, hvb, hb2⟩
  have b2 := below_at b1 (Nat.le_refl _) hb2
  have ka_2 := ka_1.keep hb2
  have kb_2 := hvb
  go_wp2_with (fail)
  refine (HW3.out _ b2).mono ?_
  rintro e w3 ⟨vc, rfl, hvc, hb3⟩
  have b3 := below_at b2 (Nat.le_refl _) hb3
  have ka_3 := ka_2.keep hb3
  have kb_3 := kb_2.keep hb3
  have kc_3 := hvc
  go_wp2_with (fail)
  refine (H42.out _ _ _ kc_3 kb_3).mono ?_
  rintro e w4 ⟨rfl, hb4⟩
  have b4 := below_at b3 (Nat.le_refl _) hb4
  have ka_4 := ka_3.keep hb4
  have kb_4 := kb_3.keep hb4
  have kc_4 := kc_3.keep hb4
  go_wp2_with (fail)
  refine (H72.out _ _ _ ka_4 kb_4).mono ?_
  rintro e w5 ⟨vp, rfl, hvp, hb5⟩
  have b5 := below_at b4 (Nat.le_refl _) hb5
  have ka_5 := ka_4.keep hb5
  have kb_5 := kb_4.keep hb5
  have kc_5 := kc_4.keep hb5
  have kp_5 := hvp
  go_wp2_with (fail)
  refine (H71.out _ _ _ kp_5 kc_5).mono ?_
  rintro e w6 ⟨vs, rfl, hvs, hb6⟩
  have b6 := below_at b5 (Nat.le_refl _) hb6
  have ka_6 := ka_5.keep hb6
  have kb_6 := kb_5.keep hb6
  have kc_6 := kc_5.keep hb6
  have ks_6 := hvs
  go_wp2_with (fail)
  refine (H47.out _ _ _ ks_6 kb_6).mono ?_
  rintro e w7 ⟨q', r', rfl, hq, hr, hb7⟩
  have b7 := below_at b6 (Nat.le_refl _) hb7
  have ka_7 := ka_6.keep hb7
  have kc_7 := kc_6.keep hb7
  have kq_7 := hq.is
  have kr_7 := hr.is
  go_wp2_with (fail)
  refine (H70.out _ _ _ kq_7 ka_7).mono ?_
  rintro e w8 ⟨rfl, hb8⟩
  have b8 := below_at b7 (Nat.le_refl _) hb8
  have kc_8 := kc_7.keep hb8
  have kr_8 := kr_7.keep hb8
  go_wp2_with (fail)
  refine (H70r.out _ _ _ kr_8 kc_8).mono ?_
  rintro e w9 ⟨rfl, hb9⟩
  have b9 := below_at b8 (Nat.le_refl _) hb9
  go_wp2_with (fail)
  refine (lives_any _).mono ?_
  rintro e w10 ⟨rfl, hb10⟩
  have b10 := below_at b9 (Nat.le_refl _) hb10
  go_wp2
  go_ret
  exact ⟨rfl, b10⟩

/-- The law NatQuotientOf, for whatever limbs. -/
theorem quotOf_walk (A A1 A2 : Option Addr) (c c1 c2 L L1 L2 : Nat) (xs ys zs : List Nat) (w : World) (hA : Nums .u32 w A xs) (hA1 : Nums .u32 w A1 ys) (hA2 : Nums .u32 w A2 zs) (hx : Low B32 xs) (hy : Low B32 ys) (hzl : Low B32 zs) (hL : L = xs.length) (hL1 : L1 = ys.length) (hL2 : L2 = zs.length) (hc : L ≤ c) (hc1 : L1 ≤ c1) (hc2 : L2 ≤ c2) (hnil : A = none → c = 0) (hnil1 : A1 = none → c1 = 0) (hnil2 : A2 = none → c2 = 0) : Calls Try.prog 18 #[.slice A L c, .slice A1 L1 c1, .slice A2 L2 c2] w (LivesPost w) := by
  rcases Nat.lt_or_ge (val B32 (zs.take 100)) (val B32 (ys.take 100)) with h | h
  · exact quotOf_lt A A1 A2 c c1 c2 L L1 L2 xs ys zs w hA hA1 hA2 hx hy hzl hL hL1 hL2 hc hc1 hc2 hnil hnil1 hnil2 h
  · exact quotOf_ge A A1 A2 c c1 c2 L L1 L2 xs ys zs w hA hA1 hA2 hx hy hzl hL hL1 hL2 hc hc1 hc2 hnil hnil1 hnil2 h
end Go.Proofs.Ytaegkhdkhgemmaa
