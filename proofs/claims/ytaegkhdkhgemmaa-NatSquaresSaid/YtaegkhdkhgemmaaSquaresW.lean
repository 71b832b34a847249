import Derived.Test.YtaegkhdkhgemmaaRingW
import Derived.Test.YtaegkhdkhgemmaaMulAll
namespace Go.Proofs.Ytaegkhdkhgemmaa
open Go.RowKit Num

set_option maxHeartbeats 400000 in
theorem mul_l (a b : Value) (m n : Nat) (w : World) (ha : N32 w a m) (hb : N32 w b n) (hm : (dig B32 m).length ≤ 1000) (hn : (dig B32 n).length ≤ 1000) : Calls Try.prog 72 #[a, b] w (NumRet w (m * n)) := by
  have lm := words_le (n := m) (K := 500) hm
  have ln := words_le (n := n) (K := 500) hn
  have h := mul_at (N := 500) a b m n w (mulAt_all (by omega) (by omega)) (by omega) ha hb (by omega) (by omega) (by omega) (by omega) (Nat.le_trans (bits_of_len (len_mul hm hn)) (by omega))
  have H := Lib.hid h
  clear h ha hb
  go_enter Try.func72, Try.ntmps72
  go_wp2_with (go_at_call 45; refine H.out.mono ?_; rintro e w1 ⟨v, rfl, hv, hb1⟩)
  go_ret
  exact ⟨_, rfl, hv.is, hb1⟩
theorem dig32_mono {b m n : Nat} (hb : 2 ≤ b) (h : m ≤ n) : (dig b m).length ≤ (dig b n).length := dig_len_le hb (Nat.lt_of_le_of_lt h (dig_len_lt hb))

set_option maxHeartbeats 4000000 in
set_option maxRecDepth 100000 in
/-- The law NatSquares, for whatever limbs. -/
theorem squares_walk (A A1 : Option Addr) (c c1 L L1 : Nat) (xs ys : List Nat) (w : World) (hA : Nums .u32 w A xs) (hA1 : Nums .u32 w A1 ys) (hx : Low B32 xs) (hy : Low B32 ys)
    (hL : L = xs.length) (hL1 : L1 = ys.length) (hc : L ≤ c) (hc1 : L1 ≤ c1) (hnil : A = none → c = 0) (hnil1 : A1 = none → c1 = 0) :
    Calls Try.prog 16 #[.slice A L c, .slice A1 L1 c1] w (LivesPost w) := by
  have hw0 := fun w' (h : Below w.heap.size w w') => whole_any A c L 400 xs w' (hA.keep h) hx hL hc hnil (by omega)
  have hw1 := fun w' (h : Below w.heap.size w w') => whole_any A1 c1 L1 400 ys w' (hA1.keep h) hy hL1 hc1 hnil1 (by omega)
  have lp := whole_len hx 400
  have lq := whole_len hy 400
  generalize val B32 (xs.take 400) = p at *
  generalize val B32 (ys.take 400) = q at *
  have hcm := fun a b w h k => cmp_ok a b p q w h k (by omega) (by omega)
  obtain ⟨cv, hcv⟩ : ∃ cv, cmpN p q = cv := ⟨_, rfl⟩
  rw [hcv] at hcm
  have hcase : (cv < 0 ∧ p ≤ q) ∨ (¬ cv < 0 ∧ q ≤ p) := by
    rcases Nat.lt_trichotomy p q with h | h | h
    · rw [cmpN_lt h] at hcv; exact .inl ⟨by omega, Nat.le_of_lt h⟩
    · subst h; rw [cmpN_eq] at hcv; exact .inr ⟨by omega, Nat.le_refl _⟩
    · rw [cmpN_gt h] at hcv; exact .inr ⟨by omega, Nat.le_of_lt h⟩
  have HW0 := Lib.hid hw0
  have HW1 := Lib.hid hw1
  have HC := Lib.hid hcm
  clear hw0 hw1 hcm hcv hA hA1 hx hy hL hL1 hc hc1 hnil hnil1
  rcases hcase with ⟨hneg, hle⟩ | ⟨hneg, hle⟩
  · have lmm := len_mul lq lq
    have lnn := len_mul lp lp
    have lad : (dig B32 (q + p)).length ≤ 401 := len_add (by omega) (by omega)
    have lsb : (dig B32 (q - p)).length ≤ 400 := Nat.le_trans (dig32_mono b32_two (Nat.sub_le _ _)) lq
    have lpr := len_mul lad lsb
    have hmm := fun a b w h k => mul_l a b q q w h k (by omega) (by omega)
    have hnn := fun a b w h k => mul_l a b p p w h k (by omega) (by omega)
    have hsq := fun a b w h k => sub_n a b (q * q) (p * p) w h k (by omega) (by omega) (Nat.mul_le_mul hle hle)
    have had := fun a b w h k => add_n a b q p w h k (by omega) (by omega)
    have hsb := fun a b w h k => sub_n a b q p w h k (by omega) (by omega) hle
    have hml := fun a b w h k => mul_l a b (q + p) (q - p) w h k (by omega) (by omega)
    have hsm := fun a b w h k => same_n a b ((q + p) * (q - p)) w h k (by omega)
    rw [Nat.mul_self_sub_mul_self_eq] at hsq
    have HMMM := Lib.hid hmm
    have HM16 := Lib.hid hnn
    have HSQ := Lib.hid hsq
    have HADD := Lib.hid had
    have HSUB := Lib.hid hsb
    have HMUL := Lib.hid hml
    have HSAME := Lib.hid hsm
    clear hmm hnn hsq had hsb hml hsm lmm lnn lad lsb lpr hle lp lq
    go_enter Try.func16, Try.ntmps16
    go_wp2_with (fail)
    refine (HW0.out _ (Below.refl _ _)).mono ?_
    rintro e x1 ⟨va, rfl, g1, hb1⟩
    have b1 := hb1
    go_wp2_with (fail)
    refine (HW1.out _ b1).mono ?_
    rintro e x2 ⟨vb, rfl, g2, hb2⟩
    have b2 := below_at b1 (Nat.le_refl _) hb2
    have va_2 := g1.keep hb2
    go_wp2_with (fail)
    refine (HC.out _ _ _ va_2 g2).mono ?_
    rintro e x3 ⟨rfl, hb3⟩
    have b3 := below_at b2 (Nat.le_refl _) hb3
    have va_3 := va_2.keep hb3
    have vb_3 := g2.keep hb3
    go_wp2_with (fail)
    refine (lives_any _).mono ?_
    rintro e x4 ⟨rfl, hb4⟩
    have b4 := below_at b3 (Nat.le_refl _) hb4
    have kva := va_3.keep hb4
    have kvb := vb_3.keep hb4
    go_wp2_with (fail)
    refine (HMMM.out _ _ _ kvb kvb).mono ?_
    rintro e x5 ⟨u1, rfl, g5, hb5⟩
    have b5 := below_at b4 (Nat.le_refl _) hb5
    have vb_5 := kvb.keep hb5
    have va_5 := kva.keep hb5
    go_wp2_with (fail)
    refine (HM16.out _ _ _ va_5 va_5).mono ?_
    rintro e x6 ⟨u2, rfl, g6, hb6⟩
    have b6 := below_at b5 (Nat.le_refl _) hb6
    have vb_6 := vb_5.keep hb6
    have va_6 := va_5.keep hb6
    have u1_6 := g5.keep hb6
    go_wp2_with (fail)
    refine (HSQ.out _ _ _ u1_6 g6).mono ?_
    rintro e x7 ⟨u3, rfl, g7, hb7⟩
    have b7 := below_at b6 (Nat.le_refl _) hb7
    have vb_7 := vb_6.keep hb7
    have va_7 := va_6.keep hb7
    have u1_7 := u1_6.keep hb7
    have u2_7 := g6.keep hb7
    go_wp2_with (fail)
    refine (HADD.out _ _ _ vb_7 va_7).mono ?_
    rintro e x8 ⟨u4, rfl, g8, hb8⟩
    have b8 := below_at b7 (Nat.le_refl _) hb8
    have vb_8 := vb_7.keep hb8
    have va_8 := va_7.keep hb8
    have u1_8 := u1_7.keep hb8
    have u2_8 := u2_7.keep hb8
    have u3_8 := g7.keep hb8
    go_wp2_with (fail)
    refine (HSUB.out _ _ _ vb_8 va_8).mono ?_
    rintro e x9 ⟨u5, rfl, g9, hb9⟩
    have b9 := below_at b8 (Nat.le_refl _) hb9
    have vb_9 := vb_8.keep hb9
    have va_9 := va_8.keep hb9
    have u1_9 := u1_8.keep hb9
    have u2_9 := u2_8.keep hb9
    have u3_9 := u3_8.keep hb9
    have u4_9 := g8.keep hb9
    go_wp2_with (fail)
    refine (HMUL.out _ _ _ u4_9 g9).mono ?_
    rintro e x10 ⟨u6, rfl, g10, hb10⟩
    have b10 := below_at b9 (Nat.le_refl _) hb10
    have vb_10 := vb_9.keep hb10
    have va_10 := va_9.keep hb10
    have u1_10 := u1_9.keep hb10
    have u2_10 := u2_9.keep hb10
    have u3_10 := u3_9.keep hb10
    have u4_10 := u4_9.keep hb10
    have u5_10 := g9.keep hb10
    go_wp2_with (fail)
    refine (HSAME.out _ _ _ u3_10 g10).mono ?_
    rintro e x11 ⟨rfl, hb11⟩
    have b11 := below_at b10 (Nat.le_refl _) hb11
    go_wp2_with (fail)
    go_ret
    exact ⟨rfl, b11⟩
  · have lmm := len_mul lp lp
    have lnn := len_mul lq lq
    have lad : (dig B32 (p + q)).length ≤ 401 := len_add (by omega) (by omega)
    have lsb : (dig B32 (p - q)).length ≤ 400 := Nat.le_trans (dig32_mono b32_two (Nat.sub_le _ _)) lp
    have lpr := len_mul lad lsb
    have hmm := fun a b w h k => mul_l a b p p w h k (by omega) (by omega)
    have hnn := fun a b w h k => mul_l a b q q w h k (by omega) (by omega)
    have hsq := fun a b w h k => sub_n a b (p * p) (q * q) w h k (by omega) (by omega) (Nat.mul_le_mul hle hle)
    have had := fun a b w h k => add_n a b p q w h k (by omega) (by omega)
    have hsb := fun a b w h k => sub_n a b p q w h k (by omega) (by omega) hle
    have hml := fun a b w h k => mul_l a b (p + q) (p - q) w h k (by omega) (by omega)
    have hsm := fun a b w h k => same_n a b ((p + q) * (p - q)) w h k (by omega)
    rw [Nat.mul_self_sub_mul_self_eq] at hsq
    have HMMM := Lib.hid hmm
    have HM16 := Lib.hid hnn
    have HSQ := Lib.hid hsq
    have HADD := Lib.hid had
    have HSUB := Lib.hid hsb
    have HMUL := Lib.hid hml
    have HSAME := Lib.hid hsm
    clear hmm hnn hsq had hsb hml hsm lmm lnn lad lsb lpr hle lp lq
    go_enter Try.func16, Try.ntmps16
    go_wp2_with (fail)
    refine (HW0.out _ (Below.refl _ _)).mono ?_
    rintro e x1 ⟨va, rfl, g1, hb1⟩
    have b1 := hb1
    go_wp2_with (fail)
    refine (HW1.out _ b1).mono ?_
    rintro e x2 ⟨vb, rfl, g2, hb2⟩
    have b2 := below_at b1 (Nat.le_refl _) hb2
    have va_2 := g1.keep hb2
    go_wp2_with (fail)
    refine (HC.out _ _ _ va_2 g2).mono ?_
    rintro e x3 ⟨rfl, hb3⟩
    have b3 := below_at b2 (Nat.le_refl _) hb3
    have va_3 := va_2.keep hb3
    have vb_3 := g2.keep hb3
    go_wp2_with (fail)
    refine (lives_any _).mono ?_
    rintro e x4 ⟨rfl, hb4⟩
    have b4 := below_at b3 (Nat.le_refl _) hb4
    have kva := va_3.keep hb4
    have kvb := vb_3.keep hb4
    go_wp2_with (fail)
    refine (HMMM.out _ _ _ kva kva).mono ?_
    rintro e x5 ⟨u1, rfl, g5, hb5⟩
    have b5 := below_at b4 (Nat.le_refl _) hb5
    have va_5 := kva.keep hb5
    have vb_5 := kvb.keep hb5
    go_wp2_with (fail)
    refine (HM16.out _ _ _ vb_5 vb_5).mono ?_
    rintro e x6 ⟨u2, rfl, g6, hb6⟩
    have b6 := below_at b5 (Nat.le_refl _) hb6
    have va_6 := va_5.keep hb6
    have vb_6 := vb_5.keep hb6
    have u1_6 := g5.keep hb6
    go_wp2_with (fail)
    refine (HSQ.out _ _ _ u1_6 g6).mono ?_
    rintro e x7 ⟨u3, rfl, g7, hb7⟩
    have b7 := below_at b6 (Nat.le_refl _) hb7
    have va_7 := va_6.keep hb7
    have vb_7 := vb_6.keep hb7
    have u1_7 := u1_6.keep hb7
    have u2_7 := g6.keep hb7
    go_wp2_with (fail)
    refine (HADD.out _ _ _ va_7 vb_7).mono ?_
    rintro e x8 ⟨u4, rfl, g8, hb8⟩
    have b8 := below_at b7 (Nat.le_refl _) hb8
    have va_8 := va_7.keep hb8
    have vb_8 := vb_7.keep hb8
    have u1_8 := u1_7.keep hb8
    have u2_8 := u2_7.keep hb8
    have u3_8 := g7.keep hb8
    go_wp2_with (fail)
    refine (HSUB.out _ _ _ va_8 vb_8).mono ?_
    rintro e x9 ⟨u5, rfl, g9, hb9⟩
    have b9 := below_at b8 (Nat.le_refl _) hb9
    have va_9 := va_8.keep hb9
    have vb_9 := vb_8.keep hb9
    have u1_9 := u1_8.keep hb9
    have u2_9 := u2_8.keep hb9
    have u3_9 := u3_8.keep hb9
    have u4_9 := g8.keep hb9
    go_wp2_with (fail)
    refine (HMUL.out _ _ _ u4_9 g9).mono ?_
    rintro e x10 ⟨u6, rfl, g10, hb10⟩
    have b10 := below_at b9 (Nat.le_refl _) hb10
    have va_10 := va_9.keep hb10
    have vb_10 := vb_9.keep hb10
    have u1_10 := u1_9.keep hb10
    have u2_10 := u2_9.keep hb10
    have u3_10 := u3_9.keep hb10
    have u4_10 := u4_9.keep hb10
    have u5_10 := g9.keep hb10
    go_wp2_with (fail)
    refine (HSAME.out _ _ _ u3_10 g10).mono ?_
    rintro e x11 ⟨rfl, hb11⟩
    have b11 := below_at b10 (Nat.le_refl _) hb11
    go_wp2_with (fail)
    go_ret
    exact ⟨rfl, b11⟩
end Go.Proofs.Ytaegkhdkhgemmaa
