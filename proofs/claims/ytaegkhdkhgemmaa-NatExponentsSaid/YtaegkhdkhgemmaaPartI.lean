/- Part of the proof of NatExponents: ExpW. -/
import Derived.Test.YtaegkhdkhgemmaaPartG
import Derived.Test.YtaegkhdkhgemmaaPartH
namespace Go.Proofs.Ytaegkhdkhgemmaa
open Go.RowKit Num

theorem and15_ex (x : Int) : ∃ n : Nat, n < 16 ∧ bits .and .i64 x 15 = (n : Int) := by
  have h : (BitVec.ofInt 64 x &&& BitVec.ofInt 64 15).toNat < 16 := by
    rw [BitVec.toNat_and, show (BitVec.ofInt 64 15).toNat = 15 from rfl]
    exact Nat.lt_of_le_of_lt Nat.and_le_right (by omega)
  refine ⟨_, h, ?_⟩
  show IntKind.i64.wrap ((BitVec.ofInt 64 x &&& BitVec.ofInt 64 15).toNat : Int) = _
  generalize (BitVec.ofInt 64 x &&& BitVec.ofInt 64 15).toNat = n at *
  rw [IntKind.wrap_i64]
  omega
set_option maxHeartbeats 2000000 in
set_option maxRecDepth 100000 in
theorem exps_zero (A A1 : Option Addr) (c c1 L L1 : Nat) (e0 e1 : Int) (xs ys : List Nat) (w : World) (hA : Nums .u32 w A xs) (hA1 : Nums .u32 w A1 ys) (hx : Low B32 xs) (hy : Low B32 ys) (hL : L = xs.length) (hL1 : L1 = ys.length) (hc : L ≤ c) (hc1 : L1 ≤ c1) (hnil : A = none → c = 0) (hnil1 : A1 = none → c1 = 0) (h0 : val B32 (ys.take 4) = 0) : Calls Try.prog 23 #[.slice A L c, .slice A1 L1 c1, .agg #[.int .i64 e0, .int .i64 e1]] w (LivesPost w) := by
  have hw1 := fun w' (h : Below w.heap.size w w') => whole_any A c L 4 xs w' (hA.keep h) hx hL hc hnil (by omega)
  have hw2 := fun w' (h : Below w.heap.size w w') => whole_any A1 c1 L1 4 ys w' (hA1.keep h) hy hL1 hc1 hnil1 (by omega)
  have l1 : (dig B32 (val B32 (xs.take 4))).length ≤ 4 := whole_len hx 4
  have l2 : (dig B32 (val B32 (ys.take 4))).length ≤ 4 := whole_len hy 4
  generalize val B32 (xs.take 4) = x at *
  generalize val B32 (ys.take 4) = k at *
  have lb : nbits x ≤ 128 := Nat.le_trans (bits_of_len l1) (by omega)
  obtain ⟨n, hn, a1⟩ := and15_ex e0
  obtain ⟨m, hm, a2⟩ := and15_ex e1
  have hlp : ∀ j, j ≤ 30 → (dig B32 (x ^ j)).length ≤ 130 := fun j hj => by
    have h1 := nbits_pow_le x j
    have h2 := Nat.mul_le_mul hj lb
    exact len32_of_bits (Nat.le_trans h1 (by omega))
  have ln := hlp n (by omega)
  have lm := hlp m (by omega)
  have ls := hlp (n + m) (by omega)
  have e3 : x ^ n * x ^ m = x ^ (n + m) := (Nat.pow_add x n m).symm
  have h52 := fun a w' (h : N32 w' a x) => pow_ok a x n w' h (by omega) (by omega) (by omega)
  have h52m := fun a w' (h : N32 w' a x) => pow_ok a x m w' h (by omega) (by omega) (by omega)
  have h52s := fun a w' (h : N32 w' a x) => pow_ok a x (n + m) w' h (by omega) (by omega) (by omega)
  push_cast at h52s
  have h72 := fun a b w' (h : N32 w' a (x ^ n)) (k : N32 w' b (x ^ m)) => mul_l a b _ _ w' h k (by omega) (by omega)
  rw [e3] at h72
  have h70 := fun a b w' (h : N32 w' a (x ^ (n + m))) (k : N32 w' b (x ^ (n + m))) => same_n a b _ w' h k (by omega)
  have hD : (dig B32 k).length = 0 := by rw [h0, dig_zero]; rfl
  have HW1 := Lib.hid hw1
  have HW2 := Lib.hid hw2
  have H52 := Lib.hid h52
  have H52m := Lib.hid h52m
  have H52s := Lib.hid h52s
  have H72 := Lib.hid h72
  have H70 := Lib.hid h70
  have HD := Lib.hid hD
  clear hw1 hw2 h52 h52m h52s h72 h70 hD
  clear hA hA1 hx hy hL hL1 hnil hnil1 l1 l2 lb hlp ln lm ls e3 h0
  have hbA := below_new w (.cells #[.int .i64 e0, .int .i64 e1] 79)
  go_enter Try.func23, Try.ntmps23
  go_wp2_with (fail)
  refine (HW1.out _ hbA).mono ?_
  rintro e w1 ⟨va, rfl, hva, hb1⟩
  have b1 := below_at hbA (Nat.le_refl _) hb1
  have ka_1 := hva
  go_wp2_with (fail)
  refine (HW2.out _ b1).mono ?_
  rintro e w2 ⟨vb, rfl, hvb, hb2⟩
  have b2 := below_at b1 (Nat.le_refl _) hb2
  have ka_2 := ka_1.keep hb2
  have kb_2 := hvb
  have kk := kb_2
  obtain ⟨A2, c2, hve, hcc, _⟩ := kk
  rw [HD.out] at hve hcc
  subst hve
  have hcell := fun (i : Nat) (v : Value) (h : (w.alloc (.cells #[.int .i64 e0, .int .i64 e1] 79)).cell? ⟨w.heap.size, i, none⟩ = some v) => (Below.cell (p := ⟨w.heap.size, i, none⟩) (below_at (Below.refl _ _) (Nat.le_refl _) hb1) (by simp)).trans h
  have cc0 := (Below.cell (p := ⟨w.heap.size, 0, none⟩) hb2 (by have := hb1.size; simp at this ⊢; omega)).trans (hcell 0 (.int .i64 e0) (by simp))
  have cc1 := (Below.cell (p := ⟨w.heap.size, 1, none⟩) hb2 (by have := hb1.size; simp at this ⊢; omega)).trans (hcell 1 (.int .i64 e1) (by simp))
  clear hcell
  go_wp2_with (fail)
  go_quiet (fail)
  go_wp2_with (fail)
  refine (H52.out _ _ (ka_2.keep (below_drewN (Below.refl _ _) _))).mono ?_
  rintro e w3 ⟨vp, rfl, hvp, hb3⟩
  have b3 := below_at (below_drewN b2 _) (Nat.le_refl _) hb3
  have ka_3 := (ka_2.keep (below_drewN (Below.refl _ _) _)).keep hb3
  have kb_3 := (kb_2.keep (below_drewN (Below.refl _ _) _)).keep hb3
  have kp_3 := hvp.is
  go_wp2_with (fail)
  refine (H52m.out _ _ ka_3).mono ?_
  rintro e w4 ⟨vq, rfl, hvq, hb4⟩
  have b4 := below_at b3 (Nat.le_refl _) hb4
  have ka_4 := ka_3.keep hb4
  have kb_4 := kb_3.keep hb4
  have kp_4 := kp_3.keep hb4
  have kq_4 := hvq.is
  go_wp2_with (fail)
  refine (H52s.out _ _ ka_4).mono ?_
  rintro e w5 ⟨vs, rfl, hvs, hb5⟩
  have b5 := below_at b4 (Nat.le_refl _) hb5
  have ka_5 := ka_4.keep hb5
  have kb_5 := kb_4.keep hb5
  have kp_5 := kp_4.keep hb5
  have kq_5 := kq_4.keep hb5
  have ks_5 := hvs.is
  go_wp2_with (fail)
  refine (H72.out _ _ _ kp_5 kq_5).mono ?_
  rintro e w6 ⟨vm, rfl, hvm, hb6⟩
  have b6 := below_at b5 (Nat.le_refl _) hb6
  have ka_6 := ka_5.keep hb6
  have kb_6 := kb_5.keep hb6
  have ks_6 := ks_5.keep hb6
  have km_6 := hvm
  go_wp2_with (fail)
  refine (H70.out _ _ _ km_6 ks_6).mono ?_
  rintro e w7 ⟨rfl, hb7⟩
  have b7 := below_at b6 (Nat.le_refl _) hb7
  have ka_7 := ka_6.keep hb7
  have kb_7 := kb_6.keep hb7
  have ks_7 := ks_6.keep hb7
  go_wp2_with (fail)
  refine (lives_any _).mono ?_
  rintro e w8 ⟨rfl, hb8⟩
  have b8 := below_at b7 (Nat.le_refl _) hb8
  have ka_8 := ka_7.keep hb8
  have kb_8 := kb_7.keep hb8
  have ks_8 := ks_7.keep hb8
  go_wp2
  go_ret
  exact ⟨rfl, b8⟩

set_option maxHeartbeats 2000000 in
set_option maxRecDepth 100000 in
theorem exps_pos (A A1 : Option Addr) (c c1 L L1 : Nat) (e0 e1 : Int) (xs ys : List Nat) (w : World) (hA : Nums .u32 w A xs) (hA1 : Nums .u32 w A1 ys) (hx : Low B32 xs) (hy : Low B32 ys) (hL : L = xs.length) (hL1 : L1 = ys.length) (hc : L ≤ c) (hc1 : L1 ≤ c1) (hnil : A = none → c = 0) (hnil1 : A1 = none → c1 = 0) (h0 : val B32 (ys.take 4) ≠ 0) : Calls Try.prog 23 #[.slice A L c, .slice A1 L1 c1, .agg #[.int .i64 e0, .int .i64 e1]] w (LivesPost w) := by
  have hw1 := fun w' (h : Below w.heap.size w w') => whole_any A c L 4 xs w' (hA.keep h) hx hL hc hnil (by omega)
  have hw2 := fun w' (h : Below w.heap.size w w') => whole_any A1 c1 L1 4 ys w' (hA1.keep h) hy hL1 hc1 hnil1 (by omega)
  have l1 : (dig B32 (val B32 (xs.take 4))).length ≤ 4 := whole_len hx 4
  have l2 : (dig B32 (val B32 (ys.take 4))).length ≤ 4 := whole_len hy 4
  generalize val B32 (xs.take 4) = x at *
  generalize val B32 (ys.take 4) = k at *
  have lb : nbits x ≤ 128 := Nat.le_trans (bits_of_len l1) (by omega)
  obtain ⟨n, hn, a1⟩ := and15_ex e0
  obtain ⟨m, hm, a2⟩ := and15_ex e1
  have hlp : ∀ j, j ≤ 30 → (dig B32 (x ^ j)).length ≤ 130 := fun j hj => by
    have h1 := nbits_pow_le x j
    have h2 := Nat.mul_le_mul hj lb
    exact len32_of_bits (Nat.le_trans h1 (by omega))
  have ln := hlp n (by omega)
  have lm := hlp m (by omega)
  have ls := hlp (n + m) (by omega)
  have e3 : x ^ n * x ^ m = x ^ (n + m) := (Nat.pow_add x n m).symm
  have h52 := fun a w' (h : N32 w' a x) => pow_ok a x n w' h (by omega) (by omega) (by omega)
  have h52m := fun a w' (h : N32 w' a x) => pow_ok a x m w' h (by omega) (by omega) (by omega)
  have h52s := fun a w' (h : N32 w' a x) => pow_ok a x (n + m) w' h (by omega) (by omega) (by omega)
  push_cast at h52s
  have h72 := fun a b w' (h : N32 w' a (x ^ n)) (k : N32 w' b (x ^ m)) => mul_l a b _ _ w' h k (by omega) (by omega)
  rw [e3] at h72
  have h70 := fun a b w' (h : N32 w' a (x ^ (n + m))) (k : N32 w' b (x ^ (n + m))) => same_n a b _ w' h k (by omega)
  have h33 := fun w => of_any (n + m) (by unfold B64; omega) w
  push_cast at h33
  have ln2 : (dig B32 (n + m)).length ≤ 4 := Nat.le_trans (small32 (by unfold B32; omega)) (by omega)
  have x1 : IntKind.u64.wrap ((n : Int) + (m : Int)) = (n : Int) + (m : Int) := by rw [IntKind.wrap_u64]; omega
  have h54 := fun a b c w' (h : N32 w' a x) (l : N32 w' b (n + m)) (j : N32 w' c k) => powMod_ok a b c x (n + m) k w' h l j (by omega) (by omega) (by omega) (by omega)
  have w1 : (dig B64 k).length ≤ 2 := words_le (by omega)
  have h47 := fun a b w' (h : N32 w' a (x ^ (n + m))) (j : N32 w' b k) => divMod_ok a b _ k w' h j (by omega) (by omega) (by omega) (.inl (by omega))
  have lr : (dig B32 (x ^ (n + m) % k)).length ≤ 4 := Nat.le_trans (len_mono32 (Nat.le_of_lt (Nat.mod_lt _ (by omega)))) l2
  have h70r := fun a b w' (h : N32 w' a (x ^ (n + m) % k)) (j : N32 w' b (x ^ (n + m) % k)) => same_n a b _ w' h j (by omega)
  obtain ⟨D, hD⟩ : ∃ D, (dig B32 k).length = D := ⟨_, rfl⟩
  have hd0 : 0 < D := by
    rcases Nat.eq_zero_or_pos D with h | h
    · rw [h] at hD
      have := (dig_nil_iff b32_two).1 (List.eq_nil_of_length_eq_zero hD); omega
    · exact h
  have HW1 := Lib.hid hw1
  have HW2 := Lib.hid hw2
  have H52 := Lib.hid h52
  have H52m := Lib.hid h52m
  have H52s := Lib.hid h52s
  have H72 := Lib.hid h72
  have H70 := Lib.hid h70
  have HD := Lib.hid hD
  have H33 := Lib.hid h33
  have H54 := Lib.hid h54
  have H47 := Lib.hid h47
  have H70r := Lib.hid h70r
  clear hw1 hw2 h52 h52m h52s h72 h70 hD h33 h54 h47 h70r
  clear ln2 w1 lr
  clear hA hA1 hx hy hL hL1 hnil hnil1 l1 l2 lb hlp ln lm ls e3 h0
  have hbA := below_new w (.cells #[.int .i64 e0, .int .i64 e1] 79)
  go_enter Try.func23, Try.ntmps23
  go_wp2_with (fail)
  refine (HW1.out _ hbA).mono ?_
  rintro e w1 ⟨va, rfl, hva, hb1⟩
  have b1 := below_at hbA (Nat.le_refl _) hb1
  have ka_1 := hva
  go_wp2_with (fail)
  refine (HW2.out _ b1).mono ?_
  rintro e w2 ⟨vb, rfl, hvb, hb2⟩
  have b2 := below_at b1 (Nat.le_refl _) hb2
  have ka_2 := ka_1.keep hb2
  have kb_2 := hvb
  have kk := kb_2
  obtain ⟨A2, c2, hve, hcc, _⟩ := kk
  rw [HD.out] at hve hcc
  subst hve
  have hcell := fun (i : Nat) (v : Value) (h : (w.alloc (.cells #[.int .i64 e0, .int .i64 e1] 79)).cell? ⟨w.heap.size, i, none⟩ = some v) => (Below.cell (p := ⟨w.heap.size, i, none⟩) (below_at (Below.refl _ _) (Nat.le_refl _) hb1) (by simp)).trans h
  have cc0 := (Below.cell (p := ⟨w.heap.size, 0, none⟩) hb2 (by have := hb1.size; simp at this ⊢; omega)).trans (hcell 0 (.int .i64 e0) (by simp))
  have cc1 := (Below.cell (p := ⟨w.heap.size, 1, none⟩) hb2 (by have := hb1.size; simp at this ⊢; omega)).trans (hcell 1 (.int .i64 e1) (by simp))
  clear hcell
  go_wp2_with (fail)
  go_quiet (fail)
  go_wp2_with (fail)
  refine (H52.out _ _ (ka_2.keep (below_drewN (Below.refl _ _) _))).mono ?_
  rintro e w3 ⟨vp, rfl, hvp, hb3⟩
  have b3 := below_at (below_drewN b2 _) (Nat.le_refl _) hb3
  have ka_3 := (ka_2.keep (below_drewN (Below.refl _ _) _)).keep hb3
  have kb_3 := (kb_2.keep (below_drewN (Below.refl _ _) _)).keep hb3
  have kp_3 := hvp.is
  go_wp2_with (fail)
  refine (H52m.out _ _ ka_3).mono ?_
  rintro e w4 ⟨vq, rfl, hvq, hb4⟩
  have b4 := below_at b3 (Nat.le_refl _) hb4
  have ka_4 := ka_3.keep hb4
  have kb_4 := kb_3.keep hb4
  have kp_4 := kp_3.keep hb4
  have kq_4 := hvq.is
  go_wp2_with (fail)
  refine (H52s.out _ _ ka_4).mono ?_
  rintro e w5 ⟨vs, rfl, hvs, hb5⟩
  have b5 := below_at b4 (Nat.le_refl _) hb5
  have ka_5 := ka_4.keep hb5
  have kb_5 := kb_4.keep hb5
  have kp_5 := kp_4.keep hb5
  have kq_5 := kq_4.keep hb5
  have ks_5 := hvs.is
  go_wp2_with (fail)
  refine (H72.out _ _ _ kp_5 kq_5).mono ?_
  rintro e w6 ⟨vm, rfl, hvm, hb6⟩
  have b6 := below_at b5 (Nat.le_refl _) hb6
  have ka_6 := ka_5.keep hb6
  have kb_6 := kb_5.keep hb6
  have ks_6 := ks_5.keep hb6
  have km_6 := hvm
  go_wp2_with (fail)
  refine (H70.out _ _ _ km_6 ks_6).mono ?_
  rintro e w7 ⟨rfl, hb7⟩
  have b7 := below_at b6 (Nat.le_refl _) hb7
  have ka_7 := ka_6.keep hb7
  have kb_7 := kb_6.keep hb7
  have ks_7 := ks_6.keep hb7
  go_wp2_with (fail)
  refine (lives_any _).mono ?_
  rintro e w8 ⟨rfl, hb8⟩
  have b8 := below_at b7 (Nat.le_refl _) hb8
  have ka_8 := ka_7.keep hb8
  have kb_8 := kb_7.keep hb8
  have ks_8 := ks_7.keep hb8
  go_wp2_with (fail)
  refine (H33.out _).mono ?_
  rintro e w9 ⟨vo, rfl, hvo, hb9⟩
  have b9 := below_at b8 (Nat.le_refl _) hb9
  have ka_9 := ka_8.keep hb9
  have kb_9 := kb_8.keep hb9
  have ks_9 := ks_8.keep hb9
  have ko_9 := hvo.is
  go_wp2_with (fail)
  refine (H54.out _ _ _ _ ka_9 ko_9 kb_9).mono ?_
  rintro e w10 ⟨vt, rfl, hvt, hb10⟩
  have b10 := below_at b9 (Nat.le_refl _) hb10
  have kb_10 := kb_9.keep hb10
  have ks_10 := ks_9.keep hb10
  have kt_10 := hvt.is
  go_wp2_with (fail)
  refine (H47.out _ _ _ ks_10 kb_10).mono ?_
  rintro e w11 ⟨q, r, rfl, hq, hr, hb11⟩
  have b11 := below_at b10 (Nat.le_refl _) hb11
  have kt_11 := kt_10.keep hb11
  have kr_11 := hr.is
  go_wp2_with (fail)
  refine (H70r.out _ _ _ kt_11 kr_11).mono ?_
  rintro e w12 ⟨rfl, hb12⟩
  have b12 := below_at b11 (Nat.le_refl _) hb12
  go_wp2
  go_ret
  exact ⟨rfl, b12⟩

/-- The law NatExponents, for whatever limbs and exponents. -/
theorem exps_walk (A A1 : Option Addr) (c c1 L L1 : Nat) (e0 e1 : Int) (xs ys : List Nat) (w : World) (hA : Nums .u32 w A xs) (hA1 : Nums .u32 w A1 ys) (hx : Low B32 xs) (hy : Low B32 ys) (hL : L = xs.length) (hL1 : L1 = ys.length) (hc : L ≤ c) (hc1 : L1 ≤ c1) (hnil : A = none → c = 0) (hnil1 : A1 = none → c1 = 0) : Calls Try.prog 23 #[.slice A L c, .slice A1 L1 c1, .agg #[.int .i64 e0, .int .i64 e1]] w (LivesPost w) := by
  by_cases h0 : val B32 (ys.take 4) = 0
  · exact exps_zero A A1 c c1 L L1 e0 e1 xs ys w hA hA1 hx hy hL hL1 hc hc1 hnil hnil1 h0
  · exact exps_pos A A1 c c1 L L1 e0 e1 xs ys w hA hA1 hx hy hL hL1 hc hc1 hnil hnil1 h0
end Go.Proofs.Ytaegkhdkhgemmaa
