/- Part of the proof of NatGcds: GcdsW. -/
import Derived.Test.YtaegkhdkhgemmaaPartG
namespace Go.Proofs.Ytaegkhdkhgemmaa
open Go.RowKit Num

set_option maxHeartbeats 2000000 in
set_option maxRecDepth 100000 in
theorem gcds_bad (A A' : Option Addr) (c c' L L' : Nat) (xs ys : List Nat) (w : World) (hA : Nums .u32 w A xs) (hA' : Nums .u32 w A' ys) (hL : L = xs.length) (hL' : L' = ys.length) (hc : L ≤ c) (hc' : L' ≤ c') (hnil : A = none → c = 0) (hnil' : A' = none → c' = 0)
    (hbad : chk2 (xs.take 8) (ys.take 8) ≠ 0) : Calls Try.prog 11 #[.slice A L c, .slice A' L' c'] w (LivesPost w) := by
  have hcut := fun w' (h : Below w.heap.size w w') => cut_any A c L 8 xs w' (hA.keep h) hL hc hnil (by omega)
  have hcut' := fun w' (h : Below w.heap.size w w') => cut_any A' c' L' 8 ys w' (hA'.keep h) hL' hc' hnil' (by omega)
  have l1 : (xs.take 8).length ≤ 8 := by rw [List.length_take]; omega
  have l2 : (ys.take 8).length ≤ 8 := by rw [List.length_take]; omega
  generalize xs.take 8 = us at *
  generalize ys.take 8 = vs at *
  have hlu : ∀ B w' a, OwnLs B w' a us → Limbs w' a us := fun B w' a h => h.limbs (by omega)
  have hlv : ∀ B w' a, OwnLs B w' a vs → Limbs w' a vs := fun B w' a h => h.limbs (by omega)
  have h58 := fun a b w h k => gcd_bad a b us vs w h k hbad
  have h59 := fun a b w h k => lcm_bad a b us vs w h k hbad
  have h40 := fun a b w h k => both_any a b us vs w h k
  generalize chk2 us vs = r at *
  have hq : (r == 0) = false := by simp [hbad]
  have hq1 : (r != 0) = true := by simp [hbad]
  have h41 := fun b w => is_err b r w hbad
  have HCUT := Lib.hid hcut
  have HCUT1 := Lib.hid hcut'
  have HLU := Lib.hid hlu
  have HLV := Lib.hid hlv
  have H58 := Lib.hid h58
  have H59 := Lib.hid h59
  have H40 := Lib.hid h40
  have H41 := Lib.hid h41
  have HBAD := Lib.hid hbad
  clear hcut hcut' hlu hlv h58 h59 h40 h41 hbad
  clear hA hA' hL hL' hnil hnil' l1 l2
  go_enter Try.func11, Try.ntmps11
  go_wp2_with (fail)
  refine (HCUT.out _ (Below.refl _ _)).mono ?_
  rintro e w1 ⟨va, rfl, hva, hb1⟩
  have b1 := below_at (Below.refl _ _) (Nat.le_refl _) hb1
  have ka_1 := HLU.out _ _ _ hva
  go_wp2_with (fail)
  refine (HCUT1.out _ b1).mono ?_
  rintro e w2 ⟨vb, rfl, hvb, hb2⟩
  have b2 := below_at b1 (Nat.le_refl _) hb2
  have ka_2 := ka_1.keep hb2
  have kb_2 := HLV.out _ _ _ hvb
  go_wp2_with (fail)
  refine (H58.out _ _ _ ka_2 kb_2).mono ?_
  rintro e w3 ⟨rfl, hb3⟩
  have b3 := below_at b2 (Nat.le_refl _) hb3
  have ka_3 := ka_2.keep hb3
  have kb_3 := kb_2.keep hb3
  go_wp2_with (fail)
  refine (H59.out _ _ _ ka_3 kb_3).mono ?_
  rintro e w4 ⟨rfl, hb4⟩
  have b4 := below_at b3 (Nat.le_refl _) hb4
  have ka_4 := ka_3.keep hb4
  have kb_4 := kb_3.keep hb4
  go_wp2_with (fail)
  refine (H40.out _ _ _ ka_4 kb_4).mono ?_
  rintro e w5 ⟨rfl, rfl⟩
  go_wp2_with (fail)
  refine (H41.out _ _).mono ?_
  rintro e w6 ⟨rfl, hb6⟩
  have b6 := below_at b4 (Nat.le_refl _) hb6
  go_wp2_with (fail)
  refine (H41.out _ _).mono ?_
  rintro e w7 ⟨rfl, hb7⟩
  have b7 := below_at b6 (Nat.le_refl _) hb7
  go_wp2_with (fail)
  refine (lives_any _).mono ?_
  rintro e w8 ⟨rfl, hb8⟩
  have b8 := below_at b7 (Nat.le_refl _) hb8
  go_wp2
  go_ret
  exact ⟨rfl, b8⟩

set_option maxHeartbeats 2000000 in
set_option maxRecDepth 100000 in
theorem gcds_zero_l (A A' : Option Addr) (c c' L L' : Nat) (xs ys : List Nat) (w : World) (hA : Nums .u32 w A xs) (hA' : Nums .u32 w A' ys) (hL : L = xs.length) (hL' : L' = ys.length) (hc : L ≤ c) (hc' : L' ≤ c') (hnil : A = none → c = 0) (hnil' : A' = none → c' = 0)
    (m n : Nat) (hm : xs.take 8 = dig B32 m) (hn : ys.take 8 = dig B32 n) (h0' : m = 0) : Calls Try.prog 11 #[.slice A L c, .slice A' L' c'] w (LivesPost w) := by
  have hcut := fun w' (h : Below w.heap.size w w') => cut_any A c L 8 xs w' (hA.keep h) hL hc hnil (by omega)
  have hcut' := fun w' (h : Below w.heap.size w w') => cut_any A' c' L' 8 ys w' (hA'.keep h) hL' hc' hnil' (by omega)
  have l1 : (xs.take 8).length ≤ 8 := by rw [List.length_take]; omega
  have l2 : (ys.take 8).length ≤ 8 := by rw [List.length_take]; omega
  rw [hm] at hcut l1
  rw [hn] at hcut' l2
  have hlu : ∀ B w' a, OwnLs B w' a (dig B32 m) → Limbs w' a (dig B32 m) := fun B w' a h => h.limbs (by omega)
  have hlv : ∀ B w' a, OwnLs B w' a (dig B32 n) → Limbs w' a (dig B32 n) := fun B w' a h => h.limbs (by omega)
  have h40 := fun a b w h k => both_any a b (dig B32 m) (dig B32 n) w h k
  rw [chk2, if_pos (chk_dig (by omega)), chk_dig (by omega)] at h40
  obtain ⟨D1, hE⟩ : ∃ D, (dig B32 m).length = D := ⟨_, rfl⟩
  obtain ⟨D2, hD⟩ : ∃ D, (dig B32 n).length = D := ⟨_, rfl⟩
  have lg : (dig B32 (Nat.gcd m n)).length ≤ 8 := by
    rcases Nat.eq_zero_or_pos m with h | h
    · rw [h, Nat.gcd_zero_left]; exact l2
    · exact Nat.le_trans (len_mono32 (Nat.gcd_le_left n h)) l1
  have h58 := fun a b w' (h : Limbs w' a (dig B32 m)) (k : Limbs w' b (dig B32 n)) => gcd_ok a b m n w' h.is k.is (by omega) (by omega)
  have h60 := fun a b w' (h : Limbs w' a (dig B32 m)) (k : Limbs w' b (dig B32 n)) => refGcd_any a b m n w' h.is k.is (by omega) (by omega)
  have h41 := fun a b w' (h : N32 w' a (Nat.gcd m n)) (k : N32 w' b (Nat.gcd m n)) => is_ok a b _ w' h (Limbs.num k (by omega)) (by omega)
  have h0 : m = 0 ∨ n = 0 := by omega
  have h59 := fun a b w' (h : Limbs w' a (dig B32 m)) (k : Limbs w' b (dig B32 n)) => lcm_zero a b m n w' h.is k.is (by omega) (by omega) h0
  have h42 := fun a b w' (h : N32 w' a 0) (k : Limbs w' b (dig B32 0)) => is_ok a b 0 w' h k (by rw [dig_zero]; simp)
  have hz : D1 = 0 := by rw [← hE, h0', dig_zero]; rfl
  subst hz
  have HCUT := Lib.hid hcut
  have HCUT1 := Lib.hid hcut'
  have HLU := Lib.hid hlu
  have HLV := Lib.hid hlv
  have H58 := Lib.hid h58
  have H59 := Lib.hid h59
  have H60 := Lib.hid h60
  have H40 := Lib.hid h40
  have H41 := Lib.hid h41
  have H42 := Lib.hid h42
  have HE := Lib.hid hE
  have HD := Lib.hid hD
  clear hcut hcut' hlu hlv h58 h59 h60 h40 h41 h42 hE hD
  clear lg h0 h0'
  clear hA hA' hL hL' hnil hnil' l1 l2 hm hn
  go_enter Try.func11, Try.ntmps11
  go_wp2_with (fail)
  refine (HCUT.out _ (Below.refl _ _)).mono ?_
  rintro e w1 ⟨va, rfl, hva, hb1⟩
  have b1 := below_at (Below.refl _ _) (Nat.le_refl _) hb1
  have ka_1 := HLU.out _ _ _ hva
  have kk := ka_1
  obtain ⟨A1, c1, hve, hcc, _⟩ := kk
  rw [HE.out] at hve hcc
  subst hve
  go_wp2_with (fail)
  refine (HCUT1.out _ b1).mono ?_
  rintro e w2 ⟨vb, rfl, hvb, hb2⟩
  have b2 := below_at b1 (Nat.le_refl _) hb2
  have ka_2 := ka_1.keep hb2
  have kb_2 := HLV.out _ _ _ hvb
  have kk := kb_2
  obtain ⟨A2, c2, hve, hcc, _⟩ := kk
  rw [HD.out] at hve hcc
  subst hve
  go_wp2_with (fail)
  refine (H58.out _ _ _ ka_2 kb_2).mono ?_
  rintro e w3 ⟨g, rfl, hg, hb3⟩
  have b3 := below_at b2 (Nat.le_refl _) hb3
  have ka_3 := ka_2.keep hb3
  have kb_3 := kb_2.keep hb3
  have kg_3 := hg.is
  go_wp2_with (fail)
  refine (H59.out _ _ _ ka_3 kb_3).mono ?_
  rintro e w4 ⟨l, rfl, hl, hb4⟩
  have b4 := below_at b3 (Nat.le_refl _) hb4
  have ka_4 := ka_3.keep hb4
  have kb_4 := kb_3.keep hb4
  have kg_4 := kg_3.keep hb4
  have kl_4 := hl.is
  go_wp2_with (fail)
  refine (H40.out _ _ _ ka_4 kb_4).mono ?_
  rintro e w5 ⟨rfl, rfl⟩
  go_wp2_with (fail)
  refine (H60.out _ _ _ ka_4 kb_4).mono ?_
  rintro e w6 ⟨x, rfl, hx, hb6⟩
  have b6 := below_at b4 (Nat.le_refl _) hb6
  have ka_6 := ka_4.keep hb6
  have kb_6 := kb_4.keep hb6
  have kg_6 := kg_4.keep hb6
  have kl_6 := kl_4.keep hb6
  have kx_6 := hx
  go_wp2_with (fail)
  refine (lives_any _).mono ?_
  rintro e w7 ⟨rfl, hb7⟩
  have b7 := below_at b6 (Nat.le_refl _) hb7
  have ka_7 := ka_6.keep hb7
  have kb_7 := kb_6.keep hb7
  have kg_7 := kg_6.keep hb7
  have kl_7 := kl_6.keep hb7
  have kx_7 := kx_6.keep hb7
  go_wp2_with (fail)
  refine (H41.out _ _ _ kg_7 kx_7).mono ?_
  rintro e w8 ⟨rfl, hb8⟩
  have b8 := below_at b7 (Nat.le_refl _) hb8
  have ka_8 := ka_7.keep hb8
  have kb_8 := kb_7.keep hb8
  have kl_8 := kl_7.keep hb8
  have kx_8 := kx_7.keep hb8
  have ke := ref_empty w8
  have hbe := below_new w8 (.cells #[] 56)
  have kl9 := kl_8.keep hbe
  have be := below_at b8 (Nat.le_refl _) hbe
  go_wp2_with (fail)
  refine (H42.out _ _ _ kl9 ke).mono ?_
  rintro e w9 ⟨rfl, hb9⟩
  have b9 := below_at be (Nat.le_refl _) hb9
  go_wp2
  go_ret
  exact ⟨rfl, b9⟩

set_option maxHeartbeats 2000000 in
set_option maxRecDepth 100000 in
theorem gcds_zero_r (A A' : Option Addr) (c c' L L' : Nat) (xs ys : List Nat) (w : World) (hA : Nums .u32 w A xs) (hA' : Nums .u32 w A' ys) (hL : L = xs.length) (hL' : L' = ys.length) (hc : L ≤ c) (hc' : L' ≤ c') (hnil : A = none → c = 0) (hnil' : A' = none → c' = 0)
    (m n : Nat) (hm : xs.take 8 = dig B32 m) (hn : ys.take 8 = dig B32 n) (h0' : 0 < m ∧ n = 0) : Calls Try.prog 11 #[.slice A L c, .slice A' L' c'] w (LivesPost w) := by
  have hcut := fun w' (h : Below w.heap.size w w') => cut_any A c L 8 xs w' (hA.keep h) hL hc hnil (by omega)
  have hcut' := fun w' (h : Below w.heap.size w w') => cut_any A' c' L' 8 ys w' (hA'.keep h) hL' hc' hnil' (by omega)
  have l1 : (xs.take 8).length ≤ 8 := by rw [List.length_take]; omega
  have l2 : (ys.take 8).length ≤ 8 := by rw [List.length_take]; omega
  rw [hm] at hcut l1
  rw [hn] at hcut' l2
  have hlu : ∀ B w' a, OwnLs B w' a (dig B32 m) → Limbs w' a (dig B32 m) := fun B w' a h => h.limbs (by omega)
  have hlv : ∀ B w' a, OwnLs B w' a (dig B32 n) → Limbs w' a (dig B32 n) := fun B w' a h => h.limbs (by omega)
  have h40 := fun a b w h k => both_any a b (dig B32 m) (dig B32 n) w h k
  rw [chk2, if_pos (chk_dig (by omega)), chk_dig (by omega)] at h40
  obtain ⟨D1, hE⟩ : ∃ D, (dig B32 m).length = D := ⟨_, rfl⟩
  obtain ⟨D2, hD⟩ : ∃ D, (dig B32 n).length = D := ⟨_, rfl⟩
  have lg : (dig B32 (Nat.gcd m n)).length ≤ 8 := by
    rcases Nat.eq_zero_or_pos m with h | h
    · rw [h, Nat.gcd_zero_left]; exact l2
    · exact Nat.le_trans (len_mono32 (Nat.gcd_le_left n h)) l1
  have h58 := fun a b w' (h : Limbs w' a (dig B32 m)) (k : Limbs w' b (dig B32 n)) => gcd_ok a b m n w' h.is k.is (by omega) (by omega)
  have h60 := fun a b w' (h : Limbs w' a (dig B32 m)) (k : Limbs w' b (dig B32 n)) => refGcd_any a b m n w' h.is k.is (by omega) (by omega)
  have h41 := fun a b w' (h : N32 w' a (Nat.gcd m n)) (k : N32 w' b (Nat.gcd m n)) => is_ok a b _ w' h (Limbs.num k (by omega)) (by omega)
  have h0 : m = 0 ∨ n = 0 := by omega
  have h59 := fun a b w' (h : Limbs w' a (dig B32 m)) (k : Limbs w' b (dig B32 n)) => lcm_zero a b m n w' h.is k.is (by omega) (by omega) h0
  have h42 := fun a b w' (h : N32 w' a 0) (k : Limbs w' b (dig B32 0)) => is_ok a b 0 w' h k (by rw [dig_zero]; simp)
  have hz : D2 = 0 := by rw [← hD, h0'.2, dig_zero]; rfl
  subst hz
  have hd0 : 0 < D1 := by rw [← hE]; exact dig_len_pos32 h0'.1
  have hd1 : ((D1 : Int) == 0) = false := by simp; omega
  have HCUT := Lib.hid hcut
  have HCUT1 := Lib.hid hcut'
  have HLU := Lib.hid hlu
  have HLV := Lib.hid hlv
  have H58 := Lib.hid h58
  have H59 := Lib.hid h59
  have H60 := Lib.hid h60
  have H40 := Lib.hid h40
  have H41 := Lib.hid h41
  have H42 := Lib.hid h42
  have HE := Lib.hid hE
  have HD := Lib.hid hD
  clear hcut hcut' hlu hlv h58 h59 h60 h40 h41 h42 hE hD
  clear lg h0 h0'
  clear hA hA' hL hL' hnil hnil' l1 l2 hm hn
  go_enter Try.func11, Try.ntmps11
  go_wp2_with (fail)
  refine (HCUT.out _ (Below.refl _ _)).mono ?_
  rintro e w1 ⟨va, rfl, hva, hb1⟩
  have b1 := below_at (Below.refl _ _) (Nat.le_refl _) hb1
  have ka_1 := HLU.out _ _ _ hva
  have kk := ka_1
  obtain ⟨A1, c1, hve, hcc, _⟩ := kk
  rw [HE.out] at hve hcc
  subst hve
  go_wp2_with (fail)
  refine (HCUT1.out _ b1).mono ?_
  rintro e w2 ⟨vb, rfl, hvb, hb2⟩
  have b2 := below_at b1 (Nat.le_refl _) hb2
  have ka_2 := ka_1.keep hb2
  have kb_2 := HLV.out _ _ _ hvb
  have kk := kb_2
  obtain ⟨A2, c2, hve, hcc, _⟩ := kk
  rw [HD.out] at hve hcc
  subst hve
  go_wp2_with (fail)
  refine (H58.out _ _ _ ka_2 kb_2).mono ?_
  rintro e w3 ⟨g, rfl, hg, hb3⟩
  have b3 := below_at b2 (Nat.le_refl _) hb3
  have ka_3 := ka_2.keep hb3
  have kb_3 := kb_2.keep hb3
  have kg_3 := hg.is
  go_wp2_with (fail)
  refine (H59.out _ _ _ ka_3 kb_3).mono ?_
  rintro e w4 ⟨l, rfl, hl, hb4⟩
  have b4 := below_at b3 (Nat.le_refl _) hb4
  have ka_4 := ka_3.keep hb4
  have kb_4 := kb_3.keep hb4
  have kg_4 := kg_3.keep hb4
  have kl_4 := hl.is
  go_wp2_with (fail)
  refine (H40.out _ _ _ ka_4 kb_4).mono ?_
  rintro e w5 ⟨rfl, rfl⟩
  go_wp2_with (fail)
  refine (H60.out _ _ _ ka_4 kb_4).mono ?_
  rintro e w6 ⟨x, rfl, hx, hb6⟩
  have b6 := below_at b4 (Nat.le_refl _) hb6
  have ka_6 := ka_4.keep hb6
  have kb_6 := kb_4.keep hb6
  have kg_6 := kg_4.keep hb6
  have kl_6 := kl_4.keep hb6
  have kx_6 := hx
  go_wp2_with (fail)
  refine (lives_any _).mono ?_
  rintro e w7 ⟨rfl, hb7⟩
  have b7 := below_at b6 (Nat.le_refl _) hb7
  have ka_7 := ka_6.keep hb7
  have kb_7 := kb_6.keep hb7
  have kg_7 := kg_6.keep hb7
  have kl_7 := kl_6.keep hb7
  have kx_7 := kx_6.keep hb7
  go_wp2_with (fail)
  refine (H41.out _ _ _ kg_7 kx_7).mono ?_
  rintro e w8 ⟨rfl, hb8⟩
  have b8 := below_at b7 (Nat.le_refl _) hb8
  have ka_8 := ka_7.keep hb8
  have kb_8 := kb_7.keep hb8
  have kl_8 := kl_7.keep hb8
  have kx_8 := kx_7.keep hb8
  have ke := ref_empty w8
  have hbe := below_new w8 (.cells #[] 56)
  have kl9 := kl_8.keep hbe
  have be := below_at b8 (Nat.le_refl _) hbe
  go_wp2_with (fail)
  refine (H42.out _ _ _ kl9 ke).mono ?_
  rintro e w9 ⟨rfl, hb9⟩
  have b9 := below_at be (Nat.le_refl _) hb9
  go_wp2
  go_ret
  exact ⟨rfl, b9⟩

set_option maxHeartbeats 2000000 in
set_option maxRecDepth 100000 in
theorem gcds_ok (A A' : Option Addr) (c c' L L' : Nat) (xs ys : List Nat) (w : World) (hA : Nums .u32 w A xs) (hA' : Nums .u32 w A' ys) (hL : L = xs.length) (hL' : L' = ys.length) (hc : L ≤ c) (hc' : L' ≤ c') (hnil : A = none → c = 0) (hnil' : A' = none → c' = 0)
    (m n : Nat) (hm : xs.take 8 = dig B32 m) (hn : ys.take 8 = dig B32 n) (h0 : 0 < m ∧ 0 < n) : Calls Try.prog 11 #[.slice A L c, .slice A' L' c'] w (LivesPost w) := by
  have hcut := fun w' (h : Below w.heap.size w w') => cut_any A c L 8 xs w' (hA.keep h) hL hc hnil (by omega)
  have hcut' := fun w' (h : Below w.heap.size w w') => cut_any A' c' L' 8 ys w' (hA'.keep h) hL' hc' hnil' (by omega)
  have l1 : (xs.take 8).length ≤ 8 := by rw [List.length_take]; omega
  have l2 : (ys.take 8).length ≤ 8 := by rw [List.length_take]; omega
  rw [hm] at hcut l1
  rw [hn] at hcut' l2
  have hlu : ∀ B w' a, OwnLs B w' a (dig B32 m) → Limbs w' a (dig B32 m) := fun B w' a h => h.limbs (by omega)
  have hlv : ∀ B w' a, OwnLs B w' a (dig B32 n) → Limbs w' a (dig B32 n) := fun B w' a h => h.limbs (by omega)
  have h40 := fun a b w h k => both_any a b (dig B32 m) (dig B32 n) w h k
  rw [chk2, if_pos (chk_dig (by omega)), chk_dig (by omega)] at h40
  obtain ⟨D1, hE⟩ : ∃ D, (dig B32 m).length = D := ⟨_, rfl⟩
  obtain ⟨D2, hD⟩ : ∃ D, (dig B32 n).length = D := ⟨_, rfl⟩
  have lg : (dig B32 (Nat.gcd m n)).length ≤ 8 := by
    rcases Nat.eq_zero_or_pos m with h | h
    · rw [h, Nat.gcd_zero_left]; exact l2
    · exact Nat.le_trans (len_mono32 (Nat.gcd_le_left n h)) l1
  have h58 := fun a b w' (h : Limbs w' a (dig B32 m)) (k : Limbs w' b (dig B32 n)) => gcd_ok a b m n w' h.is k.is (by omega) (by omega)
  have h60 := fun a b w' (h : Limbs w' a (dig B32 m)) (k : Limbs w' b (dig B32 n)) => refGcd_any a b m n w' h.is k.is (by omega) (by omega)
  have h41 := fun a b w' (h : N32 w' a (Nat.gcd m n)) (k : N32 w' b (Nat.gcd m n)) => is_ok a b _ w' h (Limbs.num k (by omega)) (by omega)
  have h59 := fun a b w' (h : Limbs w' a (dig B32 m)) (k : Limbs w' b (dig B32 n)) => lcm_ok a b m n w' h.is k.is (by omega) (by omega) h0.1 h0.2
  have hgp : 0 < Nat.gcd m n := Nat.gcd_pos_of_pos_left n h0.1
  have lq : (dig B32 (m / Nat.gcd m n)).length ≤ 8 := Nat.le_trans (len_mono32 (Nat.div_le_self _ _)) l1
  have lp : (dig B32 (m / Nat.gcd m n * n)).length ≤ 16 := Nat.le_trans (prod_len lq l2) (by omega)
  have h48 := fun a b w' (h : Limbs w' a (dig B32 m)) (k : N32 w' b (Nat.gcd m n)) => refDivMod_any a b m (Nat.gcd m n) w' h.is k (by omega) (by omega) hgp
  have h46 := fun a b w' (h : N32 w' a (m / Nat.gcd m n)) (k : Limbs w' b (dig B32 n)) => refMul_call a b (m / Nat.gcd m n) n w' h k.is (by omega) (by omega)
  have h42 := fun a b w' (h : N32 w' a (m / Nat.gcd m n * n)) (k : Limbs w' b (dig B32 (m / Nat.gcd m n * n))) => is_ok a b _ w' h k (by omega)
  have hd0 : 0 < D1 := by rw [← hE]; exact dig_len_pos32 h0.1
  have hd1 : 0 < D2 := by rw [← hD]; exact dig_len_pos32 h0.2
  have hd2 : ((D1 : Int) == 0) = false := by simp; omega
  have hd3 : ((D2 : Int) == 0) = false := by simp; omega
  have HCUT := Lib.hid hcut
  have HCUT1 := Lib.hid hcut'
  have HLU := Lib.hid hlu
  have HLV := Lib.hid hlv
  have H58 := Lib.hid h58
  have H59 := Lib.hid h59
  have H60 := Lib.hid h60
  have H48 := Lib.hid h48
  have H46 := Lib.hid h46
  have H40 := Lib.hid h40
  have H41 := Lib.hid h41
  have H42 := Lib.hid h42
  have HE := Lib.hid hE
  have HD := Lib.hid hD
  clear hcut hcut' hlu hlv h58 h59 h60 h48 h46 h40 h41 h42 hE hD
  clear lg hgp lq h0
  clear hA hA' hL hL' hnil hnil' l1 l2 hm hn
  go_enter Try.func11, Try.ntmps11
  go_wp2_with (fail)
  refine (HCUT.out _ (Below.refl _ _)).mono ?_
  rintro e w1 ⟨va, rfl, hva, hb1⟩
  have b1 := below_at (Below.refl _ _) (Nat.le_refl _) hb1
  have ka_1 := HLU.out _ _ _ hva
  have kk := ka_1
  obtain ⟨A1, c1, hve, hcc, _⟩ := kk
  rw [HE.out] at hve hcc
  subst hve
  go_wp2_with (fail)
  refine (HCUT1.out _ b1).mono ?_
  rintro e w2 ⟨vb, rfl, hvb, hb2⟩
  have b2 := below_at b1 (Nat.le_refl _) hb2
  have ka_2 := ka_1.keep hb2
  have kb_2 := HLV.out _ _ _ hvb
  have kk := kb_2
  obtain ⟨A2, c2, hve, hcc, _⟩ := kk
  rw [HD.out] at hve hcc
  subst hve
  go_wp2_with (fail)
  refine (H58.out _ _ _ ka_2 kb_2).mono ?_
  rintro e w3 ⟨g, rfl, hg, hb3⟩
  have b3 := below_at b2 (Nat.le_refl _) hb3
  have ka_3 := ka_2.keep hb3
  have kb_3 := kb_2.keep hb3
  have kg_3 := hg.is
  go_wp2_with (fail)
  refine (H59.out _ _ _ ka_3 kb_3).mono ?_
  rintro e w4 ⟨l, rfl, hl, hb4⟩
  have b4 := below_at b3 (Nat.le_refl _) hb4
  have ka_4 := ka_3.keep hb4
  have kb_4 := kb_3.keep hb4
  have kg_4 := kg_3.keep hb4
  have kl_4 := hl.is
  go_wp2_with (fail)
  refine (H40.out _ _ _ ka_4 kb_4).mono ?_
  rintro e w5 ⟨rfl, rfl⟩
  go_wp2_with (fail)
  refine (H60.out _ _ _ ka_4 kb_4).mono ?_
  rintro e w6 ⟨x, rfl, hx, hb6⟩
  have b6 := below_at b4 (Nat.le_refl _) hb6
  have ka_6 := ka_4.keep hb6
  have kb_6 := kb_4.keep hb6
  have kg_6 := kg_4.keep hb6
  have kl_6 := kl_4.keep hb6
  have kx_6 := hx
  go_wp2_with (fail)
  refine (lives_any _).mono ?_
  rintro e w7 ⟨rfl, hb7⟩
  have b7 := below_at b6 (Nat.le_refl _) hb7
  have ka_7 := ka_6.keep hb7
  have kb_7 := kb_6.keep hb7
  have kg_7 := kg_6.keep hb7
  have kl_7 := kl_6.keep hb7
  have kx_7 := kx_6.keep hb7
  go_wp2_with (fail)
  refine (H41.out _ _ _ kg_7 kx_7).mono ?_
  rintro e w8 ⟨rfl, hb8⟩
  have b8 := below_at b7 (Nat.le_refl _) hb8
  have ka_8 := ka_7.keep hb8
  have kb_8 := kb_7.keep hb8
  have kl_8 := kl_7.keep hb8
  have kx_8 := kx_7.keep hb8
  go_wp2_with (fail)
  refine (H48.out _ _ _ ka_8 kx_8).mono ?_
  rintro e w9 ⟨q, r, rfl, hq, hr, hb9⟩
  have b9 := below_at b8 (Nat.le_refl _) hb9
  have kb_9 := kb_8.keep hb9
  have kl_9 := kl_8.keep hb9
  have kq_9 := hq
  go_wp2_with (fail)
  refine (H46.out _ _ _ kq_9 kb_9).mono ?_
  rintro e w10 ⟨p, rfl, hp, hb10⟩
  have b10 := below_at b9 (Nat.le_refl _) hb10
  have kl_10 := kl_9.keep hb10
  have kp_10 := hp.limbs (by omega)
  go_wp2_with (fail)
  refine (H42.out _ _ _ kl_10 kp_10).mono ?_
  rintro e w11 ⟨rfl, hb11⟩
  have b11 := below_at b10 (Nat.le_refl _) hb11
  go_wp2
  go_ret
  exact ⟨rfl, b11⟩

/-- The law NatGcds, for whatever limbs. -/
theorem gcds_walk (A A' : Option Addr) (c c' L L' : Nat) (xs ys : List Nat) (w : World) (hA : Nums .u32 w A xs) (hA' : Nums .u32 w A' ys) (hL : L = xs.length) (hL' : L' = ys.length) (hc : L ≤ c) (hc' : L' ≤ c') (hnil : A = none → c = 0) (hnil' : A' = none → c' = 0) (hlow : Low B32 xs) (hlow' : Low B32 ys) : Calls Try.prog 11 #[.slice A L c, .slice A' L' c'] w (LivesPost w) := by
  by_cases h0 : chk2 (xs.take 8) (ys.take 8) = 0
  · have h1 : chk (xs.take 8) = 0 ∧ chk (ys.take 8) = 0 := by
      unfold chk2 at h0
      split at h0
      · rename_i h; exact ⟨h, h0⟩
      · rename_i h; exact absurd h0 h
    have hm := chk_zero (hlow.take 8) h1.1
    have hn := chk_zero (hlow'.take 8) h1.2
    rcases Nat.eq_zero_or_pos (val B32 (xs.take 8)) with h | h
    · exact gcds_zero_l A A' c c' L L' xs ys w hA hA' hL hL' hc hc' hnil hnil' _ _ hm hn h
    · rcases Nat.eq_zero_or_pos (val B32 (ys.take 8)) with k | k
      · exact gcds_zero_r A A' c c' L L' xs ys w hA hA' hL hL' hc hc' hnil hnil' _ _ hm hn ⟨h, k⟩
      · exact gcds_ok A A' c c' L L' xs ys w hA hA' hL hL' hc hc' hnil hnil' _ _ hm hn ⟨h, k⟩
  · exact gcds_bad A A' c c' L L' xs ys w hA hA' hL hL' hc hc' hnil hnil' h0
end Go.Proofs.Ytaegkhdkhgemmaa
