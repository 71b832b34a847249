/- Part of the proof of NatDivides: DividesW. -/
import Derived.Test.YtaegkhdkhgemmaaPartE
import Derived.Test.YtaegkhdkhgemmaaPartF
namespace Go.Proofs.Ytaegkhdkhgemmaa
open Go.RowKit Num

set_option maxHeartbeats 2000000 in
set_option maxRecDepth 100000 in
theorem divides_bad (A A' : Option Addr) (c c' L L' : Nat) (xs ys : List Nat) (w : World) (hA : Nums .u32 w A xs) (hA' : Nums .u32 w A' ys) (hL : L = xs.length) (hL' : L' = ys.length) (hc : L ≤ c) (hc' : L' ≤ c') (hnil : A = none → c = 0) (hnil' : A' = none → c' = 0)
    (hbad : chk2 (xs.take 24) (ys.take 24) ≠ 0) : Calls Try.prog 6 #[.slice A L c, .slice A' L' c'] w (LivesPost w) := by
  have hcut := fun w' (h : Below w.heap.size w w') => cut_any A c L 24 xs w' (hA.keep h) hL hc hnil (by omega)
  have hcut' := fun w' (h : Below w.heap.size w w') => cut_any A' c' L' 24 ys w' (hA'.keep h) hL' hc' hnil' (by omega)
  have l1 : (xs.take 24).length ≤ 24 := by rw [List.length_take]; omega
  have l2 : (ys.take 24).length ≤ 24 := by rw [List.length_take]; omega
  generalize xs.take 24 = us at *
  generalize ys.take 24 = vs at *
  have hlu : ∀ B w' a, OwnLs B w' a us → Limbs w' a us := fun B w' a h => h.limbs (by omega)
  have hlv : ∀ B w' a, OwnLs B w' a vs → Limbs w' a vs := fun B w' a h => h.limbs (by omega)
  have h47 := fun a b w h k => divMod_bad a b us vs w h k hbad
  have h40 := fun a b w h k => both_any a b us vs w h k
  generalize chk2 us vs = r at *
  have hq : (r == 0) = false := by simp [hbad]
  have hq1 : (r != 0) = true := by simp [hbad]
  have h41 := fun b w => is_err b r w hbad
  have HCUT := Lib.hid hcut
  have HCUT1 := Lib.hid hcut'
  have HLU := Lib.hid hlu
  have HLV := Lib.hid hlv
  have H47 := Lib.hid h47
  have H40 := Lib.hid h40
  have H41 := Lib.hid h41
  have HBAD := Lib.hid hbad
  clear hcut hcut' hlu hlv h47 h40 h41 hbad
  clear hA hA' hL hL' hnil hnil' l1 l2
  go_enter Try.func6, Try.ntmps6
  go_wp2_with (fail)
  refine (HCUT.out _ (Below.refl _ _)).mono ?_
  rintro e w1 ⟨va, rfl, hva, hb1⟩
  have b1 := below_at (Below.refl _ _) (Nat.le_refl _) hb1
  have ka_1 := HLU.out _ _ _ hva
  go_wp2_with (fail)
  refine (HCUT1.out _ b1).mono ?_
  rintro e w2 ⟨vb, rfl, hvb, hb2⟩
  have b2 := below_at b1 (Nat.le_refl _) hb2
  have ka_2 := ka_1.keep hb2
  have kb_2 := HLV.out _ _ _ hvb
  go_wp2_with (fail)
  refine (H47.out _ _ _ ka_2 kb_2).mono ?_
  rintro e w3 ⟨rfl, hb3⟩
  have b3 := below_at b2 (Nat.le_refl _) hb3
  have ka_3 := ka_2.keep hb3
  have kb_3 := kb_2.keep hb3
  go_wp2_with (fail)
  refine (H40.out _ _ _ ka_3 kb_3).mono ?_
  rintro e w4 ⟨rfl, rfl⟩
  go_wp2_with (fail)
  refine (H41.out _ _).mono ?_
  rintro e w5 ⟨rfl, hb5⟩
  have b5 := below_at b3 (Nat.le_refl _) hb5
  go_wp2_with (fail)
  refine (lives_any _).mono ?_
  rintro e w6 ⟨rfl, hb6⟩
  have b6 := below_at b5 (Nat.le_refl _) hb6
  go_wp2
  go_ret
  exact ⟨rfl, b6⟩

set_option maxHeartbeats 2000000 in
set_option maxRecDepth 100000 in
theorem divides_zero (A A' : Option Addr) (c c' L L' : Nat) (xs ys : List Nat) (w : World) (hA : Nums .u32 w A xs) (hA' : Nums .u32 w A' ys) (hL : L = xs.length) (hL' : L' = ys.length) (hc : L ≤ c) (hc' : L' ≤ c') (hnil : A = none → c = 0) (hnil' : A' = none → c' = 0)
    (m n : Nat) (hm : xs.take 24 = dig B32 m) (hn : ys.take 24 = dig B32 n) (h0 : n = 0) : Calls Try.prog 6 #[.slice A L c, .slice A' L' c'] w (LivesPost w) := by
  have hcut := fun w' (h : Below w.heap.size w w') => cut_any A c L 24 xs w' (hA.keep h) hL hc hnil (by omega)
  have hcut' := fun w' (h : Below w.heap.size w w') => cut_any A' c' L' 24 ys w' (hA'.keep h) hL' hc' hnil' (by omega)
  have l1 : (xs.take 24).length ≤ 24 := by rw [List.length_take]; omega
  have l2 : (ys.take 24).length ≤ 24 := by rw [List.length_take]; omega
  rw [hm] at hcut l1
  rw [hn] at hcut' l2
  have hlu : ∀ B w' a, OwnLs B w' a (dig B32 m) → Limbs w' a (dig B32 m) := fun B w' a h => h.limbs (by omega)
  have hlv : ∀ B w' a, OwnLs B w' a (dig B32 n) → Limbs w' a (dig B32 n) := fun B w' a h => h.limbs (by omega)
  have h40 := fun a b w h k => both_any a b (dig B32 m) (dig B32 n) w h k
  rw [chk2, if_pos (chk_dig (by omega)), chk_dig (by omega)] at h40
  have h47 := fun a b w' (h : Limbs w' a (dig B32 m)) (k : Limbs w' b (dig B32 n)) => divMod_zero a b m n w' h.is k.is (by omega) (by omega) h0
  have h41 := fun b w => is_err b 4 w (by omega)
  have hD : (dig B32 n).length = 0 := by rw [h0, dig_zero]; rfl
  have HCUT := Lib.hid hcut
  have HCUT1 := Lib.hid hcut'
  have HLU := Lib.hid hlu
  have HLV := Lib.hid hlv
  have H47 := Lib.hid h47
  have H40 := Lib.hid h40
  have H41 := Lib.hid h41
  have HD := Lib.hid hD
  clear hcut hcut' hlu hlv h47 h40 h41 hD
  clear h0
  clear hA hA' hL hL' hnil hnil' l1 l2 hm hn
  go_enter Try.func6, Try.ntmps6
  go_wp2_with (fail)
  refine (HCUT.out _ (Below.refl _ _)).mono ?_
  rintro e w1 ⟨va, rfl, hva, hb1⟩
  have b1 := below_at (Below.refl _ _) (Nat.le_refl _) hb1
  have ka_1 := HLU.out _ _ _ hva
  go_wp2_with (fail)
  refine (HCUT1.out _ b1).mono ?_
  rintro e w2 ⟨vb, rfl, hvb, hb2⟩
  have b2 := below_at b1 (Nat.le_refl _) hb2
  have ka_2 := ka_1.keep hb2
  have kb_2 := HLV.out _ _ _ hvb
  have kk := kb_2
  obtain ⟨A2, c2, hve, hcc, _⟩ := kk
  rw [HD.out] at hve hcc
  subst hve
  go_wp2_with (fail)
  refine (H47.out _ _ _ ka_2 kb_2).mono ?_
  rintro e w3 ⟨rfl, hb3⟩
  have b3 := below_at b2 (Nat.le_refl _) hb3
  have ka_3 := ka_2.keep hb3
  have kb_3 := kb_2.keep hb3
  go_wp2_with (fail)
  refine (H40.out _ _ _ ka_3 kb_3).mono ?_
  rintro e w4 ⟨rfl, rfl⟩
  go_wp2_with (fail)
  refine (H41.out _ _).mono ?_
  rintro e w5 ⟨rfl, hb5⟩
  have b5 := below_at b3 (Nat.le_refl _) hb5
  go_wp2_with (fail)
  refine (lives_any _).mono ?_
  rintro e w6 ⟨rfl, hb6⟩
  have b6 := below_at b5 (Nat.le_refl _) hb6
  go_wp2
  go_ret
  exact ⟨rfl, b6⟩

set_option maxHeartbeats 2000000 in
set_option maxRecDepth 100000 in
theorem divides_ok (A A' : Option Addr) (c c' L L' : Nat) (xs ys : List Nat) (w : World) (hA : Nums .u32 w A xs) (hA' : Nums .u32 w A' ys) (hL : L = xs.length) (hL' : L' = ys.length) (hc : L ≤ c) (hc' : L' ≤ c') (hnil : A = none → c = 0) (hnil' : A' = none → c' = 0)
    (m n : Nat) (hm : xs.take 24 = dig B32 m) (hn : ys.take 24 = dig B32 n) (h0 : 0 < n) : Calls Try.prog 6 #[.slice A L c, .slice A' L' c'] w (LivesPost w) := by
  have hcut := fun w' (h : Below w.heap.size w w') => cut_any A c L 24 xs w' (hA.keep h) hL hc hnil (by omega)
  have hcut' := fun w' (h : Below w.heap.size w w') => cut_any A' c' L' 24 ys w' (hA'.keep h) hL' hc' hnil' (by omega)
  have l1 : (xs.take 24).length ≤ 24 := by rw [List.length_take]; omega
  have l2 : (ys.take 24).length ≤ 24 := by rw [List.length_take]; omega
  rw [hm] at hcut l1
  rw [hn] at hcut' l2
  have hlu : ∀ B w' a, OwnLs B w' a (dig B32 m) → Limbs w' a (dig B32 m) := fun B w' a h => h.limbs (by omega)
  have hlv : ∀ B w' a, OwnLs B w' a (dig B32 n) → Limbs w' a (dig B32 n) := fun B w' a h => h.limbs (by omega)
  have h40 := fun a b w h k => both_any a b (dig B32 m) (dig B32 n) w h k
  rw [chk2, if_pos (chk_dig (by omega)), chk_dig (by omega)] at h40
  have lq : (dig B32 (m / n)).length ≤ 24 := Nat.le_trans (len_mono32 (Nat.div_le_self _ _)) l1
  have lr : (dig B32 (m % n)).length ≤ 24 := Nat.le_trans (len_mono32 (Nat.mod_le _ _)) l1
  have w2 : (dig B64 n).length ≤ 12 := words_le (by omega)
  have h47 := fun a b w' (h : Limbs w' a (dig B32 m)) (k : Limbs w' b (dig B32 n)) => divMod_ok a b m n w' h.is k.is (by omega) (by omega) h0 (.inl (by omega))
  have h48 := fun a b w' (h : Limbs w' a (dig B32 m)) (k : Limbs w' b (dig B32 n)) => refDivMod_any a b m n w' h.is k.is (by omega) (by omega) h0
  have h41 := fun a b w' (h : N32 w' a (m / n)) (k : N32 w' b (m / n)) => is_ok a b _ w' h (Limbs.num k (by omega)) (by omega)
  have h32 : ∀ a b w', N32 w' a (m % n) → N32 w' b (m % n) → Calls Try.prog 32 #[a, b] w' (LivesPost w') := fun a b w' h k => by
    have hs := same_nums a b _ _ w' (Limbs.num h (by omega)) (Limbs.num k (by omega))
    rw [decide_eq_true rfl] at hs
    exact hs
  obtain ⟨D, hD⟩ : ∃ D, (dig B32 n).length = D := ⟨_, rfl⟩
  have hd0 : 0 < D := by
    rcases Nat.eq_zero_or_pos D with h | h
    · rw [h] at hD
      have := (dig_nil_iff b32_two).1 (List.eq_nil_of_length_eq_zero hD); omega
    · exact h
  have HCUT := Lib.hid hcut
  have HCUT1 := Lib.hid hcut'
  have HLU := Lib.hid hlu
  have HLV := Lib.hid hlv
  have H47 := Lib.hid h47
  have H48 := Lib.hid h48
  have H40 := Lib.hid h40
  have H41 := Lib.hid h41
  have H32 := Lib.hid h32
  have HD := Lib.hid hD
  clear hcut hcut' hlu hlv h47 h48 h40 h41 h32 hD
  clear lq lr w2 h0
  clear hA hA' hL hL' hnil hnil' l1 l2 hm hn
  go_enter Try.func6, Try.ntmps6
  go_wp2_with (fail)
  refine (HCUT.out _ (Below.refl _ _)).mono ?_
  rintro e w1 ⟨va, rfl, hva, hb1⟩
  have b1 := below_at (Below.refl _ _) (Nat.le_refl _) hb1
  have ka_1 := HLU.out _ _ _ hva
  go_wp2_with (fail)
  refine (HCUT1.out _ b1).mono ?_
  rintro e w2 ⟨vb, rfl, hvb, hb2⟩
  have b2 := below_at b1 (Nat.le_refl _) hb2
  have ka_2 := ka_1.keep hb2
  have kb_2 := HLV.out _ _ _ hvb
  have kk := kb_2
  obtain ⟨A2, c2, hve, hcc, _⟩ := kk
  rw [HD.out] at hve hcc
  subst hve
  go_wp2_with (fail)
  refine (H47.out _ _ _ ka_2 kb_2).mono ?_
  rintro e w3 ⟨q, r, rfl, hq, hr, hb3⟩
  have b3 := below_at b2 (Nat.le_refl _) hb3
  have ka_3 := ka_2.keep hb3
  have kb_3 := kb_2.keep hb3
  have kq_3 := hq.is
  have kr_3 := hr.is
  go_wp2_with (fail)
  refine (H40.out _ _ _ ka_3 kb_3).mono ?_
  rintro e w4 ⟨rfl, rfl⟩
  go_wp2_with (fail)
  refine (H48.out _ _ _ ka_3 kb_3).mono ?_
  rintro e w5 ⟨q', r', rfl, hq', hr', hb5⟩
  have b5 := below_at b3 (Nat.le_refl _) hb5
  have kq_5 := kq_3.keep hb5
  have kr_5 := kr_3.keep hb5
  have kp_5 := hq'
  have ks_5 := hr'
  go_wp2_with (fail)
  refine (H41.out _ _ _ kq_5 kp_5).mono ?_
  rintro e w6 ⟨rfl, hb6⟩
  have b6 := below_at b5 (Nat.le_refl _) hb6
  have kr_6 := kr_5.keep hb6
  have ks_6 := ks_5.keep hb6
  go_wp2_with (fail)
  refine (H32.out _ _ _ kr_6 ks_6).mono ?_
  rintro e w7 ⟨rfl, hb7⟩
  have b7 := below_at b6 (Nat.le_refl _) hb7
  go_wp2_with (fail)
  refine (lives_any _).mono ?_
  rintro e w8 ⟨rfl, hb8⟩
  have b8 := below_at b7 (Nat.le_refl _) hb8
  go_wp2
  go_ret
  exact ⟨rfl, b8⟩

/-- The law NatDivides, for whatever limbs. -/
theorem divides_walk (A A' : Option Addr) (c c' L L' : Nat) (xs ys : List Nat) (w : World) (hA : Nums .u32 w A xs) (hA' : Nums .u32 w A' ys) (hL : L = xs.length) (hL' : L' = ys.length) (hc : L ≤ c) (hc' : L' ≤ c') (hnil : A = none → c = 0) (hnil' : A' = none → c' = 0) (hlow : Low B32 xs) (hlow' : Low B32 ys) : Calls Try.prog 6 #[.slice A L c, .slice A' L' c'] w (LivesPost w) := by
  by_cases h0 : chk2 (xs.take 24) (ys.take 24) = 0
  · have h1 : chk (xs.take 24) = 0 ∧ chk (ys.take 24) = 0 := by
      unfold chk2 at h0
      split at h0
      · rename_i h; exact ⟨h, h0⟩
      · rename_i h; exact absurd h0 h
    have hm := chk_zero (hlow.take 24) h1.1
    have hn := chk_zero (hlow'.take 24) h1.2
    rcases Nat.eq_zero_or_pos (val B32 (ys.take 24)) with h | h
    · exact divides_zero A A' c c' L L' xs ys w hA hA' hL hL' hc hc' hnil hnil' _ _ hm hn h
    · exact divides_ok A A' c c' L L' xs ys w hA hA' hL hL' hc hc' hnil hnil' _ _ hm hn h
  · exact divides_bad A A' c c' L L' xs ys w hA hA' hL hL' hc hc' hnil hnil' h0
end Go.Proofs.Ytaegkhdkhgemmaa
