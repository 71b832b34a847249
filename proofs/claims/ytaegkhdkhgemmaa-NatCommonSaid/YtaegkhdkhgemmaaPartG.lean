/- Part of the proof of NatCommon: AddsW, RefMul, MulsW, RefOver, RefSh, RefDiv, RefDivW, GcdApi, DivM, Whole. -/
import Derived.Test.YtaegkhdkhgemmaaPartF
import Derived.Test.YtaegkhdkhgemmaaPartD
import Derived.Test.YtaegkhdkhgemmaaPartC
namespace Go.Proofs.Ytaegkhdkhgemmaa
open Go.RowKit Num

set_option maxHeartbeats 2000000 in
set_option maxRecDepth 100000 in
theorem adds_bad (A A' : Option Addr) (c c' L L' : Nat) (xs ys : List Nat) (w : World) (hA : Nums .u32 w A xs) (hA' : Nums .u32 w A' ys) (hL : L = xs.length) (hL' : L' = ys.length) (hc : L ≤ c) (hc' : L' ≤ c') (hnil : A = none → c = 0) (hnil' : A' = none → c' = 0)
    (hbad : chk2 (xs.take 60) (ys.take 60) ≠ 0) : Calls Try.prog 4 #[.slice A L c, .slice A' L' c'] w (LivesPost w) := by
  have hcut := fun w' (h : Below w.heap.size w w') => cut_any A c L 60 xs w' (hA.keep h) hL hc hnil (by omega)
  have hcut' := fun w' (h : Below w.heap.size w w') => cut_any A' c' L' 60 ys w' (hA'.keep h) hL' hc' hnil' (by omega)
  have l1 : (xs.take 60).length ≤ 60 := by rw [List.length_take]; omega
  have l2 : (ys.take 60).length ≤ 60 := by rw [List.length_take]; omega
  generalize xs.take 60 = us at *
  generalize ys.take 60 = vs at *
  have hlu : ∀ B w' a, OwnLs B w' a us → Limbs w' a us := fun B w' a h => h.limbs (by omega)
  have hlv : ∀ B w' a, OwnLs B w' a vs → Limbs w' a vs := fun B w' a h => h.limbs (by omega)
  have h37 := fun a b w h k => add_bad a b us vs w h k hbad
  have h38 := fun a b w h k => sub_bad a b us vs w h k hbad
  have h39 := fun a b w h k => cmp_bad a b us vs w h k hbad
  have h40 := fun a b w h k => both_any a b us vs w h k
  generalize chk2 us vs = r at *
  have hq : (r != 0) = true := by simp [hbad]
  have hq0 : (r == r) = true := by simp
  have h41 := fun b w => is_err b r w hbad
  have HC := Lib.hid hcut
  have HC' := Lib.hid hcut'
  have HLU := Lib.hid hlu
  have HLV := Lib.hid hlv
  have H37 := Lib.hid h37
  have H38 := Lib.hid h38
  have H39 := Lib.hid h39
  have H40 := Lib.hid h40
  have H41 := Lib.hid h41
  have HB := Lib.hid hbad
  clear hcut hcut' hlu hlv h37 h38 h39 h40 h41 hbad hA hA' hL hL' hnil hnil' l1 l2
  go_enter Try.func4, Try.ntmps4
  go_wp2_with (fail)
  refine (HC.out _ (Below.refl _ _)).mono ?_
  rintro e w1 ⟨va, rfl, hva, hb1⟩
  have ka := HLU.out _ _ _ hva
  go_wp2_with (fail)
  refine (HC'.out _ hb1).mono ?_
  rintro e w2 ⟨vb, rfl, hvb, hb2⟩
  have kb := HLV.out _ _ _ hvb
  have b2 := below_at hb1 (Nat.le_refl _) hb2
  have ka2 := ka.keep hb2
  go_wp2_with (first
    | (go_at_call 37; refine (H37.out _ _ _ ka2 kb).mono ?_; rintro e w3 ⟨rfl, hb3⟩
       have b3 := below_at b2 (Nat.le_refl _) hb3
       have ka3 := ka2.keep hb3
       have kb3 := kb.keep hb3)
    | (go_at_call 38; refine (H38.out _ _ _ ka3 kb3).mono ?_; rintro e w4 ⟨rfl, hb4⟩
       have b4 := below_at b3 (Nat.le_refl _) hb4
       have ka4 := ka3.keep hb4
       have kb4 := kb3.keep hb4)
    | (go_at_call 39; refine (H39.out _ _ _ ka4 kb4).mono ?_; rintro e w5 ⟨rfl, hb5⟩
       have b5 := below_at b4 (Nat.le_refl _) hb5
       have ka5 := ka4.keep hb5
       have kb5 := kb4.keep hb5)
    | (go_at_call 40; refine (H40.out _ _ _ ka5 kb5).mono ?_; rintro e w6 ⟨rfl, rfl⟩)
    | (go_at_call 30; refine (lives_any _).mono ?_; rintro e w7 ⟨rfl, hb7⟩
       have b7 := below_at b5 (Nat.le_refl _) hb7))
  refine (H41.out _ _).mono ?_
  rintro e w8 ⟨rfl, hb8⟩
  have b8 := below_at b7 (Nat.le_refl _) hb8
  go_wp2_with (fail)
  refine (H41.out _ _).mono ?_
  rintro e w9 ⟨rfl, hb9⟩
  have b9 := below_at b8 (Nat.le_refl _) hb9
  go_wp2
  go_ret
  exact ⟨rfl, b9⟩

theorem sum_len {m n : Nat} (hm : (dig B32 m).length ≤ 60) (hn : (dig B32 n).length ≤ 60) : (dig B32 (m + n)).length ≤ 61 := by
  have h1 := Nat.lt_of_lt_of_le (dig_len_lt b32_two (n := m)) (Nat.pow_le_pow_right b32_pos hm)
  have h2 := Nat.lt_of_lt_of_le (dig_len_lt b32_two (n := n)) (Nat.pow_le_pow_right b32_pos hn)
  exact dig_len_le b32_two (two_pow_lt b32_two h1 h2)
theorem bits_of_len {n K : Nat} (h : (dig B32 n).length ≤ K) : nbits n ≤ 32 * K := by
  refine nbits_le (Nat.lt_of_lt_of_le (dig_len_lt b32_two) ?_)
  rw [Nat.pow_mul]
  exact Nat.pow_le_pow_right b32_pos h
theorem sum_small {m n : Nat} (hm : (dig B32 m).length ≤ 60) (hn : (dig B32 n).length ≤ 60) : nbits (m + n) ≤ 8388608 := Nat.le_trans (bits_of_len (sum_len hm hn)) (by omega)

set_option maxHeartbeats 2000000 in
set_option maxRecDepth 100000 in
theorem adds_lt (A A' : Option Addr) (c c' L L' m n : Nat) (xs ys : List Nat) (w : World) (hA : Nums .u32 w A xs) (hA' : Nums .u32 w A' ys) (hL : L = xs.length) (hL' : L' = ys.length) (hc : L ≤ c) (hc' : L' ≤ c') (hnil : A = none → c = 0) (hnil' : A' = none → c' = 0)
    (hm : xs.take 60 = dig B32 m) (hn : ys.take 60 = dig B32 n) (hcmp : m < n) : Calls Try.prog 4 #[.slice A L c, .slice A' L' c'] w (LivesPost w) := by
  have hcut := fun w' (h : Below w.heap.size w w') => cut_any A c L 60 xs w' (hA.keep h) hL hc hnil (by omega)
  have hcut' := fun w' (h : Below w.heap.size w w') => cut_any A' c' L' 60 ys w' (hA'.keep h) hL' hc' hnil' (by omega)
  have l1 : (xs.take 60).length ≤ 60 := by rw [List.length_take]; omega
  have l2 : (ys.take 60).length ≤ 60 := by rw [List.length_take]; omega
  rw [hm] at hcut l1
  rw [hn] at hcut' l2
  have hp := sum_small l1 l2
  have ls := sum_len l1 l2
  have hlu : ∀ B w' a, OwnLs B w' a (dig B32 m) → Limbs w' a (dig B32 m) := fun B w' a h => h.limbs (by omega)
  have hlv : ∀ B w' a, OwnLs B w' a (dig B32 n) → Limbs w' a (dig B32 n) := fun B w' a h => h.limbs (by omega)
  have h37 := fun a b w (h : Limbs w a (dig B32 m)) (k : Limbs w b (dig B32 n)) => add_ok a b m n w h.is k.is (by omega) (by omega) hp
  have h38 := fun a b w (h : Limbs w a (dig B32 m)) (k : Limbs w b (dig B32 n)) => sub_range a b m n w h.is k.is (by omega) (by omega) hcmp
  have h39 := fun a b w (h : Limbs w a (dig B32 m)) (k : Limbs w b (dig B32 n)) => cmp_ok a b m n w h.is k.is (by omega) (by omega)
  have h40 := fun a b w h k => both_any a b (dig B32 m) (dig B32 n) w h k
  have h42 := fun a b w (h : Limbs w a (dig B32 m)) (k : Limbs w b (dig B32 n)) => refCmp_call a b m n w h.is k.is (by omega) (by omega)
  have h43 := fun a b w (h : Limbs w a (dig B32 m)) (k : Limbs w b (dig B32 n)) => refAdd_call a b m n w h.is k.is (by omega) (by omega)
  have h41 := fun a b w (h : N32 w a (m + n)) (k : OwnLs w.heap.size w b (dig B32 (m + n))) => is_ok a b (m + n) w h (k.limbs (by omega)) (by omega)
  have h41b : ∀ B a b w, N32 w a (m + n) → OwnLs B w b (dig B32 (m + n)) → Calls Try.prog 41 #[a, .int .i64 0, b, .int .i64 0] w (LivesPost w) := fun B a b w h k => is_ok a b (m + n) w h (k.limbs (by omega)) (by omega)
  have h41e := fun b w => is_err b 5 w (by omega)
  rw [chk2, if_pos (chk_dig (by omega)), chk_dig (by omega)] at h40
  have hcv : cmpN m n = -1 := cmpN_lt hcmp
  generalize cmpN m n = r at *
  have hq : (r != r) = false := by simp
  subst hcv
  have HC := Lib.hid hcut
  have HC' := Lib.hid hcut'
  have HLU := Lib.hid hlu
  have HLV := Lib.hid hlv
  have H37 := Lib.hid h37
  have H38 := Lib.hid h38
  have H39 := Lib.hid h39
  have H40 := Lib.hid h40
  have H41 := Lib.hid h41b
  have H42 := Lib.hid h42
  have H43 := Lib.hid h43
  have H41E := Lib.hid h41e
  clear hcut hcut' hlu hlv h37 h38 h39 h40 h41 h41b h42 h43 hA hA' hL hL' hnil hnil' l1 l2 hp ls hm hn hcmp h41e
  go_enter Try.func4, Try.ntmps4
  go_wp2_with (fail)
  refine (HC.out _ (Below.refl _ _)).mono ?_
  rintro e w1 ⟨va, rfl, hva, hb1⟩
  have ka := HLU.out _ _ _ hva
  go_wp2_with (fail)
  refine (HC'.out _ hb1).mono ?_
  rintro e w2 ⟨vb, rfl, hvb, hb2⟩
  have kb := HLV.out _ _ _ hvb
  have b2 := below_at hb1 (Nat.le_refl _) hb2
  have ka2 := ka.keep hb2
  go_wp2_with (first
    | (go_at_call 37; refine (H37.out _ _ _ ka2 kb).mono ?_; rintro e w3 ⟨vs, rfl, hvs, hb3⟩
       have b3 := below_at b2 (Nat.le_refl _) hb3
       have ka3 := ka2.keep hb3
       have kb3 := kb.keep hb3)
    | (go_at_call 38; refine (H38.out _ _ _ ka3 kb3).mono ?_; rintro e w4 ⟨rfl, hb4⟩
       have b4 := below_at b3 (Nat.le_refl _) hb4
       have ka4 := ka3.keep hb4
       have kb4 := kb3.keep hb4
       have ks4 := hvs.is.keep hb4)
    | (go_at_call 39; refine (H39.out _ _ _ ka4 kb4).mono ?_; rintro e w5 ⟨rfl, hb5⟩
       have b5 := below_at b4 (Nat.le_refl _) hb5
       have ka5 := ka4.keep hb5
       have kb5 := kb4.keep hb5
       have ks5 := ks4.keep hb5)
    | (go_at_call 40; refine (H40.out _ _ _ ka5 kb5).mono ?_; rintro e w6 ⟨rfl, rfl⟩)
    | (go_at_call 30; refine (lives_any _).mono ?_; rintro e w7 ⟨rfl, hb7⟩
       have b7 := below_at b5 (Nat.le_refl _) hb7
       have ka7 := ka5.keep hb7
       have kb7 := kb5.keep hb7
       have ks7 := ks5.keep hb7)
    | (go_at_call 42; refine (H42.out _ _ _ ka7 kb7).mono ?_; rintro e w8 ⟨rfl, hb8⟩
       have b8 := below_at b7 (Nat.le_refl _) hb8
       have ka8 := ka7.keep hb8
       have kb8 := kb7.keep hb8
       have ks8 := ks7.keep hb8)
    | (go_at_call 43; refine (H43.out _ _ _ ka8 kb8).mono ?_; rintro e w9 ⟨v9, rfl, hv9, hb9⟩
       have b9 := below_at b8 (Nat.le_refl _) hb9
       have ka9 := ka8.keep hb9
       have kb9 := kb8.keep hb9
       have ks9 := ks8.keep hb9))
  refine (H41.out _ _ _ _ ks9 hv9).mono ?_
  rintro e w10 ⟨rfl, hb10⟩
  have b10 := below_at b9 (Nat.le_refl _) hb10
  go_wp2_with (fail)
  refine (H41E.out _ _).mono ?_
  rintro e w11 ⟨rfl, hb11⟩
  have b11 := below_at b10 (Nat.le_refl _) hb11
  go_wp2
  go_ret
  exact ⟨rfl, b11⟩

set_option maxHeartbeats 2000000 in
set_option maxRecDepth 100000 in
theorem adds_ge (A A' : Option Addr) (c c' L L' m n : Nat) (xs ys : List Nat) (w : World) (hA : Nums .u32 w A xs) (hA' : Nums .u32 w A' ys) (hL : L = xs.length) (hL' : L' = ys.length) (hc : L ≤ c) (hc' : L' ≤ c') (hnil : A = none → c = 0) (hnil' : A' = none → c' = 0)
    (hm : xs.take 60 = dig B32 m) (hn : ys.take 60 = dig B32 n) (hcmp : n ≤ m) : Calls Try.prog 4 #[.slice A L c, .slice A' L' c'] w (LivesPost w) := by
  have hcut := fun w' (h : Below w.heap.size w w') => cut_any A c L 60 xs w' (hA.keep h) hL hc hnil (by omega)
  have hcut' := fun w' (h : Below w.heap.size w w') => cut_any A' c' L' 60 ys w' (hA'.keep h) hL' hc' hnil' (by omega)
  have l1 : (xs.take 60).length ≤ 60 := by rw [List.length_take]; omega
  have l2 : (ys.take 60).length ≤ 60 := by rw [List.length_take]; omega
  rw [hm] at hcut l1
  rw [hn] at hcut' l2
  have hp := sum_small l1 l2
  have ls := sum_len l1 l2
  have hlu : ∀ B w' a, OwnLs B w' a (dig B32 m) → Limbs w' a (dig B32 m) := fun B w' a h => h.limbs (by omega)
  have hlv : ∀ B w' a, OwnLs B w' a (dig B32 n) → Limbs w' a (dig B32 n) := fun B w' a h => h.limbs (by omega)
  have h37 := fun a b w (h : Limbs w a (dig B32 m)) (k : Limbs w b (dig B32 n)) => add_ok a b m n w h.is k.is (by omega) (by omega) hp
  have h38 := fun a b w (h : Limbs w a (dig B32 m)) (k : Limbs w b (dig B32 n)) => sub_ok a b m n w h.is k.is (by omega) (by omega) hcmp
  have h39 := fun a b w (h : Limbs w a (dig B32 m)) (k : Limbs w b (dig B32 n)) => cmp_ok a b m n w h.is k.is (by omega) (by omega)
  have h40 := fun a b w h k => both_any a b (dig B32 m) (dig B32 n) w h k
  have h42 := fun a b w (h : Limbs w a (dig B32 m)) (k : Limbs w b (dig B32 n)) => refCmp_call a b m n w h.is k.is (by omega) (by omega)
  have h43 := fun a b w (h : Limbs w a (dig B32 m)) (k : Limbs w b (dig B32 n)) => refAdd_call a b m n w h.is k.is (by omega) (by omega)
  have h41 := fun a b w (h : N32 w a (m + n)) (k : OwnLs w.heap.size w b (dig B32 (m + n))) => is_ok a b (m + n) w h (k.limbs (by omega)) (by omega)
  have h41b : ∀ B a b w, N32 w a (m + n) → OwnLs B w b (dig B32 (m + n)) → Calls Try.prog 41 #[a, .int .i64 0, b, .int .i64 0] w (LivesPost w) := fun B a b w h k => is_ok a b (m + n) w h (k.limbs (by omega)) (by omega)
  have ld : (dig B32 (m - n)).length ≤ 60 := Nat.le_trans (dig_len_le b32_two (Nat.lt_of_le_of_lt (Nat.sub_le m n) (dig_len_lt b32_two))) l1
  have h44 := fun a b w (h : Limbs w a (dig B32 m)) (k : Limbs w b (dig B32 n)) => refSub_call a b m n w h.is k.is (by omega) hcmp
  have h41d : ∀ B a b w, N32 w a (m - n) → OwnLs B w b (dig B32 (m - n)) → Calls Try.prog 41 #[a, .int .i64 0, b, .int .i64 0] w (LivesPost w) := fun B a b w h k => is_ok a b (m - n) w h (k.limbs (by omega)) (by omega)
  rw [chk2, if_pos (chk_dig (by omega)), chk_dig (by omega)] at h40
  have hcv : 0 ≤ cmpN m n := by unfold cmpN; split <;> (try split) <;> omega
  generalize cmpN m n = r at *
  have hq : (r != r) = false := by simp
  have HC := Lib.hid hcut
  have HC' := Lib.hid hcut'
  have HLU := Lib.hid hlu
  have HLV := Lib.hid hlv
  have H37 := Lib.hid h37
  have H38 := Lib.hid h38
  have H39 := Lib.hid h39
  have H40 := Lib.hid h40
  have H41 := Lib.hid h41b
  have H42 := Lib.hid h42
  have H43 := Lib.hid h43
  have H41D := Lib.hid h41d
  have H44 := Lib.hid h44
  clear hcut hcut' hlu hlv h37 h38 h39 h40 h41 h41b h42 h43 hA hA' hL hL' hnil hnil' l1 l2 hp ls hm hn hcmp h41d h44 ld
  go_enter Try.func4, Try.ntmps4
  go_wp2_with (fail)
  refine (HC.out _ (Below.refl _ _)).mono ?_
  rintro e w1 ⟨va, rfl, hva, hb1⟩
  have ka := HLU.out _ _ _ hva
  go_wp2_with (fail)
  refine (HC'.out _ hb1).mono ?_
  rintro e w2 ⟨vb, rfl, hvb, hb2⟩
  have kb := HLV.out _ _ _ hvb
  have b2 := below_at hb1 (Nat.le_refl _) hb2
  have ka2 := ka.keep hb2
  go_wp2_with (first
    | (go_at_call 37; refine (H37.out _ _ _ ka2 kb).mono ?_; rintro e w3 ⟨vs, rfl, hvs, hb3⟩
       have b3 := below_at b2 (Nat.le_refl _) hb3
       have ka3 := ka2.keep hb3
       have kb3 := kb.keep hb3)
    | (go_at_call 38; refine (H38.out _ _ _ ka3 kb3).mono ?_; rintro e w4 ⟨vd, rfl, hvd, hb4⟩
       have b4 := below_at b3 (Nat.le_refl _) hb4
       have ka4 := ka3.keep hb4
       have kb4 := kb3.keep hb4
       have ks4 := hvs.is.keep hb4)
    | (go_at_call 39; refine (H39.out _ _ _ ka4 kb4).mono ?_; rintro e w5 ⟨rfl, hb5⟩
       have b5 := below_at b4 (Nat.le_refl _) hb5
       have ka5 := ka4.keep hb5
       have kb5 := kb4.keep hb5
       have ks5 := ks4.keep hb5)
    | (go_at_call 40; refine (H40.out _ _ _ ka5 kb5).mono ?_; rintro e w6 ⟨rfl, rfl⟩)
    | (go_at_call 30; refine (lives_any _).mono ?_; rintro e w7 ⟨rfl, hb7⟩
       have b7 := below_at b5 (Nat.le_refl _) hb7
       have ka7 := ka5.keep hb7
       have kb7 := kb5.keep hb7
       have ks7 := ks5.keep hb7)
    | (go_at_call 42; refine (H42.out _ _ _ ka7 kb7).mono ?_; rintro e w8 ⟨rfl, hb8⟩
       have b8 := below_at b7 (Nat.le_refl _) hb8
       have ka8 := ka7.keep hb8
       have kb8 := kb7.keep hb8
       have ks8 := ks7.keep hb8)
    | (go_at_call 43; refine (H43.out _ _ _ ka8 kb8).mono ?_; rintro e w9 ⟨v9, rfl, hv9, hb9⟩
       have b9 := below_at b8 (Nat.le_refl _) hb9
       have ka9 := ka8.keep hb9
       have kb9 := kb8.keep hb9
       have ks9 := ks8.keep hb9))
  refine (H41.out _ _ _ _ ks9 hv9).mono ?_
  rintro e w10 ⟨rfl, hb10⟩
  have b10 := below_at b9 (Nat.le_refl _) hb10
  have kd := (((((hvd.is.keep hb5).keep hb7).keep hb8).keep hb9).keep hb10)
  have ka10 := ka9.keep hb10
  have kb10 := kb9.keep hb10
  go_wp2_with (fail)
  refine (H44.out _ _ _ ka10 kb10).mono ?_
  rintro e w11 ⟨v11, rfl, hv11, hb11⟩
  have b11 := below_at b10 (Nat.le_refl _) hb11
  go_wp2_with (fail)
  refine (H41D.out _ _ _ _ (kd.keep hb11) hv11).mono ?_
  rintro e w12 ⟨rfl, hb12⟩
  have b12 := below_at b11 (Nat.le_refl _) hb12
  go_wp2
  go_ret
  exact ⟨rfl, b12⟩

/-- The law NatAdds, for whatever limbs. -/
theorem adds_walk (A A' : Option Addr) (c c' L L' : Nat) (xs ys : List Nat) (w : World) (hA : Nums .u32 w A xs) (hA' : Nums .u32 w A' ys) (hlow : Low B32 xs) (hlow' : Low B32 ys) (hL : L = xs.length) (hL' : L' = ys.length) (hc : L ≤ c) (hc' : L' ≤ c') (hnil : A = none → c = 0) (hnil' : A' = none → c' = 0) :
    Calls Try.prog 4 #[.slice A L c, .slice A' L' c'] w (LivesPost w) := by
  by_cases h0 : chk2 (xs.take 60) (ys.take 60) = 0
  · have h1 : chk (xs.take 60) = 0 ∧ chk (ys.take 60) = 0 := by
      unfold chk2 at h0
      split at h0
      · rename_i h; exact ⟨h, h0⟩
      · rename_i h; exact absurd h0 h
    have hm := chk_zero (hlow.take 60) h1.1
    have hn := chk_zero (hlow'.take 60) h1.2
    rcases Nat.lt_or_ge (val B32 (xs.take 60)) (val B32 (ys.take 60)) with h2 | h2
    · exact adds_lt A A' c c' L L' _ _ xs ys w hA hA' hL hL' hc hc' hnil hnil' hm hn h2
    · exact adds_ge A A' c c' L L' _ _ xs ys w hA hA' hL hL' hc hc' hnil hnil' hm hn h2
  · exact adds_bad A A' c c' L L' xs ys w hA hA' hL hL' hc hc' hnil hnil' h0
end Go.Proofs.Ytaegkhdkhgemmaa

namespace Go.Proofs.Ytaegkhdkhgemmaa
open Go.RowKit Num
theorem make35 (n : Nat) (h : n ≤ 1000000000000) (w : World) : (Instr.makeSlice 35 (.int .i64 (n : Int)) (.int .i64 (n : Int))).run Try.prog w = .ok (.slice (some ⟨w.heap.size, 0, none⟩) n n) (w.alloc (.cells (madeCells #[.int .u32 0] n) 56)) :=
  run_make_row' 35 56 (.int .u32 0) 4 Try.underlying35 info56 rfl .i64 .i64 n (by omega) (by omega) w
/-- One step: a product, a digit and a carry that stay below 2^64, and the two halves of their sum: as the walk shows them. -/
theorem mac_ex (m x o c : Nat) (hm : m < B32) (hx : x < B32) (ho : o < B32) (hc : c < B32) : ∃ p s1 s lo hi : Nat,
    IntKind.u64.wrap ((m : Int) * (x : Int)) = (p : Int) ∧ IntKind.u64.wrap ((p : Int) + (o : Int)) = (s1 : Int) ∧ IntKind.u64.wrap ((s1 : Int) + (c : Int)) = (s : Int) ∧ (s : Int) % 4294967296 = (lo : Int) ∧ (s : Int) / 4294967296 = (hi : Int) ∧
    IntKind.u32.wrap (lo : Int) = (lo : Int) ∧ (lo : Int) % 4294967296 = (lo : Int) ∧ IntKind.u64.wrap (hi : Int) = (hi : Int) ∧ IntKind.u32.wrap (hi : Int) = (hi : Int) ∧ (hi : Int) % 4294967296 = (hi : Int) ∧ (s : Int).tmod 4294967296 = (lo : Int) ∧ (s : Int).tdiv 4294967296 = (hi : Int) ∧
    IntKind.u64.wrap (m : Int) = (m : Int) ∧ IntKind.u64.wrap (x : Int) = (x : Int) ∧ IntKind.u64.wrap (o : Int) = (o : Int) ∧ lo + B32 * hi = o + x * m + c ∧ lo < B32 ∧ hi < B32 := by
  have hb := word_bound (b := B32) ho hx hm hc (lo := (o + x * m + c) % 4294967296) (hi := (o + x * m + c) / 4294967296) (by unfold B32; omega)
  unfold B32 at *
  have hp : x * m < 4294967296 * 4294967296 := Nat.mul_lt_mul_of_lt_of_lt hx hm
  have hmx : (m : Int) * (x : Int) = ((x * m : Nat) : Int) := by push_cast; exact Int.mul_comm _ _
  generalize x * m = p at *
  refine ⟨p, p + o, p + o + c, (o + p + c) % 4294967296, (o + p + c) / 4294967296, ?_, ?_, ?_, by omega, by omega, ?_, by omega, ?_, ?_, by omega, ?_, ?_, ?_, ?_, ?_, by omega, by omega, by omega⟩
  · rw [IntKind.wrap_u64, hmx]; omega
  · rw [IntKind.wrap_u64]; omega
  · rw [IntKind.wrap_u64]; omega
  · rw [IntKind.wrap_u32']; omega
  · rw [IntKind.wrap_u64]; omega
  · rw [IntKind.wrap_u32']; omega
  · rw [Int.tmod_eq_emod_of_nonneg (by omega)]; omega
  · rw [Int.tdiv_eq_ediv_of_nonneg (by omega)]; omega
  · rw [IntKind.wrap_u64]; omega
  · rw [IntKind.wrap_u64]; omega
  · rw [IntKind.wrap_u64]; omega
set_option maxHeartbeats 2000000 in
set_option maxRecDepth 100000 in
theorem refMul_any (A A' : Option Addr) (c c' L L' : Nat) (xs ys : List Nat) (w : World) (hA : Nums .u32 w A xs) (hA' : Nums .u32 w A' ys) (hx : Low B32 xs) (hy : Low B32 ys) (hL : L = xs.length) (hL' : L' = ys.length)
    (hl : L ≤ 1000000) (hl' : L' ≤ 1000000) : Calls Try.prog 46 #[.slice A L c, .slice A' L' c'] w (LsPost w (dig B32 (val B32 xs * val B32 ys))) := by
  have hmk := make35 (L + L' + 1) (by omega)
  push_cast at hmk
  have hr0 := Row.made w .u32 (L + L' + 1) 56
  have hbA : Below w.heap.size w (w.alloc (.cells (madeCells #[.int .u32 0] (L + L' + 1)) 56)) := (Below.refl _ _).alloc (Nat.le_refl _) _
  have hst0 := MulSt.start b32_two ys (xs ++ [0])
  rw [List.length_append, List.length_singleton, ← hL, ← hL', show L' + (L + 1) = L + L' + 1 by omega] at hst0
  have HR0 := Lib.hid hr0
  have HL := Lib.hid hL
  have HL' := Lib.hid hL'
  clear hL hL' hr0
  go_enter Try.func46, Try.ntmps46
  go_wp2
  go_loopw [6] (fun t wr => ∃ (i : Nat) (zs : List Nat), i ≤ L ∧ t = .int .i64 (i : Int) ∧ MulSt B32 ys (xs ++ [0]) i zs ∧ Row .u32 56 wr w.heap.size zs ∧ Below w.heap.size w wr) (fun t _ => L - (intOf t).toNat)
  case atStart => exact ⟨0, _, Nat.zero_le _, rfl, hst0, HR0.out, hbA⟩
  case round =>
    clear hst0 HR0 hbA hmk
    obtain ⟨i, zs, hi, rfl, hst, hrow, hbl⟩ := hrel
    have hlen := hst.len
    rw [List.length_append, List.length_singleton, ← HL.out, ← HL'.out] at hlen
    have HLEN := Lib.hid hlen
    clear hlen
    by_cases hlt : i < L
    · obtain ⟨q, qo, v, rfl, hq, hv, hcv⟩ := (hA.keep hbl).at_ (i := i) (by have := HL.out; omega)
      have hvl : v < B32 := hx v (List.mem_of_getElem? hv)
      have HV := Lib.hid hv
      clear hv
      go_wp2_with (fail)
      go_loopw [7, 8] (fun q t wr2 => ∃ (k cy : Nat) (zs' : List Nat), k ≤ L' ∧ q = .int .u64 (cy : Int) ∧ t = .int .i64 (k : Int) ∧ ScaleSt B32 zs ys v i k zs' cy ∧ Row .u32 56 wr2 w.heap.size zs' ∧ Below w.heap.size w wr2) (fun _ t _ => L' - (intOf t).toNat)
      case atStart => exact ⟨0, 0, zs, Nat.zero_le _, rfl, rfl, ScaleSt.start b32_two hst.low, hrow, hbl⟩
      case round =>
        obtain ⟨k, cy, zs', hk, rfl, rfl, hsc, hrow2, hbl2⟩ := hrel
        by_cases hlk : k < L'
        · obtain ⟨q2, qo2, x, rfl, hq2, hxv, hcx⟩ := (hA'.keep hbl2).at_ (i := k) (by have := HL'.out; omega)
          have hxl : x < B32 := hy x (List.mem_of_getElem? hxv)
          obtain ⟨g', off', v', e', hq', hv', hcv'⟩ := (hA.keep hbl2).at_ (i := i) (by have := HL.out; omega)
          injection e' with e'
          injection e' with e1 e2
          subst e1 e2
          rw [HV.out] at hv'
          injection hv' with hv'
          subst hv'
          have hzl : i + k < zs'.length := by have h1 := hsc.len; have h2 := HLEN.out; omega
          obtain ⟨o, ho⟩ : ∃ o, zs'[i + k]? = some o := ⟨zs'[i + k], List.getElem?_eq_getElem _⟩
          have hol : o < B32 := hsc.low o (List.mem_of_getElem? ho)
          have hco := hrow2.cell ho
          have hfo := hrow2.frozen (i + k)
          obtain ⟨p, s1, s, lo, hi', w1, w2, w3, w4, w5, w6, w7, w8, w9, wa, wb, wc, wd, we, wf, hs, hlo, hhi⟩ := mac_ex v x o cy hvl hxl hol hsc.le
          have hstep := hsc.step ho hxv hs hlo hhi
          have HST := Lib.hid hstep
          clear hstep hs hlo hhi ho hxv hol hxl hsc hcv
          go_wp2_with (fail)
          go_quiet (fail)
          go_wp2
          go_roundw
          case rel => exact ⟨k + 1, hi', zs'.set (i + k) lo, by omega, rfl, by go_num, HST.out, (Row.of_block hrow2 (by rfl)).set (i + k) lo, below_set (below_drewN hbl2 _) (Nat.le_refl _) _⟩
          case measure => simp [intOf]; omega
        · have hkL : k = L' := by omega
          subst hkL
          have hzl : i + k < zs'.length := by have h1 := hsc.len; have h2 := HLEN.out; omega
          have hcy : IntKind.u32.wrap (cy : Int) = (cy : Int) := by have := hsc.le; unfold B32 at this; rw [IntKind.wrap_u32']; omega
          have hcy2 : (cy : Int) % 4294967296 = (cy : Int) := by have := hsc.le; unfold B32 at this; omega
          have hik : i + k < L + k + 1 := by omega
          obtain ⟨o, ho⟩ : ∃ o, zs'[i + k]? = some o := ⟨zs'[i + k], List.getElem?_eq_getElem _⟩
          have hco := hrow2.cell ho
          have hfo := hrow2.frozen (i + k)
          have HSC := Lib.hid hsc
          clear hsc ho
          go_wp2
          go_roundw
          case rel =>
            refine ⟨i + 1, zs'.set (i + k) cy, by omega, by go_num, ?_, hrow2.set (i + k) cy, below_set hbl2 (Nat.le_refl _) _⟩
            have := hst.step (by rw [List.length_append]; have := HL.out; omega) (by rw [List.getElem?_append_left (by have := HL.out; omega)]; exact HV.out) (by rw [← HL'.out]; exact HSC.out)
            rw [← HL'.out, Nat.add_comm k i] at this
            exact this
          case measure => simp [intOf]; omega
    · have hiL : i = L := by omega
      subst hiL
      have hv := hst.eq
      rw [HL.out, List.take_left, Nat.mul_comm] at hv
      have hn := hrow.nums0 zs.length
      rw [List.take_length] at hn
      have hzl : zs.length = i + L' + 1 := by have := HLEN.out; omega
      have htr := refTrim_l (.slice (some ⟨w.heap.size, 0, none⟩) (i + L' + 1) (i + L' + 1)) zs wr ⟨_, _, by rw [hzl], by omega, by omega, hn⟩ hst.low (by omega)
      rw [hv] at htr
      have HT := Lib.hid htr
      clear htr hv hn hzl hst hx hy hA hA'
      go_wp2_with (go_at_call 80; refine HT.out.mono ?_; rintro e w9 ⟨v9, rfl, hv9, hb9⟩)
      go_ret
      exact ⟨_, rfl, hv9.mono hbl.size, below_at hbl (Nat.le_refl _) hb9⟩
end Go.Proofs.Ytaegkhdkhgemmaa

namespace Go.Proofs.Ytaegkhdkhgemmaa
open Go.RowKit Num

theorem prod_len {m n K J : Nat} (hm : (dig B32 m).length ≤ K) (hn : (dig B32 n).length ≤ J) : (dig B32 (m * n)).length ≤ K + J := by
  have h1 := Nat.lt_of_lt_of_le (dig_len_lt b32_two (n := m)) (Nat.pow_le_pow_right b32_pos hm)
  have h2 := Nat.lt_of_lt_of_le (dig_len_lt b32_two (n := n)) (Nat.pow_le_pow_right b32_pos hn)
  refine dig_len_le b32_two ?_
  rw [Nat.pow_add]
  exact Nat.mul_lt_mul_of_lt_of_lt h1 h2
theorem refMul_call (a b : Value) (m n : Nat) (w : World) (ha : N32 w a m) (hb : N32 w b n) (hm : (dig B32 m).length ≤ 1000) (hn : (dig B32 n).length ≤ 1000) : Calls Try.prog 46 #[a, b] w (LsPost w (dig B32 (m * n))) := by
  obtain ⟨A, c, rfl, _, hA⟩ := ha
  obtain ⟨A', c', rfl, _, hB⟩ := hb
  have := refMul_any A A' c c' _ _ _ _ w hA hB (low_dig b32_two m) (low_dig b32_two n) rfl rfl (by omega) (by omega)
  rw [val_dig b32_two, val_dig b32_two] at this
  exact this

set_option maxHeartbeats 2000000 in
set_option maxRecDepth 100000 in
theorem muls_bad (A A' : Option Addr) (c c' L L' : Nat) (xs ys : List Nat) (w : World) (hA : Nums .u32 w A xs) (hA' : Nums .u32 w A' ys) (hL : L = xs.length) (hL' : L' = ys.length) (hc : L ≤ c) (hc' : L' ≤ c') (hnil : A = none → c = 0) (hnil' : A' = none → c' = 0)
    (hbad : chk2 (xs.take 160) (ys.take 160) ≠ 0) : Calls Try.prog 5 #[.slice A L c, .slice A' L' c'] w (LivesPost w) := by
  have hcut := fun w' (h : Below w.heap.size w w') => cut_any A c L 160 xs w' (hA.keep h) hL hc hnil (by omega)
  have hcut' := fun w' (h : Below w.heap.size w w') => cut_any A' c' L' 160 ys w' (hA'.keep h) hL' hc' hnil' (by omega)
  have l1 : (xs.take 160).length ≤ 160 := by rw [List.length_take]; omega
  have l2 : (ys.take 160).length ≤ 160 := by rw [List.length_take]; omega
  generalize xs.take 160 = us at *
  generalize ys.take 160 = vs at *
  have hlu : ∀ B w' a, OwnLs B w' a us → Limbs w' a us := fun B w' a h => h.limbs (by omega)
  have hlv : ∀ B w' a, OwnLs B w' a vs → Limbs w' a vs := fun B w' a h => h.limbs (by omega)
  have h45 := fun a b w h k => mul_bad a b us vs w h k hbad
  have h40 := fun a b w h k => both_any a b us vs w h k
  generalize chk2 us vs = r at *
  have hq : (r != 0) = true := by simp [hbad]
  have hq0 : (r == r) = true := by simp
  have h41 := fun b w => is_err b r w hbad
  have HC := Lib.hid hcut
  have HC' := Lib.hid hcut'
  have HLU := Lib.hid hlu
  have HLV := Lib.hid hlv
  have H45 := Lib.hid h45
  have H40 := Lib.hid h40
  have H41 := Lib.hid h41
  have HB := Lib.hid hbad
  clear hcut hcut' hlu hlv h45 h40 h41 hbad hA hA' hL hL' hnil hnil' l1 l2
  go_enter Try.func5, Try.ntmps5
  go_wp2_with (fail)
  refine (HC.out _ (Below.refl _ _)).mono ?_
  rintro e w1 ⟨va, rfl, hva, hb1⟩
  have ka := HLU.out _ _ _ hva
  go_wp2_with (fail)
  refine (HC'.out _ hb1).mono ?_
  rintro e w2 ⟨vb, rfl, hvb, hb2⟩
  have kb := HLV.out _ _ _ hvb
  have b2 := below_at hb1 (Nat.le_refl _) hb2
  have ka2 := ka.keep hb2
  go_wp2_with (first
    | (go_at_call 45; refine (H45.out _ _ _ ka2 kb).mono ?_; rintro e w3 ⟨rfl, hb3⟩
       have b3 := below_at b2 (Nat.le_refl _) hb3
       have ka3 := ka2.keep hb3
       have kb3 := kb.keep hb3)
    | (go_at_call 40; refine (H40.out _ _ _ ka3 kb3).mono ?_; rintro e w6 ⟨rfl, rfl⟩))
  refine (H41.out _ _).mono ?_
  rintro e w8 ⟨rfl, hb8⟩
  have b8 := below_at b3 (Nat.le_refl _) hb8
  go_wp2_with (fail)
  refine (lives_any _).mono ?_
  rintro e w9 ⟨rfl, hb9⟩
  have b9 := below_at b8 (Nat.le_refl _) hb9
  go_wp2
  go_ret
  exact ⟨rfl, b9⟩

set_option maxHeartbeats 2000000 in
set_option maxRecDepth 100000 in
theorem muls_ok (A A' : Option Addr) (c c' L L' m n : Nat) (xs ys : List Nat) (w : World) (hA : Nums .u32 w A xs) (hA' : Nums .u32 w A' ys) (hL : L = xs.length) (hL' : L' = ys.length) (hc : L ≤ c) (hc' : L' ≤ c') (hnil : A = none → c = 0) (hnil' : A' = none → c' = 0)
    (hm : xs.take 160 = dig B32 m) (hn : ys.take 160 = dig B32 n) : Calls Try.prog 5 #[.slice A L c, .slice A' L' c'] w (LivesPost w) := by
  have hcut := fun w' (h : Below w.heap.size w w') => cut_any A c L 160 xs w' (hA.keep h) hL hc hnil (by omega)
  have hcut' := fun w' (h : Below w.heap.size w w') => cut_any A' c' L' 160 ys w' (hA'.keep h) hL' hc' hnil' (by omega)
  have l1 : (xs.take 160).length ≤ 160 := by rw [List.length_take]; omega
  have l2 : (ys.take 160).length ≤ 160 := by rw [List.length_take]; omega
  rw [hm] at hcut l1
  rw [hn] at hcut' l2
  have ls : (dig B32 (m * n)).length ≤ 320 := prod_len l1 l2
  have hp : nbits (m * n) ≤ 8388608 := Nat.le_trans (bits_of_len ls) (by omega)
  have w1 := words_le (n := m) (K := 500) (by omega)
  have w2 := words_le (n := n) (K := 500) (by omega)
  have hat : MulAt m n := mulAt_all (by omega) (by omega)
  have hlu : ∀ B w' a, OwnLs B w' a (dig B32 m) → Limbs w' a (dig B32 m) := fun B w' a h => h.limbs (by omega)
  have hlv : ∀ B w' a, OwnLs B w' a (dig B32 n) → Limbs w' a (dig B32 n) := fun B w' a h => h.limbs (by omega)
  have h45 := fun a b w (h : Limbs w a (dig B32 m)) (k : Limbs w b (dig B32 n)) => mul_at (N := 500) a b m n w hat (by omega) h.is k.is (by omega) (by omega) (by omega) (by omega) hp
  have h40 := fun a b w h k => both_any a b (dig B32 m) (dig B32 n) w h k
  have h46 := fun a b w (h : Limbs w a (dig B32 m)) (k : Limbs w b (dig B32 n)) => refMul_call a b m n w h.is k.is (by omega) (by omega)
  have h41b : ∀ B a b w, N32 w a (m * n) → OwnLs B w b (dig B32 (m * n)) → Calls Try.prog 41 #[a, .int .i64 0, b, .int .i64 0] w (LivesPost w) := fun B a b w h k => is_ok a b (m * n) w h (k.limbs (by omega)) (by omega)
  rw [chk2, if_pos (chk_dig (by omega)), chk_dig (by omega)] at h40
  have HC := Lib.hid hcut
  have HC' := Lib.hid hcut'
  have HLU := Lib.hid hlu
  have HLV := Lib.hid hlv
  have H45 := Lib.hid h45
  have H40 := Lib.hid h40
  have H41 := Lib.hid h41b
  have H46 := Lib.hid h46
  clear hcut hcut' hlu hlv h45 h40 h41b h46 hA hA' hL hL' hnil hnil' l1 l2 hp ls hm hn hat w1 w2
  go_enter Try.func5, Try.ntmps5
  go_wp2_with (fail)
  refine (HC.out _ (Below.refl _ _)).mono ?_
  rintro e w1 ⟨va, rfl, hva, hb1⟩
  have ka := HLU.out _ _ _ hva
  go_wp2_with (fail)
  refine (HC'.out _ hb1).mono ?_
  rintro e w2 ⟨vb, rfl, hvb, hb2⟩
  have kb := HLV.out _ _ _ hvb
  have b2 := below_at hb1 (Nat.le_refl _) hb2
  have ka2 := ka.keep hb2
  go_wp2_with (first
    | (go_at_call 45; refine (H45.out _ _ _ ka2 kb).mono ?_; rintro e w3 ⟨vs, rfl, hvs, hb3⟩
       have b3 := below_at b2 (Nat.le_refl _) hb3
       have ka3 := ka2.keep hb3
       have kb3 := kb.keep hb3)
    | (go_at_call 40; refine (H40.out _ _ _ ka3 kb3).mono ?_; rintro e w6 ⟨rfl, rfl⟩)
    | (go_at_call 46; refine (H46.out _ _ _ ka3 kb3).mono ?_; rintro e w9 ⟨v9, rfl, hv9, hb9⟩
       have b9 := below_at b3 (Nat.le_refl _) hb9
       have ks9 := hvs.is.keep hb9))
  refine (H41.out _ _ _ _ ks9 hv9).mono ?_
  rintro e w10 ⟨rfl, hb10⟩
  have b10 := below_at b9 (Nat.le_refl _) hb10
  go_wp2_with (fail)
  refine (lives_any _).mono ?_
  rintro e w11 ⟨rfl, hb11⟩
  have b11 := below_at b10 (Nat.le_refl _) hb11
  go_wp2
  go_ret
  exact ⟨rfl, b11⟩

/-- The law NatMuls, for whatever limbs. -/
theorem muls_walk (A A' : Option Addr) (c c' L L' : Nat) (xs ys : List Nat) (w : World) (hA : Nums .u32 w A xs) (hA' : Nums .u32 w A' ys) (hlow : Low B32 xs) (hlow' : Low B32 ys) (hL : L = xs.length) (hL' : L' = ys.length) (hc : L ≤ c) (hc' : L' ≤ c') (hnil : A = none → c = 0) (hnil' : A' = none → c' = 0) :
    Calls Try.prog 5 #[.slice A L c, .slice A' L' c'] w (LivesPost w) := by
  by_cases h0 : chk2 (xs.take 160) (ys.take 160) = 0
  · have h1 : chk (xs.take 160) = 0 ∧ chk (ys.take 160) = 0 := by
      unfold chk2 at h0
      split at h0
      · rename_i h; exact ⟨h, h0⟩
      · rename_i h; exact absurd h0 h
    have hm := chk_zero (hlow.take 160) h1.1
    have hn := chk_zero (hlow'.take 160) h1.2
    exact muls_ok A A' c c' L L' _ _ xs ys w hA hA' hL hL' hc hc' hnil hnil' hm hn
  · exact muls_bad A A' c c' L L' xs ys w hA hA' hL hL' hc hc' hnil hnil' h0
end Go.Proofs.Ytaegkhdkhgemmaa

namespace Go.Proofs.Ytaegkhdkhgemmaa
open Go.RowKit Num

/-- Division by a small number from the top down: the limbs from k on are done. -/
structure OverSt (xs zs : List Nat) (v k l : Nat) : Prop where
  len : zs.length = xs.length
  low : Low B32 zs
  lt : l < v
  eq : val B32 (xs.drop k) = v * val B32 (zs.drop k) + l
theorem OverSt.start (xs : List Nat) {v : Nat} (hv : 0 < v) : OverSt xs (List.replicate xs.length 0) v xs.length 0 :=
  ⟨by simp, Low.replicate b32_pos _, hv, by simp [val]⟩
theorem OverSt.step {xs zs : List Nat} {v k l x q r : Nat} (h : OverSt xs zs v (k + 1) l) (hx : xs[k]? = some x) (hs : l * B32 + x = v * q + r) (hq : q < B32) (hr : r < v) : OverSt xs (zs.set k q) v k r := by
  have hk : k < xs.length := (List.getElem?_eq_some_iff.1 hx).1
  have hxe : xs[k] = x := (List.getElem?_eq_some_iff.1 hx).2
  have hkz : k < (zs.set k q).length := by rw [List.length_set, h.len]; exact hk
  refine ⟨by rw [List.length_set]; exact h.len, h.low.set hq, hr, ?_⟩
  rw [List.drop_eq_getElem_cons hk, List.drop_eq_getElem_cons hkz, hxe, List.getElem_set_self, List.drop_set_of_lt (by omega)]
  simp only [val]
  rw [h.eq]
  grind
theorem OverSt.fin {xs zs : List Nat} {v l : Nat} (h : OverSt xs zs v 0 l) : val B32 zs = val B32 xs / v ∧ val B32 xs % v = l := by
  have e := h.eq
  simp only [List.drop_zero] at e
  have hl := h.lt
  rw [e, Nat.mul_add_div (by omega), Nat.div_eq_of_lt hl, Nat.mul_add_mod, Nat.mod_eq_of_lt hl]
  simp

theorem over_ex (l x v : Nat) (hl : l < v) (hx : x < B32) (hv : v < B32) : ∃ p s q r : Nat,
    IntKind.u64.wrap ((l : Int) * 4294967296) = (p : Int) ∧ IntKind.u64.wrap (x : Int) = (x : Int) ∧ IntKind.u64.wrap (v : Int) = (v : Int) ∧ IntKind.u64.wrap ((p : Int) + (x : Int)) = (s : Int) ∧
    (s : Int) / (v : Int) = (q : Int) ∧ (s : Int).tdiv (v : Int) = (q : Int) ∧ (s : Int) % (v : Int) = (r : Int) ∧ (s : Int).tmod (v : Int) = (r : Int) ∧
    IntKind.u64.wrap (q : Int) = (q : Int) ∧ IntKind.u64.wrap (r : Int) = (r : Int) ∧ IntKind.u32.wrap (q : Int) = (q : Int) ∧ (q : Int) % 4294967296 = (q : Int) ∧ IntKind.u32.wrap (r : Int) = (r : Int) ∧ (r : Int) % 4294967296 = (r : Int) ∧
    ((v : Int) == 0) = false ∧ l * B32 + x = v * q + r ∧ q < B32 ∧ r < v := by
  have hlt : l * B32 + x < v * B32 := by
    have : (l + 1) * B32 ≤ v * B32 := Nat.mul_le_mul_right _ hl
    rw [Nat.add_mul] at this
    omega
  have hle : v * B32 ≤ B32 * B32 := Nat.mul_le_mul_right _ (by omega)
  have hq : (l * B32 + x) / v < B32 := Nat.div_lt_of_lt_mul hlt
  have hr : (l * B32 + x) % v < v := Nat.mod_lt _ (by omega)
  have hd := Nat.div_add_mod (l * B32 + x) v
  obtain ⟨q, hqe⟩ : ∃ q, (l * B32 + x) / v = q := ⟨_, rfl⟩
  obtain ⟨r, hre⟩ : ∃ r, (l * B32 + x) % v = r := ⟨_, rfl⟩
  have c1 : ((l * B32 + x : Nat) : Int) / (v : Int) = (q : Int) := by rw [← hqe]; exact (Int.natCast_ediv _ _).symm
  have c2 : ((l * B32 + x : Nat) : Int) % (v : Int) = (r : Int) := by rw [← hre]; exact (Int.natCast_emod _ _).symm
  rw [hqe] at hq hd
  rw [hre] at hr hd
  have hpv : (l : Int) * 4294967296 = ((l * B32 : Nat) : Int) := by unfold B32; omega
  have hp : l * B32 + x < B32 * B32 := by omega
  clear hqe hre
  refine ⟨l * B32, l * B32 + x, q, r, ?_, ?_, ?_, ?_, c1, ?_, c2, ?_, ?_, ?_, ?_, ?_, ?_, ?_, ?_, hd.symm, hq, hr⟩
  · rw [IntKind.wrap_u64]; unfold B32 at *; omega
  · rw [IntKind.wrap_u64]; unfold B32 at *; omega
  · rw [IntKind.wrap_u64]; unfold B32 at *; omega
  · rw [IntKind.wrap_u64]; unfold B32 at *; omega
  · rw [Int.tdiv_eq_ediv_of_nonneg (by omega)]; exact c1
  · rw [Int.tmod_eq_emod_of_nonneg (by omega)]; exact c2
  all_goals clear c1 c2 hd hp hpv hle hlt
  · rw [IntKind.wrap_u64]; unfold B32 at *; omega
  · rw [IntKind.wrap_u64]; unfold B32 at *; omega
  · rw [IntKind.wrap_u32']; unfold B32 at *; omega
  · unfold B32 at *; omega
  · rw [IntKind.wrap_u32']; unfold B32 at *; omega
  · unfold B32 at *; omega
  · simp; omega

def OverPost (w : World) (ys : List Nat) (r : Nat) (e : Ending) (w' : World) : Prop := ∃ v, e = .returned (.tuple #[v, .int .u32 (r : Int)]) ∧ OwnLs w.heap.size w' v ys ∧ Below w.heap.size w w'

set_option maxHeartbeats 2000000 in
set_option maxRecDepth 100000 in
theorem refOver_any (A : Option Addr) (c L v : Nat) (xs : List Nat) (w : World) (hA : Nums .u32 w A xs) (hx : Low B32 xs) (hL : L = xs.length) (hl : L ≤ 1000000) (hv0 : 0 < v) (hv : v < B32) :
    Calls Try.prog 94 #[.slice A L c, .int .u32 (v : Int)] w (OverPost w (dig B32 (val B32 xs / v)) (val B32 xs % v)) := by
  have hmk := make35 L (by omega) w
  have hr0 := Row.made w .u32 L 56
  have hbA : Below w.heap.size w (w.alloc (.cells (madeCells #[.int .u32 0] L) 56)) := (Below.refl _ _).alloc (Nat.le_refl _) _
  have hst0 := OverSt.start xs hv0
  rw [← hL] at hst0
  have HL := Lib.hid hL
  have HR0 := Lib.hid hr0
  have HV := Lib.hid hv
  clear hL hr0 hv
  go_enter Try.func94, Try.ntmps94
  go_wp2
  go_loopw [7, 8] (fun q t wr => ∃ (k l : Nat) (zs : List Nat), k ≤ L ∧ t = .int .i64 ((k : Int) - 1) ∧ q = .int .u64 (l : Int) ∧ OverSt xs zs v k l ∧ Row .u32 56 wr w.heap.size zs ∧ Below w.heap.size w wr) (fun _ t _ => (intOf t + 1).toNat)
  case atStart => exact ⟨L, 0, _, Nat.le_refl _, rfl, rfl, hst0, HR0.out, hbA⟩
  case round =>
    clear hst0 HR0 hbA hmk
    obtain ⟨k, l, zs, hk, rfl, rfl, hst, hrow, hbl⟩ := hrel
    have hlen := hst.len
    rw [← HL.out] at hlen
    have HLEN := Lib.hid hlen
    clear hlen
    by_cases h0 : k = 0
    · subst h0
      obtain ⟨f1, f2⟩ := hst.fin
      have hlt := hst.lt
      have hvv := HV.out
      have w1 : IntKind.u32.wrap (l : Int) = (l : Int) := by unfold B32 at hvv; rw [IntKind.wrap_u32']; omega
      have w2 : (l : Int) % 4294967296 = (l : Int) := by unfold B32 at hvv; omega
      have hn := hrow.nums0 zs.length
      rw [List.take_length] at hn
      have htr := refTrim_l (.slice (some ⟨w.heap.size, 0, none⟩) L L) zs wr ⟨_, _, by rw [HLEN.out], by have := HLEN.out; omega, by have := HLEN.out; omega, hn⟩ hst.low (by have := HLEN.out; omega)
      rw [f1] at htr
      have HT := Lib.hid htr
      have F2 := Lib.hid f2
      clear htr f1 f2 hn hst hx hA hvv
      go_wp2_with (go_at_call 80; refine HT.out.mono ?_; rintro e w9 ⟨v9, rfl, hv9, hb9⟩)
      go_ret2
      rw [F2.out]
      exact ⟨_, rfl, hv9.mono hbl.size, below_at hbl (Nat.le_refl _) hb9⟩
    · obtain ⟨j, rfl⟩ : ∃ j, k = j + 1 := ⟨k - 1, by omega⟩
      obtain ⟨g, off, x, rfl, hg, hxv, hcx⟩ := (hA.keep hbl).at_ (i := j) (by have := HL.out; omega)
      have hxl : x < B32 := hx x (List.mem_of_getElem? hxv)
      obtain ⟨p, s, q, r, w1, w2, w3, w4, w5, w6, w7, w8, w9, wa, wb, wc, wd, we, wf, hs, hq, hr⟩ := over_ex l x v hst.lt hxl HV.out
      have hst' := hst.step hxv hs hq hr
      obtain ⟨o, ho⟩ : ∃ o, zs[j]? = some o := ⟨zs[j]'(by have := HLEN.out; omega), List.getElem?_eq_getElem _⟩
      have hco := hrow.cell ho
      have hfo := hrow.frozen j
      have HST := Lib.hid hst'
      have HX := Lib.hid hxv
      have HO := Lib.hid ho
      clear hst' hxv ho hxl hs hq hr hst hA hx
      go_wp2
      go_roundw
      case rel => exact ⟨j, r, _, by omega, by first | rfl | go_num, rfl, HST.out, hrow.set j q, below_set hbl (Nat.le_refl _) _⟩
      case measure => simp [intOf]
end Go.Proofs.Ytaegkhdkhgemmaa

namespace Go.Proofs.Ytaegkhdkhgemmaa
open Go.RowKit Num

set_option maxHeartbeats 1000000 in
set_option maxRecDepth 100000 in
theorem times_any (a : Value) (m v : Nat) (w : World) (ha : N32 w a m) (hm : (dig B32 m).length ≤ 1000) (hv : v < B32) : Calls Try.prog 89 #[a, .int .u32 (v : Int)] w (LsPost w (dig B32 (m * v))) := by
  have hv64 : v < B64 := by unfold B32 at hv; unfold B64; omega
  have hof := refOf_any v hv64 w
  have w1 : IntKind.u64.wrap (v : Int) = (v : Int) := by unfold B32 at hv; rw [IntKind.wrap_u64]; omega
  have hl2 := len_u64 hv64
  have hmul := fun b w' (h : Below w.heap.size w w') (k : OwnLs w.heap.size w' b (dig B32 v)) => refMul_call a b m v w' (ha.keep h) (k.limbs (by omega)).is (by omega) (by omega)
  have HOF := Lib.hid hof
  have HM := Lib.hid hmul
  clear hof hmul hv hv64 ha hl2
  go_enter Try.func89, Try.ntmps89
  go_wp2_with (first
    | (go_at_call 34; refine HOF.out.mono ?_; rintro e w2 ⟨v2, rfl, hv2, hb2⟩)
    | (go_at_call 46; refine (HM.out _ _ hb2 hv2).mono ?_; rintro e w3 ⟨v3, rfl, hv3, hb3⟩))
  go_ret
  exact ⟨_, rfl, hv3.mono hb2.size, below_at hb2 (Nat.le_refl _) hb3⟩

theorem zeros_snoc (k : Nat) : ints .u32 (List.replicate k 0) ++ [.int .u32 0] = ints .u32 (List.replicate (k + 1) 0) := by
  rw [List.replicate_succ']; simp [ints]
theorem take_snoc_ints {xs : List Nat} {k v : Nat} (zs : List Nat) (h : xs[k]? = some v) : ints .u32 (zs ++ xs.take k) ++ [.int .u32 (v : Int)] = ints .u32 (zs ++ xs.take (k + 1)) := by
  obtain ⟨hk, he⟩ := List.getElem?_eq_some_iff.1 h
  rw [List.take_succ_eq_append_getElem hk, he]; simp [ints]
theorem two_pow_32 {k : Nat} (h : k < 32) : 2 ^ k < B32 := by
  have := Nat.pow_lt_pow_right (a := 2) (by omega) h
  unfold B32; simpa using this
theorem dbl_ex (k : Nat) (h : k + 1 < 32) : ∃ p q : Nat, 2 ^ k = p ∧ 2 ^ (k + 1) = q ∧ IntKind.u32.wrap ((p : Int) * 2) = (q : Int) ∧ ((p : Int) * 2) % 4294967296 = (q : Int) := by
  have h1 := two_pow_32 h
  have h2 : 2 ^ (k + 1) = 2 ^ k * 2 := Nat.pow_succ _ _
  refine ⟨_, _, rfl, rfl, ?_, ?_⟩
  · unfold B32 at h1; rw [IntKind.wrap_u32', h2]; omega
  · unfold B32 at h1; rw [h2]; omega

theorem ownLs_of {B n : Nat} {w : World} {v : Value} {zs : List Nat} (h : w.ownsRow B 56 1 v n (ints .u32 zs)) (hn : zs.length = n) : OwnLs B w v zs := by
  subst hn; exact h

def PowIs (p k : Nat) : Prop := p = 2 ^ k
theorem powIs_step {p k : Nat} (h : PowIs p k) (hk : k + 1 < 32) : ∃ q : Nat, PowIs q (k + 1) ∧ IntKind.u32.wrap ((p : Int) * 2) = (q : Int) ∧ ((p : Int) * 2) % 4294967296 = (q : Int) := by
  obtain ⟨p', q, e1, e2, e3, e4⟩ := dbl_ex k hk
  obtain rfl : p = p' := h.trans e1
  exact ⟨q, e2.symm, e3, e4⟩

set_option maxHeartbeats 4000000 in
set_option maxRecDepth 100000 in
theorem left_any (a : Value) (m n : Nat) (w : World) (ha : N32 w a m) (hm : (dig B32 m).length ≤ 500) (hn : n ≤ 10000) : Calls Try.prog 50 #[a, .int .i64 (n : Int)] w (LsPost w (dig B32 (m * 2 ^ n))) := by
  obtain ⟨wh, s, hs, rfl⟩ : ∃ wh s, s < 32 ∧ n = 32 * wh + s := ⟨n / 32, n % 32, Nat.mod_lt _ (by omega), by omega⟩
  have e1 : ((32 * wh + s : Nat) : Int) / 32 = (wh : Int) := by omega
  have e2 : ((32 * wh + s : Nat) : Int) % 32 = (s : Int) := by omega
  have e3 : ((32 * wh + s : Nat) : Int).tdiv 32 = (wh : Int) := by rw [Int.tdiv_eq_ediv_of_nonneg (by omega)]; exact e1
  have e4 : ((32 * wh + s : Nat) : Int).tmod 32 = (s : Int) := by rw [Int.tmod_eq_emod_of_nonneg (by omega)]; exact e2
  have hwh : wh ≤ 400 := by omega
  generalize hF : ((32 * wh + s : Nat) : Int) = F at *
  have hF0 : 0 ≤ F := by omega
  have hF1 : F ≤ 10000 := by omega
  clear hF hn
  have hfin : m * 2 ^ (32 * wh + s) = val B32 (List.replicate wh 0 ++ dig B32 m) * 2 ^ s := by
    have h32 : B32 ^ wh = 2 ^ (32 * wh) := by rw [Nat.pow_mul]; rfl
    rw [val_append, val_replicate, val_dig b32_two, List.length_replicate, Nat.pow_add, h32, Nat.zero_add, Nat.mul_comm (2 ^ (32 * wh)) m, Nat.mul_assoc]
  obtain ⟨A, c, rfl, _, hA⟩ := ha
  have hlow := low_dig b32_two m
  obtain ⟨xs, hxs⟩ : ∃ xs, dig B32 m = xs := ⟨_, rfl⟩
  rw [hxs] at hlow hfin hm hA ⊢
  obtain ⟨L, hL⟩ : ∃ L, xs.length = L := ⟨_, rfl⟩
  rw [hL] at hm ⊢
  obtain ⟨i0, hi, hz0, hz1, hz2⟩ := info_parts info56
  have ho := own_empty w 56
  have hbA := below_new w (.cells #[] 56)
  have hlowz : Low B32 (List.replicate wh 0 ++ xs) := (Low.replicate b32_pos _).append hlow
  have hlz : (List.replicate wh 0 ++ xs).length = wh + L := by simp [hL]
  have htr := fun (w' : World) a (k : OwnLs w.heap.size w' a (List.replicate wh 0 ++ xs)) => refTrim_l a _ w' (k.limbs (by omega)) hlowz (by omega)
  have htl : (dig B32 (val B32 (List.replicate wh 0 ++ xs))).length ≤ 1000 := Nat.le_trans (trim_le b32_two hlowz) (by omega)
  have htm := fun (w' w'' : World) a (k : OwnLs w'.heap.size w'' a (dig B32 (val B32 (List.replicate wh 0 ++ xs)))) => times_any a _ (2 ^ s) w'' (k.limbs (by omega)).is htl (two_pow_32 hs)
  rw [hfin]
  generalize hV : val B32 (List.replicate wh 0 ++ xs) = V at *
  have HO := Lib.hid ho
  have HL := Lib.hid hL
  have HTR := Lib.hid htr
  have HTM := Lib.hid htm
  clear ho hL htr htm hxs hV hfin hlowz htl hlz hlow
  go_enter Try.func50, Try.ntmps50
  go_wp2
  go_loopw [5, 6] (fun out t wr => ∃ k : Nat, k ≤ wh ∧ t = .int .i64 (k : Int) ∧ wr.ownsRow w.heap.size 56 1 out k (ints .u32 (List.replicate k 0)) ∧ Below w.heap.size w wr) (fun _ t _ => wh - (intOf t).toNat)
  case atStart => exact ⟨0, Nat.zero_le _, rfl, HO.out, hbA⟩
  case round =>
    clear hbA HO
    obtain ⟨k, hk, rfl, hown, hbl⟩ := hrel
    by_cases hlt : k < wh
    · have hzs := zeros_snoc k
      have HZ := Lib.hid hzs
      clear hzs hA
      go_wp2_with (at_builtin
                   refine wpList_append_own _ rfl _ _ 35 rfl w.heap.size 56 i0 (.int .u32 0) 1 4 Try.underlying35 hi hz0 hz1 hz2 rfl (by decide) _ (k) _ rfl (hown.alloc _) ⟨wr.heap.size, 0, none⟩ 1 1 [.int .u32 0] rfl rfl (cell_one_new _ _ _) (ints_one .u32 [0]) ?c4 ?c5 (Nat.le_trans hbl.size (by simp)) ?_)
      case c4 => unfold maxLen; omega
      case c5 => omega
      intro v' w8 hown1 hgr1 _
      have hb1 : Below w.heap.size w w8 := (hbl.alloc hbl.size _).grown hgr1 (Nat.le_trans hbl.size (by simp)) (fun g' hg' => by
        rcases hown.2 with ⟨rfl, _⟩ | ⟨g2, cap, cur, rfl, hg2, _⟩
        · simp [Value.ownBlock] at hg'
        · simp [Value.ownBlock] at hg'; omega)
      rw [HZ.out] at hown1
      have H1 := Lib.hid hown1
      clear hown1 hown
      go_wp2
      go_roundw
      case rel => exact ⟨k + 1, by omega, by go_num, H1.out, hb1⟩
      case measure => simp [intOf]; omega
    · obtain rfl : k = wh := by omega
      clear hlt
      have H0 := Lib.hid hown
      clear hown
      go_wp2
      go_loopw [5, 7] (fun out t wr => ∃ j : Nat, j ≤ L ∧ t = .int .i64 (j : Int) ∧ wr.ownsRow w.heap.size 56 1 out (k + j) (ints .u32 (List.replicate k 0 ++ xs.take j)) ∧ Below w.heap.size w wr) (fun _ t _ => L - (intOf t).toNat)
      case atStart => exact ⟨0, Nat.zero_le _, rfl, by simpa using H0.out, hbl⟩
      case round =>
        clear H0 hbl
        obtain ⟨j, hj, rfl, hown, hbl⟩ := hrel
        by_cases hlt : j < L
        · obtain ⟨g, off, x, rfl, hg, hxv, hcx⟩ := (hA.keep hbl).at_ (i := j) (by have := HL.out; omega)
          have hts := take_snoc_ints (List.replicate k 0) hxv
          have HT := Lib.hid hts
          clear hts hxv
          go_wp2_with (at_builtin
                       refine wpList_append_own _ rfl _ _ 35 rfl w.heap.size 56 i0 (.int .u32 0) 1 4 Try.underlying35 hi hz0 hz1 hz2 rfl (by decide) _ (k + j) _ rfl (hown.alloc _) ⟨wr.heap.size, 0, none⟩ 1 1 [.int .u32 (x : Int)] rfl rfl (cell_one_new _ _ _) (ints_one .u32 [x]) ?c4 ?c5 (Nat.le_trans hbl.size (by simp)) ?_)
          case c4 => unfold maxLen; omega
          case c5 => omega
          intro v' w8 hown1 hgr1 _
          have hb1 : Below w.heap.size w w8 := (hbl.alloc hbl.size _).grown hgr1 (Nat.le_trans hbl.size (by simp)) (fun g' hg' => by
            rcases hown.2 with ⟨rfl, _⟩ | ⟨g2, cap, cur, rfl, hg2, _⟩
            · simp [Value.ownBlock] at hg'
            · simp [Value.ownBlock] at hg'; omega)
          rw [HT.out] at hown1
          have H1 := Lib.hid hown1
          clear hown1 hown
          go_wp2
          go_roundw
          case rel => exact ⟨j + 1, by omega, by go_num, H1.out, hb1⟩
          case measure => simp [intOf]; omega
        · obtain rfl : j = L := by omega
          clear hlt
          rw [List.take_of_length_le (by have := HL.out; omega)] at hown
          have hls := ownLs_of (zs := List.replicate k 0 ++ xs) hown (by simp [HL.out])
          have HOWN := Lib.hid hls
          clear hown hls hA
          go_wp2
          go_loop [8, 9] (fun q t => ∃ i p : Nat, i ≤ s ∧ t = .int .i64 (i : Int) ∧ q = .int .u32 (p : Int) ∧ PowIs p i) (fun _ t => s - (intOf t).toNat)
          case atStart => exact ⟨0, 1, Nat.zero_le _, rfl, rfl, rfl⟩
          case round =>
            obtain ⟨i, p, hi', rfl, rfl, hp⟩ := hrel
            by_cases hlt : i < s
            · obtain ⟨q, hq, w1, w2⟩ := powIs_step hp (by omega)
              have HQ := Lib.hid hq
              clear hq hp
              go_wp2
              go_round
              case rel => exact ⟨i + 1, q, by omega, by go_num, rfl, HQ.out⟩
              case measure => simp [intOf]; omega
            · obtain rfl : i = s := by omega
              clear hlt
              obtain rfl : p = 2 ^ i := hp
              have HTM' : ∀ (w' w'' : World) (a : Value), OwnLs w'.heap.size w'' a (dig B32 V) → Calls Try.prog 89 #[a, .int .u32 ((2 ^ i : Nat) : Int)] w'' (LsPost w'' (dig B32 (V * 2 ^ i))) := HTM.out
              generalize 2 ^ i = P at *
              have HTM2 := Lib.hid HTM'
              clear HTM' HTM
              go_wp2_with (first
                | (go_at_call 80; refine (HTR.out _ _ HOWN.out).mono ?_; rintro e w5 ⟨v5, rfl, hv5, hb5⟩)
                | (go_at_call 89; refine (HTM2.out _ _ _ hv5).mono ?_; rintro e w6 ⟨v6, rfl, hv6, hb6⟩))
              go_ret
              have b5 := below_at hbl (Nat.le_refl _) hb5
              exact ⟨_, rfl, hv6.mono b5.size, below_at b5 (Nat.le_refl _) hb6⟩

theorem right_val (m wh s : Nat) : m / 2 ^ (32 * wh + s) = val B32 ((dig B32 m).drop wh) / 2 ^ s := by
  have h32 : B32 ^ wh = 2 ^ (32 * wh) := by rw [Nat.pow_mul]; rfl
  have hv : val B32 ((dig B32 m).drop wh) = m / B32 ^ wh := by
    by_cases hl : wh ≤ (dig B32 m).length
    · have h1 := val_take_drop B32 (dig B32 m) wh hl
      rw [val_dig b32_two] at h1
      have h2 := val_lt B32 _ ((low_dig b32_two m).take wh)
      rw [List.length_take, Nat.min_eq_left hl] at h2
      rw [h1, Nat.add_mul_div_left _ _ (Nat.pow_pos b32_pos), Nat.div_eq_of_lt h2, Nat.zero_add, ← h1]
    · rw [List.drop_of_length_le (by omega)]
      have h1 := dig_len_lt b32_two (n := m)
      have h2 : B32 ^ (dig B32 m).length ≤ B32 ^ wh := Nat.pow_le_pow_right b32_pos (by omega)
      rw [Nat.div_eq_of_lt (by omega)]; rfl
  rw [hv, Nat.pow_add, h32, Nat.div_div_eq_div_mul]
theorem drop_snoc_ints {xs : List Nat} {wh k v : Nat} (h : xs[wh + k]? = some v) : ints .u32 ((xs.drop wh).take k) ++ [.int .u32 (v : Int)] = ints .u32 ((xs.drop wh).take (k + 1)) := by
  have h2 : (xs.drop wh)[k]? = some v := by rw [List.getElem?_drop]; exact h
  obtain ⟨hk, he⟩ := List.getElem?_eq_some_iff.1 h2
  rw [List.take_succ_eq_append_getElem hk, he]; simp [ints]

set_option maxHeartbeats 4000000 in
set_option maxRecDepth 100000 in
theorem right_any (a : Value) (m n : Nat) (w : World) (ha : N32 w a m) (hm : (dig B32 m).length ≤ 500) (hn : n ≤ 10000) : Calls Try.prog 51 #[a, .int .i64 (n : Int)] w (LsPost w (dig B32 (m / 2 ^ n))) := by
  obtain ⟨wh, s, hs, rfl⟩ : ∃ wh s, s < 32 ∧ n = 32 * wh + s := ⟨n / 32, n % 32, Nat.mod_lt _ (by omega), by omega⟩
  have e1 : ((32 * wh + s : Nat) : Int) / 32 = (wh : Int) := by omega
  have e2 : ((32 * wh + s : Nat) : Int) % 32 = (s : Int) := by omega
  have e3 : ((32 * wh + s : Nat) : Int).tdiv 32 = (wh : Int) := by rw [Int.tdiv_eq_ediv_of_nonneg (by omega)]; exact e1
  have e4 : ((32 * wh + s : Nat) : Int).tmod 32 = (s : Int) := by rw [Int.tmod_eq_emod_of_nonneg (by omega)]; exact e2
  have hwh : wh ≤ 400 := by omega
  have hfin := right_val m wh s
  generalize hF : ((32 * wh + s : Nat) : Int) = F at *
  have hF0 : 0 ≤ F := by omega
  have hF1 : F ≤ 10000 := by omega
  clear hF hn
  obtain ⟨A, c, rfl, _, hA⟩ := ha
  have hlow := low_dig b32_two m
  obtain ⟨xs, hxs⟩ : ∃ xs, dig B32 m = xs := ⟨_, rfl⟩
  rw [hxs] at hlow hfin hm hA ⊢
  obtain ⟨L, hL⟩ : ∃ L, xs.length = L := ⟨_, rfl⟩
  rw [hL] at hm ⊢
  obtain ⟨i0, hi, hz0, hz1, hz2⟩ := info_parts info56
  have ho := own_empty w 56
  have hbA := below_new w (.cells #[] 56)
  have hlowz : Low B32 (xs.drop wh) := hlow.drop wh
  have hlz : (xs.drop wh).length ≤ L := by simp [hL]
  have htr := fun (w' : World) a (k : OwnLs w.heap.size w' a (xs.drop wh)) => refTrim_l a _ w' (k.limbs (by omega)) hlowz (by omega)
  have htl : (dig B32 (val B32 (xs.drop wh))).length ≤ 1000 := Nat.le_trans (trim_le b32_two hlowz) (by omega)
  have htm : ∀ (w' w'' : World) (a : Value), OwnLs w'.heap.size w'' a (dig B32 (val B32 (xs.drop wh))) → Calls Try.prog 94 #[a, .int .u32 ((2 ^ s : Nat) : Int)] w'' (OverPost w'' (dig B32 (val B32 (xs.drop wh) / 2 ^ s)) (val B32 (xs.drop wh) % 2 ^ s)) := fun w' w'' a k => by
    obtain ⟨A', c', rfl, _, hA'⟩ := (k.limbs (by omega)).is
    have := refOver_any A' c' _ (2 ^ s) _ w'' hA' (low_dig b32_two _) rfl (by omega) (Nat.pow_pos (by omega)) (two_pow_32 hs)
    rw [val_dig b32_two] at this
    exact this
  rw [hfin]
  generalize hV : val B32 (xs.drop wh) = V at *
  have HO := Lib.hid ho
  have HL := Lib.hid hL
  have HTR := Lib.hid htr
  have HTM := Lib.hid htm
  clear ho hL htr htm hxs hV hfin hlowz htl hlz hlow
  go_enter Try.func51, Try.ntmps51
  go_wp2
  go_loopw [5, 6] (fun out t wr => ∃ k : Nat, (wh + k ≤ L ∨ k = 0) ∧ t = .int .i64 ((wh + k : Nat) : Int) ∧ wr.ownsRow w.heap.size 56 1 out k (ints .u32 ((xs.drop wh).take k)) ∧ Below w.heap.size w wr) (fun _ t _ => L - (intOf t).toNat)
  case atStart => exact ⟨0, .inr rfl, rfl, by simpa [ints] using HO.out, hbA⟩
  case round =>
    clear hbA HO
    obtain ⟨k, hk, rfl, hown, hbl⟩ := hrel
    by_cases hlt : wh + k < L
    · obtain ⟨g, off, x, rfl, hg, hxv, hcx⟩ := (hA.keep hbl).at_ (i := wh + k) (by have := HL.out; omega)
      have hts := drop_snoc_ints hxv
      have HT := Lib.hid hts
      clear hts hxv
      go_wp2_with (at_builtin
                   refine wpList_append_own _ rfl _ _ 35 rfl w.heap.size 56 i0 (.int .u32 0) 1 4 Try.underlying35 hi hz0 hz1 hz2 rfl (by decide) _ (k) _ rfl (hown.alloc _) ⟨wr.heap.size, 0, none⟩ 1 1 [.int .u32 (x : Int)] rfl rfl (cell_one_new _ _ _) (ints_one .u32 [x]) ?c4 ?c5 (Nat.le_trans hbl.size (by simp)) ?_)
      case c4 => unfold maxLen; omega
      case c5 => omega
      intro v' w8 hown1 hgr1 _
      have hb1 : Below w.heap.size w w8 := (hbl.alloc hbl.size _).grown hgr1 (Nat.le_trans hbl.size (by simp)) (fun g' hg' => by
        rcases hown.2 with ⟨rfl, _⟩ | ⟨g2, cap, cur, rfl, hg2, _⟩
        · simp [Value.ownBlock] at hg'
        · simp [Value.ownBlock] at hg'; omega)
      rw [HT.out] at hown1
      have H1 := Lib.hid hown1
      clear hown1 hown
      go_wp2
      go_roundw
      case rel => exact ⟨k + 1, by omega, by go_num, H1.out, hb1⟩
      case measure => simp [intOf]; omega
    · have hls := ownLs_of (zs := xs.drop wh) (n := k) (by rw [List.take_of_length_le (by rw [List.length_drop, HL.out]; omega)] at hown; exact hown) (by rw [List.length_drop, HL.out]; omega)
      have HOWN := Lib.hid hls
      clear hown hls hA
      go_wp2
      go_loop [7, 8] (fun q t => ∃ i p : Nat, i ≤ s ∧ t = .int .i64 (i : Int) ∧ q = .int .u32 (p : Int) ∧ PowIs p i) (fun _ t => s - (intOf t).toNat)
      case atStart => exact ⟨0, 1, Nat.zero_le _, rfl, rfl, rfl⟩
      case round =>
        obtain ⟨i, p, hi', rfl, rfl, hp⟩ := hrel
        by_cases hlt2 : i < s
        · obtain ⟨q, hq, w1, w2⟩ := powIs_step hp (by omega)
          have HQ := Lib.hid hq
          clear hq hp
          go_wp2
          go_round
          case rel => exact ⟨i + 1, q, by omega, by go_num, rfl, HQ.out⟩
          case measure => simp [intOf]; omega
        · obtain rfl : i = s := by omega
          clear hlt2
          obtain rfl : p = 2 ^ i := hp
          have HTM' : ∀ (w' w'' : World) (a : Value), OwnLs w'.heap.size w'' a (dig B32 V) → Calls Try.prog 94 #[a, .int .u32 ((2 ^ i : Nat) : Int)] w'' (OverPost w'' (dig B32 (V / 2 ^ i)) (V % 2 ^ i)) := HTM.out
          generalize 2 ^ i = P at *
          have HTM2 := Lib.hid HTM'
          clear HTM' HTM
          go_wp2_with (first
            | (go_at_call 80; refine (HTR.out _ _ HOWN.out).mono ?_; rintro e w5 ⟨v5, rfl, hv5, hb5⟩)
            | (go_at_call 94; refine (HTM2.out _ _ _ hv5).mono ?_; rintro e w6 ⟨v6, rfl, hv6, hb6⟩))
          go_ret
          have b5 := below_at hbl (Nat.le_refl _) hb5
          exact ⟨_, rfl, hv6.mono b5.size, below_at b5 (Nat.le_refl _) hb6⟩
end Go.Proofs.Ytaegkhdkhgemmaa

namespace Go.Proofs.Ytaegkhdkhgemmaa
open Go.RowKit Num

theorem bit_eq {m i x : Nat} (hx : x = m / B32 ^ (i / 32) % B32) : x / 2 ^ (i % 32) % 2 = m / 2 ^ i % 2 := by
  have e1 : B32 ^ (i / 32) = 2 ^ (32 * (i / 32)) := by rw [Nat.pow_mul]; rfl
  have hs : i % 32 < 32 := Nat.mod_lt _ (by omega)
  have e2 : B32 = 2 ^ (i % 32) * 2 ^ (32 - i % 32) := by rw [← Nat.pow_add, show i % 32 + (32 - i % 32) = 32 by omega]; rfl
  have e3 : 2 ^ (32 - i % 32) = 2 * 2 ^ (31 - i % 32) := by rw [← Nat.pow_succ']; congr 1; omega
  rw [hx, e1, e2, Nat.mod_mul_right_div_self, e3, Nat.mod_mul_right_mod, Nat.div_div_eq_div_mul, ← Nat.pow_add, show 32 * (i / 32) + i % 32 = i by omega]

/-- Halved so often. -/
def HalfIs (v x k : Nat) : Prop := v = x / 2 ^ k
theorem HalfIs.step {v x k : Nat} (h : HalfIs v x k) : HalfIs (v / 2) x (k + 1) := by
  unfold HalfIs at *; rw [h, Nat.div_div_eq_div_mul, ← Nat.pow_succ]

set_option maxHeartbeats 2000000 in
set_option maxRecDepth 100000 in
theorem refBit_any (A : Option Addr) (c L i m : Nat) (w : World) (hA : Nums .u32 w A (dig B32 m)) (hL : L = (dig B32 m).length) (hl : L ≤ 1000000) (hi : i / 32 < L) :
    Calls Try.prog 90 #[.slice A L c, .int .i64 (i : Int)] w fun e w' => e = .returned (.int .u32 ((m / 2 ^ i % 2 : Nat) : Int)) ∧ w = w' := by
  obtain ⟨g, off, x, rfl, hg, hxv, hcx⟩ := hA.at_ (i := i / 32) (by omega)
  have hb := bit_eq (dig_getElem? b32_two hxv)
  obtain ⟨r, hr⟩ : ∃ r, m / 2 ^ i % 2 = r := ⟨_, rfl⟩
  rw [hr] at hb ⊢
  have hxl : x < B32 := low_dig b32_two m x (List.mem_of_getElem? hxv)
  obtain ⟨q, s, hq, hs, hs32⟩ : ∃ q s, i / 32 = q ∧ i % 32 = s ∧ s < 32 := ⟨_, _, rfl, rfl, Nat.mod_lt _ (by omega)⟩
  rw [hq] at hcx hi
  rw [hs] at hb
  have e1 : (i : Int) / 32 = (q : Int) := by omega
  have e2 : (i : Int) % 32 = (s : Int) := by omega
  have e3 : (i : Int).tdiv 32 = (q : Int) := by rw [Int.tdiv_eq_ediv_of_nonneg (by omega)]; exact e1
  have e4 : (i : Int).tmod 32 = (s : Int) := by rw [Int.tmod_eq_emod_of_nonneg (by omega)]; exact e2
  have HB := Lib.hid hb
  have hi0 : 0 ≤ (i : Int) := by omega
  have hib : i ≤ 32 * 1000000 := by omega
  generalize hI : (i : Int) = I at *
  have hI2 : I ≤ 32000000 := by omega
  clear hb hr hA hq hs hL hxv hI hib
  go_enter Try.func90, Try.ntmps90
  go_wp2
  go_loop [5, 6] (fun a t => ∃ k v : Nat, k ≤ s ∧ t = .int .i64 (k : Int) ∧ a = .int .u32 (v : Int) ∧ v < B32 ∧ HalfIs v x k) (fun _ t => s - (intOf t).toNat)
  case atStart => exact ⟨0, x, Nat.zero_le _, rfl, rfl, hxl, by unfold HalfIs; simp⟩
  case round =>
    obtain ⟨k, v, hk, rfl, rfl, hvl, hh⟩ := hrel
    by_cases hlt : k < s
    · have hst := hh.step
      obtain ⟨u, hu⟩ : ∃ u, v / 2 = u := ⟨_, rfl⟩
      rw [hu] at hst
      have w1 : (v : Int) / 2 = (u : Int) := by omega
      have w2 : (v : Int).tdiv 2 = (u : Int) := by rw [Int.tdiv_eq_ediv_of_nonneg (by omega)]; exact w1
      have w3 : IntKind.u32.wrap (u : Int) = (u : Int) := by unfold B32 at hvl; rw [IntKind.wrap_u32']; omega
      have hul : u < B32 := by omega
      have HST := Lib.hid hst
      clear hst hh hu
      go_wp2
      go_round
      case rel => exact ⟨k + 1, u, by omega, by go_num, rfl, hul, HST.out⟩
      case measure => simp [intOf]; omega
    · obtain rfl : k = s := by omega
      have he : v % 2 = r := by rw [hh]; exact HB.out
      have w1 : (v : Int) % 2 = (r : Int) := by omega
      have w2 : (v : Int).tmod 2 = (r : Int) := by rw [Int.tmod_eq_emod_of_nonneg (by omega)]; exact w1
      have w3 : IntKind.u32.wrap (r : Int) = (r : Int) := by rw [IntKind.wrap_u32']; omega
      clear hh hlt he
      go_wp2
      go_ret
      exact ⟨rfl, rfl⟩
theorem refBit_call (a : Value) (m i : Nat) (w : World) (ha : N32 w a m) (hl : (dig B32 m).length ≤ 1000000) (hi : i < nbits m) :
    Calls Try.prog 90 #[a, .int .i64 (i : Int)] w fun e w' => e = .returned (.int .u32 ((m / 2 ^ i % 2 : Nat) : Int)) ∧ w = w' := by
  obtain ⟨A, c, rfl, _, hA⟩ := ha
  refine refBit_any A c _ i m w hA rfl hl ?_
  have : nbits m ≤ 32 * (dig B32 m).length := nbits_le (by
    have h1 := dig_len_lt b32_two (n := m)
    have e : B32 ^ (dig B32 m).length = 2 ^ (32 * (dig B32 m).length) := by rw [Nat.pow_mul]; rfl
    omega)
  omega

/-- The bits from k on are divided. -/
structure RefDivSt (m n L k : Nat) (zs : List Nat) (r : Nat) : Prop where
  len : zs.length = L
  low : Low B32 zs
  lt : r < n
  rem : m / 2 ^ k % n = r
  quo : val B32 zs = m / 2 ^ k / n * 2 ^ k
theorem RefDivSt.start {m n L : Nat} (hn : 0 < n) : RefDivSt m n L (nbits m) (List.replicate L 0) 0 := by
  have h : m / 2 ^ nbits m = 0 := Nat.div_eq_of_lt (nbits_lt m)
  exact ⟨by simp, Low.replicate b32_pos _, hn, by rw [h]; simp, by rw [h, val_replicate]; simp⟩
theorem same_rest32 {T P a c : Nat} (h3 : T < P) (hP : 0 < P) (h : T + P * a = P * c) : a = c := by
  have h1 := congrArg (· / P) h
  simp only [Nat.add_mul_div_left _ _ hP, Nat.div_eq_of_lt h3, Nat.mul_div_cancel_left _ hP, Nat.zero_add] at h1
  exact h1
theorem RefDivSt.digit {m n L i z r : Nat} {zs : List Nat} (h : RefDivSt m n L (i + 1) zs r) (hz : zs[i / 32]? = some z) : z + 2 ^ (i % 32) < B32 := by
  have hs : i % 32 < 32 := Nat.mod_lt _ (by omega)
  have hl := h.low z (List.mem_of_getElem? hz)
  have hi : i / 32 < zs.length := (List.getElem?_eq_some_iff.1 hz).1
  have e1 := val_take_drop B32 zs (i / 32) (by omega)
  have e2 : zs.drop (i / 32) = z :: zs.drop (i / 32 + 1) := by rw [List.drop_eq_getElem_cons hi, (List.getElem?_eq_some_iff.1 hz).2]
  have e3 := val_lt B32 _ (h.low.take (i / 32))
  rw [List.length_take, Nat.min_eq_left (by omega)] at e3
  have e4 : B32 ^ (i / 32) = 2 ^ (32 * (i / 32)) := by rw [Nat.pow_mul]; rfl
  have hq := h.quo
  rw [e1, e2] at hq
  generalize m / 2 ^ (i + 1) / n = Q at hq
  have hp : 2 ^ (i + 1) = B32 ^ (i / 32) * (2 ^ (i % 32) * 2) := by rw [e4, ← Nat.pow_succ, ← Nat.pow_add]; congr 1; omega
  rw [hp] at hq
  clear h
  generalize val B32 (zs.take (i / 32)) = T at *
  have e5 : val B32 (z :: zs.drop (i / 32 + 1)) = z + B32 * val B32 (zs.drop (i / 32 + 1)) := rfl
  rw [e5] at hq
  generalize val B32 (zs.drop (i / 32 + 1)) = R at *
  have hP : 0 < B32 ^ (i / 32) := Nat.pow_pos b32_pos
  generalize B32 ^ (i / 32) = P at *
  have e6 : T + P * (z + B32 * R) = P * (Q * (2 ^ (i % 32) * 2)) := by rw [hq]; grind
  have e7 : z + B32 * R = Q * (2 ^ (i % 32) * 2) := by
    have := same_rest32 e3 hP e6
    exact this
  have hB : B32 = 2 ^ (i % 32) * 2 * 2 ^ (31 - i % 32) := by rw [← Nat.pow_succ, ← Nat.pow_add, show i % 32 + 1 + (31 - i % 32) = 32 by omega]; rfl
  have hpp : 0 < 2 ^ (i % 32) := Nat.two_pow_pos _
  generalize 2 ^ (i % 32) = p at *
  generalize 2 ^ (31 - i % 32) = u at *
  have e8 : z = (p * 2) * (Q - u * R) := by
    rw [Nat.mul_sub]
    have : p * 2 * (u * R) = B32 * R := by rw [hB]; grind
    have : p * 2 * Q = Q * (p * 2) := Nat.mul_comm _ _
    omega
  have e9 : Q - u * R < u := by
    refine Nat.lt_of_mul_lt_mul_left (a := p * 2) ?_
    rw [← e8, ← hB]; exact hl
  have e10 := Nat.mul_le_mul_left (p * 2) (show Q - u * R + 1 ≤ u from e9)
  rw [Nat.mul_add, ← e8, ← hB] at e10
  omega
theorem RefDivSt.next {m n L i r : Nat} {zs : List Nat} (h : RefDivSt m n L (i + 1) zs r) : m / 2 ^ i = (m / 2 ^ (i + 1) / n * 2) * n + (r * 2 + m / 2 ^ i % 2) := by
  have e1 := Nat.div_add_mod (m / 2 ^ i) 2
  have e2 : m / 2 ^ i / 2 = m / 2 ^ (i + 1) := by rw [Nat.div_div_eq_div_mul, ← Nat.pow_succ]
  have e3 := Nat.div_add_mod (m / 2 ^ (i + 1)) n
  rw [h.rem] at e3
  rw [e2, ← e3] at e1
  generalize m / 2 ^ (i + 1) / n = Q at *
  generalize m / 2 ^ i % 2 = b at *
  rw [← e1]
  grind
theorem divmod_of {M n q r : Nat} (h : M = q * n + r) (hr : r < n) : M / n = q ∧ M % n = r := by
  subst h
  rw [Nat.mul_comm, Nat.mul_add_div (by omega), Nat.div_eq_of_lt hr, Nat.mul_add_mod, Nat.mod_eq_of_lt hr]
  simp
theorem RefDivSt.stay {m n L i r r1 : Nat} {zs : List Nat} (h : RefDivSt m n L (i + 1) zs r) (h1 : r1 = r * 2 + m / 2 ^ i % 2) (hlt : r1 < n) : RefDivSt m n L i zs r1 := by
  have e := h.next
  rw [← h1] at e
  obtain ⟨d1, d2⟩ := divmod_of e hlt
  refine ⟨h.len, h.low, hlt, d2, ?_⟩
  rw [d1, h.quo, Nat.pow_succ]; grind
theorem RefDivSt.take {m n L i r r1 z : Nat} {zs : List Nat} (h : RefDivSt m n L (i + 1) zs r) (h1 : r1 = r * 2 + m / 2 ^ i % 2) (hge : n ≤ r1) (hz : zs[i / 32]? = some z) : RefDivSt m n L i (zs.set (i / 32) (z + 2 ^ (i % 32))) (r1 - n) := by
  have e := h.next
  have hb : m / 2 ^ i % 2 < 2 := Nat.mod_lt _ (by omega)
  have hlt := h.lt
  rw [← h1] at e
  have e' : m / 2 ^ i = (m / 2 ^ (i + 1) / n * 2 + 1) * n + (r1 - n) := by rw [e, Nat.add_mul (_ * 2) 1 n, Nat.one_mul]; omega
  obtain ⟨d1, d2⟩ := divmod_of e' (by omega)
  have hi : i / 32 < zs.length := (List.getElem?_eq_some_iff.1 hz).1
  have hs := val_set B32 zs (i / 32) (z + 2 ^ (i % 32)) hi
  rw [(List.getElem?_eq_some_iff.1 hz).2] at hs
  have e4 : B32 ^ (i / 32) * 2 ^ (i % 32) = 2 ^ i := by
    have : B32 ^ (i / 32) = 2 ^ (32 * (i / 32)) := by rw [Nat.pow_mul]; rfl
    rw [this, ← Nat.pow_add]; congr 1; omega
  rw [Nat.mul_add, e4] at hs
  refine ⟨by rw [List.length_set]; exact h.len, h.low.set (h.digit hz), by omega, d2, ?_⟩
  have hq := h.quo
  rw [d1]
  clear h d1 d2 e e'
  generalize m / 2 ^ (i + 1) / n = Q at *
  have e5 : Q * 2 ^ (i + 1) = Q * 2 * 2 ^ i := by rw [Nat.pow_succ]; grind
  rw [Nat.add_mul, Nat.one_mul]
  omega
end Go.Proofs.Ytaegkhdkhgemmaa

namespace Go.Proofs.Ytaegkhdkhgemmaa
open Go.RowKit Num

/-- Two numbers come back. -/
def TwoN (w : World) (q r : Nat) (e : Ending) (w' : World) : Prop := ∃ v u, e = .returned (.tuple #[v, u]) ∧ N32 w' v q ∧ N32 w' u r ∧ Below w.heap.size w w'
theorem Row.keep {k : IntKind} {T : TypeId} {w w' : World} {g : Nat} {zs : List Nat} (h : Row k T w g zs) (hb : Below w.heap.size w w') : Row k T w' g zs := h.below hb h.lt
theorem ref_empty (w : World) : Limbs (w.alloc (.cells #[] 56)) (.slice (some ⟨w.heap.size, 0, none⟩) 0 0) (dig B32 0) := by
  rw [dig_zero]
  exact ⟨_, _, rfl, Nat.le_refl _, by simp, Nums.nil⟩
theorem OwnLs.setc {B g : Nat} {w : World} {v : Value} {ys : List Nat} (h : OwnLs B w v ys) (hg : g < B) (i : Nat) (u : Value) : OwnLs B (w.setCell ⟨g, i, none⟩ u) v ys := by
  obtain ⟨h1, h2⟩ := h
  refine ⟨h1, ?_⟩
  rcases h2 with h2 | ⟨g2, cap, cur, e, hg2, hh, r⟩
  · exact .inl h2
  · exact .inr ⟨g2, cap, cur, e, hg2, (Below.heap_setCell w _ u g2 (by show g2 ≠ g; omega)).trans hh, r⟩
theorem nbits_len {m : Nat} : nbits m ≤ 32 * (dig B32 m).length := nbits_le (by
  have h1 := dig_len_lt b32_two (n := m)
  have e : B32 ^ (dig B32 m).length = 2 ^ (32 * (dig B32 m).length) := by rw [Nat.pow_mul]; rfl
  omega)
theorem len_mono32 {m n : Nat} (h : m ≤ n) : (dig B32 m).length ≤ (dig B32 n).length := dig_len_le b32_two (Nat.lt_of_le_of_lt h (dig_len_lt b32_two))

set_option maxHeartbeats 4000000 in
set_option maxRecDepth 100000 in
theorem refDivMod_any (a b : Value) (m n : Nat) (w : World) (ha : N32 w a m) (hb : N32 w b n) (hm : (dig B32 m).length ≤ 500) (hn : (dig B32 n).length ≤ 500) (hn0 : 0 < n) :
    Calls Try.prog 48 #[a, b] w (TwoN w (m / n) (m % n)) := by
  have hnb := nbits_len (m := m)
  have hbits := fun w' (h : N32 w' a m) => refBits_any a m w' h (by omega)
  obtain ⟨L, hL⟩ : ∃ L, (dig B32 m).length = L := ⟨_, rfl⟩
  have hmk := make35 L (by omega) w
  have hr0 := Row.made w .u32 L 56
  have hbA : Below w.heap.size w (w.alloc (.cells (madeCells #[.int .u32 0] L) 56)) := (Below.refl _ _).alloc (Nat.le_refl _) _
  have hst0 := RefDivSt.start (m := m) (L := L) hn0
  have htm := fun v w' (r : Nat) (h : N32 w' v r) (hl : (dig B32 r).length ≤ 1000) => times_any v r 2 w' h hl (by unfold B32; omega)
  have hbit := fun w' i (h : N32 w' a m) (hi : i < nbits m) => refBit_call a m i w' h (by omega) hi
  have hof := fun w' (v : Nat) (hv : v < 2) => refOf_any v (by unfold B64; omega) w'
  have had := fun u v w' (x y : Nat) (h : N32 w' u x) (k : N32 w' v y) (h1 : (dig B32 x).length ≤ 1000) (h2 : (dig B32 y).length ≤ 1000) => refAdd_call u v x y w' h k (by omega) (by omega)
  have hcm := fun v w' (x : Nat) (h : N32 w' v x) (k : N32 w' b n) (h1 : (dig B32 x).length ≤ 1000) => refCmp_call v b x n w' h k (by omega) (by omega)
  have hsu := fun v w' (x : Nat) (h : N32 w' v x) (k : N32 w' b n) (h1 : (dig B32 x).length ≤ 1000) (hle : n ≤ x) => refSub_call v b x n w' h k (by omega) hle
  have hrl : ∀ r, r < n → (dig B32 r).length ≤ 500 := fun r h => Nat.le_trans (len_mono32 (Nat.le_of_lt h)) hn
  have hr2 : ∀ r, r < n → (dig B32 (r * 2)).length ≤ 1000 := fun r h => Nat.le_trans (prod_len (hrl r h) (small32 (k := 2) (by unfold B32; omega))) (by omega)
  have hr3 : ∀ r y, r < n → y < 2 → (dig B32 (r * 2 + y)).length ≤ 1000 := fun r y h hy => Nat.le_trans (len_mono32 (show r * 2 + y ≤ n * 2 by omega)) (Nat.le_trans (prod_len hn (small32 (k := 2) (by unfold B32; omega))) (by omega))
  have hbl : ∀ y, y < 2 → (dig B32 y).length ≤ 1000 := fun y hy => Nat.le_trans (small32 (by unfold B32; omega)) (by omega)
  have HA := Lib.hid ha
  have HB := Lib.hid hb
  obtain ⟨A, c, rfl, _⟩ := ha
  obtain ⟨A', c', rfl, _⟩ := hb
  rw [hL] at hnb hm ⊢
  rw [hL] at HA hbits hbit
  have HLEN := Lib.hid hL
  have HBITS := Lib.hid hbits
  have HTM := Lib.hid htm
  have HBIT := Lib.hid hbit
  have HOF := Lib.hid hof
  have HAD := Lib.hid had
  have HCM := Lib.hid hcm
  have HSU := Lib.hid hsu
  have HRL := Lib.hid hrl
  have HR2 := Lib.hid hr2
  have HR3 := Lib.hid hr3
  have HBL := Lib.hid hbl
  have HR0 := Lib.hid hr0
  have HST0 := Lib.hid hst0
  clear hbits htm hbit hof had hcm hsu hrl hr2 hr3 hbl hr0 hst0
  obtain ⟨nb, hnbe⟩ : ∃ nb, nbits m = nb := ⟨_, rfl⟩
  rw [hnbe] at HBITS HBIT HST0 hnb
  clear hL hnbe
  go_enter Try.func48, Try.ntmps48
  go_wp2_with (fail)
  refine (HBITS.out _ ((HA.out.keep hbA).keep (below_new _ (.cells #[] 56)))).mono ?_
  rintro e w1 ⟨rfl, rfl⟩
  go_wp2
  go_loopw [7, 8] (fun rv t wr => ∃ (k r : Nat) (zs : List Nat), k ≤ nb ∧ t = .int .i64 ((k : Int) - 1) ∧ RefDivSt m n L k zs r ∧ N32 wr rv r ∧ Row .u32 56 wr w.heap.size zs ∧ Below w.heap.size w wr) (fun _ t _ => (intOf t + 1).toNat)
  case atStart => exact ⟨nb, 0, _, Nat.le_refl _, rfl, HST0.out, (by have := (ref_empty (w.alloc (.cells (madeCells #[.int .u32 0] L) 56))).is; rwa [show (w.alloc (.cells (madeCells #[.int .u32 0] L) 56)).heap.size = w.heap.size + 1 from by simp] at this), HR0.out.alloc _, hbA.alloc hbA.size _⟩
  case round =>
    clear hbA HST0 HR0 hmk HBITS
    obtain ⟨k, r, zs, hk, rfl, hst, hr, hrow, hbl⟩ := hrel
    have hlen := hst.len
    have hrn := hst.lt
    by_cases h0 : k = 0
    · subst h0
      have hq := hst.quo
      have hre := hst.rem
      rw [Nat.pow_zero, Nat.div_one, Nat.mul_one] at hq
      rw [Nat.pow_zero, Nat.div_one] at hre
      have hnm := hrow.nums0 zs.length
      rw [List.take_length] at hnm
      have htr := refTrim_l (.slice (some ⟨w.heap.size, 0, none⟩) L L) zs wr ⟨_, _, by rw [hlen], by omega, by omega, hnm⟩ hst.low (by omega)
      rw [hq] at htr
      have hql : (dig B32 (m / n)).length ≤ 1000 := by rw [← hq]; exact Nat.le_trans (trim_le b32_two hst.low) (by omega)
      rw [← hre] at hr
      generalize m / n = Q at *
      generalize m % n = R at *
      have HT := Lib.hid htr
      clear htr hq hre hnm hst hlen
      go_wp2_with (go_at_call 80; refine HT.out.mono ?_; rintro e w9 ⟨v9, rfl, hv9, hb9⟩)
      go_ret2
      exact ⟨_, _, rfl, (hv9.limbs (by omega)).is, hr.keep hb9, below_at hbl (Nat.le_refl _) hb9⟩
    · obtain ⟨i, rfl⟩ : ∃ i, k = i + 1 := ⟨k - 1, by omega⟩
      obtain ⟨z, hz⟩ : ∃ z, zs[i / 32]? = some z := ⟨zs[i / 32]'(by omega), List.getElem?_eq_getElem _⟩
      have hby : m / 2 ^ i % 2 < 2 := Nat.mod_lt _ (by omega)
      obtain ⟨y, hy⟩ : ∃ y, m / 2 ^ i % 2 = y := ⟨_, rfl⟩
      have hb90 := fun w' (h : N32 w' (.slice A L c) m) => HBIT.out w' i h (by omega)
      rw [hy] at hb90 hby
      have y1 : IntKind.u64.wrap (y : Int) = (y : Int) := by rw [IntKind.wrap_u64]; omega
      have HB90 := Lib.hid hb90
      have HY := Lib.hid hy
      have HZ := Lib.hid hz
      have HST := Lib.hid hst
      have HLZ := Lib.hid hlen
      clear hb90 hy hz hst hlen
      by_cases hge : n ≤ r * 2 + y
      · have hcc : 0 ≤ cmpN (r * 2 + y) n := by
          rcases Nat.lt_or_ge n (r * 2 + y) with h | h
          · rw [cmpN_gt h]; omega
          · rw [show r * 2 + y = n by omega, cmpN_eq]; omega
        obtain ⟨cc, hce⟩ : ∃ cc, cmpN (r * 2 + y) n = cc := ⟨_, rfl⟩
        rw [hce] at hcc
        have hst' := HST.out.take (by rw [HY.out]) hge HZ.out
        have hdg := HST.out.digit HZ.out
        have HST2 := Lib.hid hst'
        have HGE := Lib.hid hge
        have hcm2 := fun v w' (h : N32 w' v (r * 2 + y)) (k : N32 w' (.slice A' (dig B32 n).length c') n) (h1 : (dig B32 (r * 2 + y)).length ≤ 1000) => HCM.out v w' _ h k h1
        rw [hce] at hcm2
        have HCM2 := Lib.hid hcm2
        have HDG := Lib.hid hdg
        clear hst' hge hce hcm2 hdg
        have ka := HA.out.keep hbl
        have kb := HB.out.keep hbl
        have hgl := hrow.lt
        go_wp2_with (fail)
        refine (HTM.out _ _ r hr (by have := HRL.out r hrn; omega)).mono ?_
        rintro e w1 ⟨v1, rfl, hv1, hb1⟩
        have b1 := below_at hbl (Nat.le_refl _) hb1
        have ka_1 := ka.keep hb1
        have kb_1 := kb.keep hb1
        have kw_1 := hrow.keep hb1
        have k1_1 := (hv1.limbs (by have := HR2.out r hrn; omega)).is
        go_wp2_with (fail)
        refine (HB90.out _ ka_1).mono ?_
        rintro e w2 ⟨rfl, rfl⟩
        go_wp2_with (fail)
        refine (HOF.out _ y hby).mono ?_
        rintro e w3 ⟨v2, rfl, hv2, hb3⟩
        have b3 := below_at b1 (Nat.le_refl _) hb3
        have kb_3 := kb_1.keep hb3
        have kw_3 := kw_1.keep hb3
        have k1_3 := k1_1.keep hb3
        have k2_3 := (hv2.limbs (by have := HBL.out y hby; omega)).is
        go_wp2_with (fail)
        refine (HAD.out _ _ _ _ _ k1_3 k2_3 (HR2.out r hrn) (HBL.out y hby)).mono ?_
        rintro e w4 ⟨v3, rfl, hv3, hb4⟩
        have b4 := below_at b3 (Nat.le_refl _) hb4
        have kb_4 := kb_3.keep hb4
        have kw_4 := kw_3.keep hb4
        have k3_4 := (hv3.limbs (by have := HR3.out r y hrn hby; omega)).is
        go_wp2_with (fail)
        refine (HCM2.out _ _ k3_4 kb_4 (HR3.out r y hrn hby)).mono ?_
        rintro e w5 ⟨rfl, hb5⟩
        have b5 := below_at b4 (Nat.le_refl _) hb5
        have kb_5 := kb_4.keep hb5
        have kw_5 := kw_4.keep hb5
        have k3_5 := k3_4.keep hb5
        go_wp2_with (fail)
        refine (HSU.out _ _ _ k3_5 kb_5 (HR3.out r y hrn hby) HGE.out).mono ?_
        rintro e w6 ⟨v6, rfl, hv6, hb6⟩
        have b6 := below_at b5 (Nat.le_refl _) hb6
        have kw_6 := kw_5.keep hb6
        have k6 := fun i u => ((hv6.setc (g := w.heap.size) kw_5.lt i u).limbs (by have := HRL.out _ HST2.out.lt; omega)).is
        have hrow6 := kw_6
        obtain ⟨q, sh, hq32, hs32, hs1⟩ : ∃ q sh, i / 32 = q ∧ i % 32 = sh ∧ sh < 32 := ⟨_, _, rfl, rfl, Nat.mod_lt _ (by omega)⟩
        have hzq := HZ.out
        rw [hq32] at hzq
        have cz := hrow6.cell hzq
        have fz := hrow6.frozen q
        have hqL : q < L := by omega
        have hdq := HDG.out
        rw [hs32] at hdq
        have e1 : (i : Int) / 32 = (q : Int) := by omega
        have e2 : (i : Int) % 32 = (sh : Int) := by omega
        have e3 : (i : Int).tdiv 32 = (q : Int) := by rw [Int.tdiv_eq_ediv_of_nonneg (by omega)]; exact e1
        have e4 : (i : Int).tmod 32 = (sh : Int) := by rw [Int.tmod_eq_emod_of_nonneg (by omega)]; exact e2
        have HZQ := Lib.hid hzq
        have HDQ := Lib.hid hdq
        have HQ32 := Lib.hid hq32
        have HS32 := Lib.hid hs32
        clear hzq hdq hq32 hs32
        go_wp2
        go_loop [9, 10] (fun a t => ∃ j p : Nat, j ≤ sh ∧ t = .int .i64 (j : Int) ∧ a = .int .u32 (p : Int) ∧ PowIs p j) (fun _ t => sh - (intOf t).toNat)
        case atStart => exact ⟨0, 1, Nat.zero_le _, rfl, rfl, rfl⟩
        case round =>
          obtain ⟨j, p, hj, rfl, rfl, hp⟩ := hrel
          by_cases hlt : j < sh
          · obtain ⟨p2, hp2, x1, x2⟩ := powIs_step hp (by omega)
            have HP2 := Lib.hid hp2
            clear hp2 hp
            go_wp2
            go_round
            case rel => exact ⟨j + 1, p2, by omega, by go_num, rfl, HP2.out⟩
            case measure => simp [intOf]; omega
          · obtain rfl : j = sh := by omega
            clear hlt
            have hpz : z + p < B32 := by rw [hp]; exact HDQ.out
            have x1 : IntKind.u32.wrap ((z : Int) + (p : Int)) = ((z + p : Nat) : Int) := by unfold B32 at hpz; rw [IntKind.wrap_u32']; omega
            obtain ⟨zp, hzp⟩ : ∃ zp, z + p = zp := ⟨_, rfl⟩
            have x2 : ((z : Int) + (p : Int)) % 4294967296 = (zp : Int) := by unfold B32 at hpz; omega
            rw [hzp] at x1
            have hst2 := HST2.out
            rw [HQ32.out, HS32.out, ← hp, hzp] at hst2
            have HST3 := Lib.hid hst2
            clear hst2 hp hpz hzp
            go_wp2
            go_roundw
            case rel => exact ⟨i, _, _, by omega, by first | rfl | go_num, HST3.out, k6 _ _, hrow6.set q zp, below_set b6 (Nat.le_refl _) _⟩
            case measure => simp [intOf]
      · have hlt2 : r * 2 + y < n := by omega
        have hst' := HST.out.stay (by rw [HY.out]) hlt2
        have HST2 := Lib.hid hst'
        have hcm2 := fun v w' (h : N32 w' v (r * 2 + y)) (k : N32 w' (.slice A' (dig B32 n).length c') n) (h1 : (dig B32 (r * 2 + y)).length ≤ 1000) => HCM.out v w' _ h k h1
        rw [cmpN_lt hlt2] at hcm2
        have HCM2 := Lib.hid hcm2
        clear hst' hge hcm2 hlt2
        have ka := HA.out.keep hbl
        have kb := HB.out.keep hbl
        have hgl := hrow.lt
        go_wp2_with (fail)
        refine (HTM.out _ _ r hr (by have := HRL.out r hrn; omega)).mono ?_
        rintro e w1 ⟨v1, rfl, hv1, hb1⟩
        have b1 := below_at hbl (Nat.le_refl _) hb1
        have ka_1 := ka.keep hb1
        have kb_1 := kb.keep hb1
        have kw_1 := hrow.keep hb1
        have k1_1 := (hv1.limbs (by have := HR2.out r hrn; omega)).is
        go_wp2_with (fail)
        refine (HB90.out _ ka_1).mono ?_
        rintro e w2 ⟨rfl, rfl⟩
        go_wp2_with (fail)
        refine (HOF.out _ y hby).mono ?_
        rintro e w3 ⟨v2, rfl, hv2, hb3⟩
        have b3 := below_at b1 (Nat.le_refl _) hb3
        have kb_3 := kb_1.keep hb3
        have kw_3 := kw_1.keep hb3
        have k1_3 := k1_1.keep hb3
        have k2_3 := (hv2.limbs (by have := HBL.out y hby; omega)).is
        go_wp2_with (fail)
        refine (HAD.out _ _ _ _ _ k1_3 k2_3 (HR2.out r hrn) (HBL.out y hby)).mono ?_
        rintro e w4 ⟨v3, rfl, hv3, hb4⟩
        have b4 := below_at b3 (Nat.le_refl _) hb4
        have kb_4 := kb_3.keep hb4
        have kw_4 := kw_3.keep hb4
        have k3_4 := (hv3.limbs (by have := HR3.out r y hrn hby; omega)).is
        go_wp2_with (fail)
        refine (HCM2.out _ _ k3_4 kb_4 (HR3.out r y hrn hby)).mono ?_
        rintro e w5 ⟨rfl, hb5⟩
        have b5 := below_at b4 (Nat.le_refl _) hb5
        have kb_5 := kb_4.keep hb5
        have kw_5 := kw_4.keep hb5
        have k3_5 := k3_4.keep hb5
        go_wp2
        go_roundw
        case rel => exact ⟨i, _, _, by omega, by first | rfl | go_num, HST2.out, k3_5, kw_5, b5⟩
        case measure => simp [intOf]
end Go.Proofs.Ytaegkhdkhgemmaa

namespace Go.Proofs.Ytaegkhdkhgemmaa
open Go.RowKit Num

set_option maxHeartbeats 1000000 in
set_option maxRecDepth 100000 in
theorem gcd_bad (a b : Value) (xs ys : List Nat) (w : World) (ha : Limbs w a xs) (hb : Limbs w b ys) (h0 : chk2 xs ys ≠ 0) : Calls Try.prog 58 #[a, b] w (NatErr w (chk2 xs ys)) := by
  have hc := checkAll_any w.heap.size 2 2 _ _ (nats2 ha hb) rfl (by omega)
  rw [chkAll2] at hc
  generalize chk2 xs ys = r at *
  have hbA := below_new w (.cells #[a, b] 23)
  have hq : (r != 0) = true := by simp [h0]
  have HC := Lib.hid hc
  have H0 := Lib.hid h0
  obtain ⟨A, c, rfl, _⟩ := ha
  obtain ⟨A', c', rfl, _⟩ := hb
  clear hc h0
  generalize xs.length = L at *
  generalize ys.length = L' at *
  go_enter Try.func58, Try.ntmps58
  go_wp2_with (go_at_call 75; refine HC.out.mono ?_; rintro e w1 ⟨rfl, rfl⟩)
  go_ret2
  exact ⟨rfl, hbA⟩

set_option maxHeartbeats 1000000 in
set_option maxRecDepth 100000 in
theorem lcm_bad (a b : Value) (xs ys : List Nat) (w : World) (ha : Limbs w a xs) (hb : Limbs w b ys) (h0 : chk2 xs ys ≠ 0) : Calls Try.prog 59 #[a, b] w (NatErr w (chk2 xs ys)) := by
  have hc := checkAll_any w.heap.size 2 2 _ _ (nats2 ha hb) rfl (by omega)
  rw [chkAll2] at hc
  generalize chk2 xs ys = r at *
  have hbA := below_new w (.cells #[a, b] 23)
  have hq : (r != 0) = true := by simp [h0]
  have HC := Lib.hid hc
  have H0 := Lib.hid h0
  obtain ⟨A, c, rfl, _⟩ := ha
  obtain ⟨A', c', rfl, _⟩ := hb
  clear hc h0
  generalize xs.length = L at *
  generalize ys.length = L' at *
  go_enter Try.func59, Try.ntmps59
  go_wp2_with (go_at_call 75; refine HC.out.mono ?_; rintro e w1 ⟨rfl, rfl⟩)
  go_ret2
  exact ⟨rfl, hbA⟩

theorem natOk_nil (w : World) : OwnL w.heap.size w (.slice none 0 0) 0 := by
  unfold OwnL
  rw [dig_zero]
  exact ⟨rfl, .inl ⟨rfl, rfl⟩⟩
theorem nbits_mul_le (m n : Nat) : nbits (m * n) ≤ nbits m + nbits n := by
  refine nbits_le ?_
  rw [Nat.pow_add]
  exact Nat.mul_lt_mul_of_lt_of_lt (nbits_lt m) (nbits_lt n)
theorem dig_len_pos32 {n : Nat} (h : 0 < n) : 0 < (dig B32 n).length := by
  rcases Nat.eq_zero_or_pos (dig B32 n).length with k | k
  · have := (dig_nil_iff b32_two).1 (List.eq_nil_of_length_eq_zero k); omega
  · exact k
theorem gcd_words {m n : Nat} (hm : (dig B64 m).length ≤ 8) (hn : (dig B64 n).length ≤ 8) : (dig B64 (Nat.gcd m n)).length ≤ 8 := by
  rcases Nat.eq_zero_or_pos m with h | h
  · subst h; rw [Nat.gcd_zero_left]; exact hn
  · exact Nat.le_trans (dig_len_mono (Nat.gcd_le_left n h)) hm

set_option maxHeartbeats 2000000 in
set_option maxRecDepth 100000 in
theorem gcd_ok (a b : Value) (m n : Nat) (w : World) (ha : N32 w a m) (hb : N32 w b n) (hm : (dig B32 m).length ≤ 16) (hn : (dig B32 n).length ≤ 16) : Calls Try.prog 58 #[a, b] w (NatOk w (Nat.gcd m n)) := by
  have hc := checkAll_any w.heap.size 2 2 _ _ (nats2 (Limbs.num ha (by omega)) (Limbs.num hb (by omega))) rfl (by omega)
  rw [chkAll2, chk2, if_pos (chk_dig (by omega)), chk_dig (by omega)] at hc
  have hbA := below_new w (.cells #[a, b] 23)
  have ha1 := ha.keep hbA
  have hb1 := hb.keep hbA
  have lm : (dig B64 m).length ≤ 8 := words_le (by omega)
  have ln : (dig B64 n).length ≤ 8 := words_le (by omega)
  have hf1 := fun w' (h : N32 w' a m) => fromNat_any a m w' h (by omega)
  have hf2 := fun w' (h : N32 w' b n) => fromNat_any b n w' h (by omega)
  have hgc := fun v u w' (h : W64 w' v m) (k : W64 w' u n) (sv : SomeS v) (su : SomeS u) => gcd_any v u m n w' h k sv su (by omega) (by omega)
  have lg := gcd_words lm ln
  have hnt := fun v w' (h : W64 w' v (Nat.gcd m n)) => nat_any v (Nat.gcd m n) w' h (by omega)
  have HC := Lib.hid hc
  have HA := Lib.hid ha1
  have HB := Lib.hid hb1
  have HF1 := Lib.hid hf1
  have HF2 := Lib.hid hf2
  have HG := Lib.hid hgc
  have HN := Lib.hid hnt
  obtain ⟨A, c, rfl, _⟩ := ha
  obtain ⟨A', c', rfl, _⟩ := hb
  clear hc ha1 hb1 hf1 hf2 hgc hnt lm ln lg
  generalize (dig B32 m).length = L at *
  generalize (dig B32 n).length = L' at *
  go_enter Try.func58, Try.ntmps58
  go_wp2_with (go_at_call 75; refine HC.out.mono ?_; rintro e w1 ⟨rfl, rfl⟩)
  go_wp2_with (fail)
  refine (HF1.out _ HA.out).mono ?_
  rintro e w1 ⟨v1, rfl, hv1, hb1⟩
  go_wp2_with (fail)
  refine (HF2.out _ (HB.out.keep hb1)).mono ?_
  rintro e w2 ⟨v2, rfl, hv2, hb2⟩
  go_wp2_with (fail)
  refine (HG.out _ _ _ (hv1.is.keep hb2) hv2.is hv1.some hv2.some).mono ?_
  rintro e w3 ⟨v3, rfl, hv3, hb3⟩
  go_wp2_with (fail)
  refine (HN.out _ _ hv3).mono ?_
  rintro e w4 ⟨v4, rfl, hv4, hb4⟩
  go_wp2
  go_ret2
  have b3 := below_at (below_at (below_at hbA (Nat.le_refl _) hb1) (Nat.le_refl _) hb2) (Nat.le_refl _) hb3
  exact ⟨_, rfl, hv4.mono b3.size, below_at b3 (Nat.le_refl _) hb4⟩

set_option maxHeartbeats 2000000 in
set_option maxRecDepth 100000 in
theorem lcm_zero (a b : Value) (m n : Nat) (w : World) (ha : N32 w a m) (hb : N32 w b n) (hm : (dig B32 m).length ≤ 16) (hn : (dig B32 n).length ≤ 16) (h0 : m = 0 ∨ n = 0) : Calls Try.prog 59 #[a, b] w (NatOk w 0) := by
  have hc := checkAll_any w.heap.size 2 2 _ _ (nats2 (Limbs.num ha (by omega)) (Limbs.num hb (by omega))) rfl (by omega)
  rw [chkAll2, chk2, if_pos (chk_dig (by omega)), chk_dig (by omega)] at hc
  have hbA := below_new w (.cells #[a, b] 23)
  have ha1 := ha.keep hbA
  have hb1 := hb.keep hbA
  have lm : (dig B64 m).length ≤ 8 := words_le (by omega)
  have ln : (dig B64 n).length ≤ 8 := words_le (by omega)
  have hf1 := fun w' (h : N32 w' a m) => fromNat_any a m w' h (by omega)
  have hf2 := fun w' (h : N32 w' b n) => fromNat_any b n w' h (by omega)
  have hgc := fun v u w' (h : W64 w' v m) (k : W64 w' u n) (sv : SomeS v) (su : SomeS u) => gcd_any v u m n w' h k sv su (by omega) (by omega)
  have hz : (dig B32 m).length = 0 ∨ (dig B32 n).length = 0 := by
    rcases h0 with h | h
    · left; rw [h, dig_zero]; rfl
    · right; rw [h, dig_zero]; rfl
  have HC := Lib.hid hc
  obtain ⟨A, c, rfl, _⟩ := ha
  obtain ⟨A', c', rfl, _⟩ := hb
  clear hc ha1 hb1 hf1 hf2 hgc lm ln h0
  generalize (dig B32 m).length = L at *
  generalize (dig B32 n).length = L' at *
  by_cases hL : L = 0
  · subst hL
    go_enter Try.func59, Try.ntmps59
    go_wp2_with (go_at_call 75; refine HC.out.mono ?_; rintro e w1 ⟨rfl, rfl⟩)
    go_ret2
    exact ⟨_, rfl, (natOk_nil _).mono hbA.size, hbA⟩
  · obtain rfl : L' = 0 := by omega
    have hL1 : ((L : Int) == 0) = false := by simp; omega
    go_enter Try.func59, Try.ntmps59
    go_wp2_with (go_at_call 75; refine HC.out.mono ?_; rintro e w1 ⟨rfl, rfl⟩)
    go_ret2
    exact ⟨_, rfl, (natOk_nil _).mono hbA.size, hbA⟩

set_option maxHeartbeats 2000000 in
set_option maxRecDepth 100000 in
theorem lcm_ok (a b : Value) (m n : Nat) (w : World) (ha : N32 w a m) (hb : N32 w b n) (hm : (dig B32 m).length ≤ 16) (hn : (dig B32 n).length ≤ 16) (h0 : 0 < m) (h0' : 0 < n) : Calls Try.prog 59 #[a, b] w (NatOk w (m / Nat.gcd m n * n)) := by
  have hc := checkAll_any w.heap.size 2 2 _ _ (nats2 (Limbs.num ha (by omega)) (Limbs.num hb (by omega))) rfl (by omega)
  rw [chkAll2, chk2, if_pos (chk_dig (by omega)), chk_dig (by omega)] at hc
  have hbA := below_new w (.cells #[a, b] 23)
  have ha1 := ha.keep hbA
  have hb1 := hb.keep hbA
  have lm : (dig B64 m).length ≤ 8 := words_le (by omega)
  have ln : (dig B64 n).length ≤ 8 := words_le (by omega)
  have hf1 := fun w' (h : N32 w' a m) => fromNat_any a m w' h (by omega)
  have hf2 := fun w' (h : N32 w' b n) => fromNat_any b n w' h (by omega)
  have hgc := fun v u w' (h : W64 w' v m) (k : W64 w' u n) (sv : SomeS v) (su : SomeS u) => gcd_any v u m n w' h k sv su (by omega) (by omega)
  have lg := gcd_words lm ln
  have hgp : 0 < Nat.gcd m n := Nat.gcd_pos_of_pos_left n h0
  have lq : (dig B64 (m / Nat.gcd m n)).length ≤ 8 := Nat.le_trans (dig_len_mono (Nat.div_le_self _ _)) lm
  have hdv := fun v u w' (h : W64 w' v m) (k : W64 w' u (Nat.gcd m n)) => divide_any v u m (Nat.gcd m n) w' h k hgp (by omega) (by omega) (.inl (by omega))
  have hnb : nbits (m / Nat.gcd m n * n) ≤ 8388608 := by
    have l1 := len_bits_le (n := m / Nat.gcd m n) lq
    have l2 := len_bits_le (n := n) ln
    have := nbits_mul_le (m / Nat.gcd m n) n
    omega
  have hpr := fun v u w' (h : W64 w' v (m / Nat.gcd m n)) (k : W64 w' u n) => product_at (N := 8) v u (m / Nat.gcd m n) n w' (mulAt_all (by omega) (by omega)) (by omega) h k lq ln hnb
  have hp0 := dig_len_pos32 (n := m) h0
  have hp1 := dig_len_pos32 (n := n) h0'
  have HC := Lib.hid hc
  have HA := Lib.hid ha1
  have HB := Lib.hid hb1
  have HF1 := Lib.hid hf1
  have HF2 := Lib.hid hf2
  have HG := Lib.hid hgc
  have HD := Lib.hid hdv
  have HP := Lib.hid hpr
  obtain ⟨A, c, rfl, _⟩ := ha
  obtain ⟨A', c', rfl, _⟩ := hb
  clear hc ha1 hb1 hf1 hf2 hgc hdv hpr lm ln lg lq hgp hnb h0 h0'
  generalize (dig B32 m).length = D at *
  generalize (dig B32 n).length = D' at *
  have hd0 : ((D : Int) == 0) = false := by simp; omega
  have hd1 : ((D' : Int) == 0) = false := by simp; omega
  go_enter Try.func59, Try.ntmps59
  go_wp2_with (go_at_call 75; refine HC.out.mono ?_; rintro e w1 ⟨rfl, rfl⟩)
  go_wp2_with (fail)
  refine (HF1.out _ HA.out).mono ?_
  rintro e w1 ⟨v1, rfl, hv1, hb1⟩
  go_wp2_with (fail)
  refine (HF2.out _ (HB.out.keep hb1)).mono ?_
  rintro e w2 ⟨v2, rfl, hv2, hb2⟩
  have k1 := hv1.is.keep hb2
  have k2 := hv2.is
  go_wp2_with (fail)
  refine (HG.out _ _ _ k1 k2 hv1.some hv2.some).mono ?_
  rintro e w3 ⟨v3, rfl, hv3, hb3⟩
  go_wp2_with (fail)
  refine (HD.out _ _ _ (k1.keep hb3) hv3).mono ?_
  rintro e w4 ⟨v4, u4, rfl, hv4, hu4, hb4⟩
  go_wp2_with (fail)
  refine (HP.out _ _ _ hv4 ((k2.keep hb3).keep hb4)).mono ?_
  rintro e w5 ⟨v5, rfl, hv5, hb5⟩
  go_wp2
  go_ret2
  have b4 := below_at (below_at (below_at (below_at hbA (Nat.le_refl _) hb1) (Nat.le_refl _) hb2) (Nat.le_refl _) hb3) (Nat.le_refl _) hb4
  exact ⟨_, rfl, hv5.mono b4.size, below_at b4 (Nat.le_refl _) hb5⟩

theorem N32.unique {w : World} {v : Value} {m n : Nat} (h : N32 w v m) (k : N32 w v n) : m = n := by
  obtain ⟨A, c, rfl, _, h1⟩ := h
  obtain ⟨A', c', e, _, h2⟩ := k
  injection e with e1 e2 e3
  subst e1
  have : dig B32 m = dig B32 n := by
    apply List.ext_getElem e2
    intro i hi hi'
    obtain ⟨g, off, x, e4, _, hx, hc⟩ := h1.at_ hi
    obtain ⟨g', off', y, e5, _, hy, hc'⟩ := h2.at_ hi'
    rw [e4] at e5
    simp only [Option.some.injEq, Addr.mk.injEq] at e5
    obtain ⟨rfl, rfl, _⟩ := e5
    rw [hc] at hc'
    simp only [Option.some.injEq, Value.int.injEq, true_and] at hc'
    rw [List.getElem?_eq_getElem hi] at hx
    rw [List.getElem?_eq_getElem hi'] at hy
    simp only [Option.some.injEq] at hx hy
    omega
  rw [← val_dig b32_two m, this, val_dig b32_two]
open Classical in
noncomputable def numOf32 (w : World) (v : Value) : Nat := if h : ∃ n, N32 w v n then Classical.choose h else 0
theorem numOf32_eq {w : World} {v : Value} {n : Nat} (h : N32 w v n) : numOf32 w v = n := by
  have hx : ∃ n, N32 w v n := ⟨n, h⟩
  unfold numOf32
  rw [dif_pos hx]
  exact (Classical.choose_spec hx).unique h
def N32Post (w : World) (n : Nat) (e : Ending) (w' : World) : Prop := ∃ v, e = .returned v ∧ N32 w' v n ∧ Below w.heap.size w w'

set_option maxHeartbeats 2000000 in
set_option maxRecDepth 100000 in
theorem refGcd_any (a b : Value) (m n : Nat) (w : World) (ha : N32 w a m) (hb : N32 w b n) (hm : (dig B32 m).length ≤ 500) (hn : (dig B32 n).length ≤ 500) : Calls Try.prog 60 #[a, b] w (N32Post w (Nat.gcd m n)) := by
  have hdv := fun u v x y w' (h : N32 w' u x) (k : N32 w' v y) (h1 : (dig B32 x).length ≤ 500) (h2 : (dig B32 y).length ≤ 500) (h0 : 0 < y) => refDivMod_any u v x y w' h k h1 h2 h0
  have HA := Lib.hid ha
  have HB := Lib.hid hb
  have HD := Lib.hid hdv
  clear ha hb hdv
  go_enter Try.func60, Try.ntmps60
  go_wp2
  go_loopw [0, 1] (fun u v wr => ∃ x y, N32 wr u x ∧ N32 wr v y ∧ (dig B32 x).length ≤ 500 ∧ (dig B32 y).length ≤ 500 ∧ Nat.gcd x y = Nat.gcd m n ∧ Below w.heap.size w wr) (fun _ v wr => numOf32 wr v)
  case atStart => exact ⟨m, n, HA.out, HB.out, hm, hn, rfl, Below.refl _ _⟩
  case round =>
    obtain ⟨x, y, hu, hv, hx, hy, hg, hbl⟩ := hrel
    by_cases hy0 : y = 0
    · subst hy0
      rw [Nat.gcd_zero_right] at hg
      rw [hg] at hu
      obtain ⟨A, cv, rfl, _, _⟩ := hv
      have hz : (dig B32 0).length = 0 := by rw [dig_zero]; rfl
      rw [hz]
      have HU := Lib.hid hu
      clear hu hz hg
      go_wp2
      go_ret
      exact ⟨_, rfl, HU.out, hbl⟩
    · have hyp : 0 < y := by omega
      have hlp := dig_len_pos32 (n := y) hyp
      have hv' := hv
      obtain ⟨A, cv, rfl, _, _⟩ := hv'
      obtain ⟨Ly, hLy⟩ : ∃ Ly, (dig B32 y).length = Ly := ⟨_, rfl⟩
      have hmod := Nat.mod_lt x hyp
      have hl2 : (dig B32 (x % y)).length ≤ 500 := Nat.le_trans (len_mono32 (Nat.le_of_lt hmod)) hy
      have hy5 := hy
      rw [hLy] at hlp hv hy5 ⊢
      have HU := Lib.hid hu
      have HV := Lib.hid hv
      have HG := Lib.hid hg
      clear hu hv hg hLy
      go_wp2_with (fail)
      refine (HD.out _ _ x y _ HU.out HV.out hx hy hyp).mono ?_
      rintro e w5 ⟨qv, rv, rfl, hqv, hrv, hb5⟩
      have hb7 := below_at hbl (Nat.le_refl _) hb5
      go_wp2
      go_roundw
      case rel => exact ⟨y, x % y, HV.out.keep hb5, hrv, hy, hl2, by rw [← HG.out, Nat.gcd_comm y, ← Nat.gcd_rec, Nat.gcd_comm], hb7⟩
      case measure => rw [numOf32_eq hrv, numOf32_eq HV.out]; exact hmod
end Go.Proofs.Ytaegkhdkhgemmaa

namespace Go.Proofs.Ytaegkhdkhgemmaa
open Go.RowKit Num

set_option maxHeartbeats 1000000 in
set_option maxRecDepth 100000 in
theorem divMod_bad (a b : Value) (xs ys : List Nat) (w : World) (ha : Limbs w a xs) (hb : Limbs w b ys) (h0 : chk2 xs ys ≠ 0) : Calls Try.prog 47 #[a, b] w fun e w' => e = .returned (.tuple #[.slice none 0 0, .slice none 0 0, .int .i64 (chk2 xs ys)]) ∧ Below w.heap.size w w' := by
  have hc := checkAll_any w.heap.size 2 2 _ _ (nats2 ha hb) rfl (by omega)
  rw [chkAll2] at hc
  generalize chk2 xs ys = r at *
  have hbA := below_new w (.cells #[a, b] 23)
  have hq : (r != 0) = true := by simp [h0]
  have HC := Lib.hid hc
  have H0 := Lib.hid h0
  obtain ⟨A, c, rfl, _⟩ := ha
  obtain ⟨A', c', rfl, _⟩ := hb
  clear hc h0
  generalize xs.length = L at *
  generalize ys.length = L' at *
  go_enter Try.func47, Try.ntmps47
  go_wp2_with (go_at_call 75; refine HC.out.mono ?_; rintro e w1 ⟨rfl, rfl⟩)
  go_ret3
  exact ⟨rfl, hbA⟩

set_option maxHeartbeats 1000000 in
set_option maxRecDepth 100000 in
theorem divMod_zero (a b : Value) (m n : Nat) (w : World) (ha : N32 w a m) (hb : N32 w b n) (hm : (dig B32 m).length ≤ 262144) (hn : (dig B32 n).length ≤ 262144) (h0 : n = 0) : Calls Try.prog 47 #[a, b] w fun e w' => e = .returned (.tuple #[.slice none 0 0, .slice none 0 0, .int .i64 4]) ∧ Below w.heap.size w w' := by
  have hc := checkAll_any w.heap.size 2 2 _ _ (nats2 (Limbs.num ha (by omega)) (Limbs.num hb (by omega))) rfl (by omega)
  rw [chkAll2, chk2, if_pos (chk_dig hm), chk_dig hn] at hc
  have hbA := below_new w (.cells #[a, b] 23)
  have HC := Lib.hid hc
  have hz : (dig B32 n).length = 0 := by rw [h0, dig_zero]; rfl
  obtain ⟨A, c, rfl, _⟩ := ha
  obtain ⟨A', c', rfl, _⟩ := hb
  clear hc h0
  rw [hz] at HC hbA ⊢
  clear hz hn
  generalize (dig B32 m).length = L at *
  go_enter Try.func47, Try.ntmps47
  go_wp2_with (go_at_call 75; refine HC.out.mono ?_; rintro e w1 ⟨rfl, rfl⟩)
  go_ret3
  exact ⟨rfl, hbA⟩

/-- Quotient and remainder come back, both of the call's own. -/
def DivNat (w : World) (q r : Nat) (e : Ending) (w' : World) : Prop := ∃ v u, e = .returned (.tuple #[v, u, .int .i64 0]) ∧ OwnL w.heap.size w' v q ∧ OwnL w.heap.size w' u r ∧ Below w.heap.size w w'

set_option maxHeartbeats 2000000 in
set_option maxRecDepth 100000 in
theorem divMod_ok (a b : Value) (m n : Nat) (w : World) (ha : N32 w a m) (hb : N32 w b n) (hm : (dig B32 m).length ≤ 262144) (hn : (dig B32 n).length ≤ 262144) (h0 : 0 < n) (hs : (dig B64 n).length < 200 ∨ (dig B64 m).length < 199 + (dig B64 n).length) : Calls Try.prog 47 #[a, b] w (DivNat w (m / n) (m % n)) := by
  have hc := checkAll_any w.heap.size 2 2 _ _ (nats2 (Limbs.num ha (by omega)) (Limbs.num hb (by omega))) rfl (by omega)
  rw [chkAll2, chk2, if_pos (chk_dig hm), chk_dig hn] at hc
  have hbA := below_new w (.cells #[a, b] 23)
  have HC := Lib.hid hc
  have ha1 := ha.keep hbA
  have hb1 := hb.keep hbA
  have hf1 := fun w' (h : N32 w' a m) => fromNat_any a m w' h (by omega)
  have hf2 := fun w' (h : N32 w' b n) => fromNat_any b n w' h (by omega)
  have lm := words_le (n := m) (K := 131072) hm
  have ln := words_le (n := n) (K := 131072) hn
  have hdv := fun v u w' (h : W64 w' v m) (k : W64 w' u n) => divide_any v u m n w' h k h0 (by omega) (by omega) hs
  have hlq : (dig B64 (m / n)).length ≤ 131072 := Nat.le_trans (lenm (Nat.div_le_self _ _)) lm
  have hlr : (dig B64 (m % n)).length ≤ 131072 := Nat.le_trans (lenm (Nat.mod_le _ _)) lm
  have hn1 := fun v w' (h : W64 w' v (m / n)) => nat_any v _ w' h (by omega)
  have hn2 := fun v w' (h : W64 w' v (m % n)) => nat_any v _ w' h (by omega)
  have hpos : 0 < (dig B32 n).length := by
    rcases Nat.eq_zero_or_pos (dig B32 n).length with h | h
    · have := (dig_nil_iff b32_two).1 (List.eq_nil_of_length_eq_zero h); omega
    · exact h
  have HA1 := Lib.hid ha1
  have HB1 := Lib.hid hb1
  have HF1 := Lib.hid hf1
  have HF2 := Lib.hid hf2
  have HDV := Lib.hid hdv
  have HN1 := Lib.hid hn1
  have HN2 := Lib.hid hn2
  clear ha1 hb1 hf1 hf2 hdv hn1 hn2
  obtain ⟨A, c, rfl, _⟩ := ha
  obtain ⟨A', c', rfl, _⟩ := hb
  clear hc lm ln hlq hlr hs
  generalize (dig B32 m).length = L at *
  generalize (dig B32 n).length = L' at *
  go_enter Try.func47, Try.ntmps47
  go_wp2_with (fail)
  refine (HC.out).mono ?_
  rintro e w1 ⟨rfl, rfl⟩
  go_wp2_with (fail)
  refine (HF1.out _ HA1.out).mono ?_
  rintro e w2 ⟨v1, rfl, hv1, hb2⟩
  have b2 := below_at hbA (Nat.le_refl _) hb2
  have kb_2 := HB1.out.keep hb2
  have k1_2 := hv1.is
  go_wp2_with (fail)
  refine (HF2.out _ kb_2).mono ?_
  rintro e w3 ⟨v2, rfl, hv2, hb3⟩
  have b3 := below_at b2 (Nat.le_refl _) hb3
  have k1_3 := k1_2.keep hb3
  have k2_3 := hv2.is
  go_wp2_with (fail)
  refine (HDV.out _ _ _ k1_3 k2_3).mono ?_
  rintro e w4 ⟨q, r, rfl, hq, hr, hb4⟩
  have b4 := below_at b3 (Nat.le_refl _) hb4
  have kq_4 := hq
  have kr_4 := hr
  go_wp2_with (fail)
  refine (HN1.out _ _ kq_4).mono ?_
  rintro e w5 ⟨v4, rfl, hv4, hb5⟩
  have b5 := below_at b4 (Nat.le_refl _) hb5
  have kr_5 := kr_4.keep hb5
  go_wp2_with (fail)
  refine (HN2.out _ _ kr_5).mono ?_
  rintro e w6 ⟨v5, rfl, hv5, hb6⟩
  have b6 := below_at b5 (Nat.le_refl _) hb6
  go_wp2
  go_ret3
  exact ⟨_, _, rfl, (hv4.keep hb6).mono b4.size, hv5.mono b5.size, b6⟩

end Go.Proofs.Ytaegkhdkhgemmaa

namespace Go.Proofs.Ytaegkhdkhgemmaa
open Go.RowKit Num

/-- The length in a slot: for a loop's measure. -/
def lenOf : Value → Nat | .slice _ n _ => n | _ => 0

theorem limbs_cut {w : World} {A : Option Addr} {c : Nat} {xs : List Nat} (h : Limbs w (.slice A xs.length c) xs) : ∀ i, 0 < xs.length → i < xs.length → ∃ g off v, A = some ⟨g, off, none⟩ ∧ g < w.heap.size ∧ xs[i]? = some v ∧ w.cell? ⟨g, off + i, none⟩ = some (.int .u32 (v : Int)) := by
  intro i _ hi
  obtain ⟨A', c', e, _, _, hn⟩ := h
  injection e with e1 e2 e3
  subst e1
  exact hn.at_ hi

set_option maxHeartbeats 1000000 in
set_option maxRecDepth 100000 in
/-- whole: cut, then without the zeros at the end. -/
theorem whole_any (A : Option Addr) (c L n : Nat) (xs : List Nat) (w : World) (hA : Nums .u32 w A xs) (hlow : Low B32 xs) (hL : L = xs.length) (hc : L ≤ c) (hnil : A = none → c = 0) (hn : n ≤ 1000) :
    Calls Try.prog 69 #[.slice A L c, .int .i64 (n : Int)] w fun e w' => ∃ v, e = .returned v ∧ N32 w' v (val B32 (xs.take n)) ∧ Below w.heap.size w w' := by
  have hcut := cut_any A c L n xs w hA hL hc hnil hn
  have hlow' := hlow.take n
  have hlen : (xs.take n).length ≤ 1000 := by rw [List.length_take]; omega
  generalize xs.take n = ys at *
  obtain ⟨r, hr⟩ : ∃ r, val B32 ys = r := ⟨_, rfl⟩
  have fin : ∀ k, k ≤ ys.length → ZeroFrom ys k → (∀ v, 0 < k → ys[k - 1]? = some v → v ≠ 0) → ys.take k = dig B32 r := fun k hk hz hn => by rw [← hr]; exact trim_val b32_two hlow' hk hz hn
  have FIN := Lib.hid fin
  have HC := Lib.hid hcut
  have HR := Lib.hid hr
  rw [hr]
  clear hcut hA hL hnil fin hr
  go_enter Try.func69, Try.ntmps69
  go_wp2_with (go_at_call 26
               refine HC.out.mono ?_
               rintro e w1 ⟨v1, rfl, hv1, hb1⟩
               obtain ⟨A1, c1, he1, hc1, hn1⟩ := own_reads hv1
               have HV1 := Lib.hid hv1
               clear hv1
               subst he1)
  go_loop [0] (fun t => ∃ k : Nat, k ≤ ys.length ∧ t = .slice A1 k c1 ∧ ZeroFrom ys k) (fun t => lenOf t)
  case atStart => exact ⟨ys.length, Nat.le_refl _, rfl, fun i v hv hi => by have := (List.getElem?_eq_some_iff.1 hv).1; omega⟩
  case round =>
    obtain ⟨k, hk, rfl, hz⟩ := hrel
    have hex : (∃ v, 0 < k ∧ ys[k - 1]? = some v ∧ v = 0) ∨ (∀ v, 0 < k → ys[k - 1]? = some v → v ≠ 0) := by
      by_cases hh : ∃ v, 0 < k ∧ ys[k - 1]? = some v ∧ v = 0
      · exact .inl hh
      · exact .inr fun v h1 h2 h3 => hh ⟨v, h1, h2, h3⟩
    rcases hex with ⟨v, hp, hv, hv0⟩ | hfin
    · obtain ⟨g, off, v', rfl, hg, hv', hc2⟩ := hn1.at_ (i := k - 1) (by omega)
      have e : v' = v := by rw [hv] at hv'; injection hv' with hv'; exact hv'.symm
      subst e
      have hq : ((v' : Int) == 0) = true := by simp [hv0]
      have HV := Lib.hid hv
      have H0 := Lib.hid hv0
      clear hv hv' hv0 hn1
      go_wp2
      go_round
      case rel =>
        refine ⟨k - 1, by omega, rfl, fun i u hu hi => ?_⟩
        by_cases e : i = k - 1
        · have := HV.out; rw [e] at hu; rw [hu] at this; injection this with this; rw [this]; exact H0.out
        · exact hz i u hu (by omega)
      case measure => simp [lenOf]; omega
    · have htk := FIN.out k hk hz hfin
      have hlen2 : (dig B32 r).length = k := by rw [← htk, List.length_take]; omega
      have hnum : Nums .u32 w1 A1 (dig B32 r) := by rw [← htk]; exact hn1.take k
      have hres : N32 w1 (.slice A1 k c1) r := ⟨A1, c1, by rw [hlen2], by rw [hlen2]; omega, hnum⟩
      have HRES := Lib.hid hres
      clear htk hlen2 hnum hres
      by_cases hp : 0 < k
      · obtain ⟨g, off, v, rfl, hg, hv, hc2⟩ := hn1.at_ (i := k - 1) (by omega)
        have hq : ((v : Int) == 0) = false := by have := hfin v hp hv; simp; omega
        have HV := Lib.hid hv
        clear hv hn1 hfin
        go_wp2
        go_ret
        exact ⟨_, rfl, HRES.out, hb1⟩
      · clear hn1 hfin
        go_wp2
        go_ret
        exact ⟨_, rfl, HRES.out, hb1⟩
end Go.Proofs.Ytaegkhdkhgemmaa
