import Derived.Test.YtaegkhdkhgemmaaAddsW
import Derived.Test.YtaegkhdkhgemmaaRefMul
namespace Go.Proofs.Ytaegkhdkhgemmaa
open Go.RowKit Num

theorem prod_len {m n K J : Nat} (hm : (dig B32 m).length ≤ K) (hn : (dig B32 n).length ≤ J) : (dig B32 (m * n)).length ≤ K + J := by
  have h1 := Nat.lt_of_lt_of_le (dig_len_lt b32_two (n := m)) (Nat.pow_le_pow_right b32_pos hm)
  have h2 := Nat.lt_of_lt_of_le (dig_len_lt b32_two (n := n)) (Nat.pow_le_pow_right b32_pos hn)
  refine dig_len_le b32_two ?_
  rw [Nat.pow_add]
  exact Nat.mul_lt_mul_of_lt_of_lt h1 h2
theorem refMul_call (a b : Value) (m n : Nat) (w : World) (ha : N32 w a m) (hb : N32 w b n) (hm : (dig B32 m).length ≤ 1000) (hn : (dig B32 n).length ≤ 1000) : Calls Try.prog 46 #[a, b] w (LsPost w (dig B32 (m * n))) := by
  obtain ⟨A, c, rfl, _, hA⟩ := ha
  obtain ⟨A', c', rfl, _, hB⟩ := hb
  have := refMul_any A A' c c' _ _ _ _ w hA hB (low_dig b32_two m) (low_dig b32_two n) rfl rfl (by omega) (by omega)
  rw [val_dig b32_two, val_dig b32_two] at this
  exact this

set_option maxHeartbeats 2000000 in
set_option maxRecDepth 100000 in
theorem muls_bad (A A' : Option Addr) (c c' L L' : Nat) (xs ys : List Nat) (w : World) (hA : Nums .u32 w A xs) (hA' : Nums .u32 w A' ys) (hL : L = xs.length) (hL' : L' = ys.length) (hc : L ≤ c) (hc' : L' ≤ c') (hnil : A = none → c = 0) (hnil' : A' = none → c' = 0)
    (hbad : chk2 (xs.take 160) (ys.take 160) ≠ 0) : Calls Try.prog 5 #[.slice A L c, .slice A' L' c'] w (LivesPost w) := by
  have hcut := fun w' (h : Below w.heap.size w w') => cut_any A c L 160 xs w' (hA.keep h) hL hc hnil (by omega)
  have hcut' := fun w' (h : Below w.heap.size w w') => cut_any A' c' L' 160 ys w' (hA'.keep h) hL' hc' hnil' (by omega)
  have l1 : (xs.take 160).length ≤ 160 := by rw [List.length_take]; omega
  have l2 : (ys.take 160).length ≤ 160 := by rw [List.length_take]; omega
  generalize xs.take 160 = us at *
  generalize ys.take 160 = vs at *
  have hlu : ∀ B w' a, OwnLs B w' a us → Limbs w' a us := fun B w' a h => h.limbs (by omega)
  have hlv : ∀ B w' a, OwnLs B w' a vs → Limbs w' a vs := fun B w' a h => h.limbs (by omega)
  have h45 := fun a b w h k => mul_bad a b us vs w h k hbad
  have h40 := fun a b w h k => both_any a b us vs w h k
  generalize chk2 us vs = r at *
  have hq : (r != 0) = true := by simp [hbad]
  have hq0 : (r == r) = true := by simp
  have h41 := fun b w => is_err b r w hbad
  have HC := Lib.hid hcut
  have HC' := Lib.hid hcut'
  have HLU := Lib.hid hlu
  have HLV := Lib.hid hlv
  have H45 := Lib.hid h45
  have H40 := Lib.hid h40
  have H41 := Lib.hid h41
  have HB := Lib.hid hbad
  clear hcut hcut' hlu hlv h45 h40 h41 hbad hA hA' hL hL' hnil hnil' l1 l2
  go_enter Try.func5, Try.ntmps5
  go_wp2_with (fail)
  refine (HC.out _ (Below.refl _ _)).mono ?_
  rintro e w1 ⟨va, rfl, hva, hb1⟩
  have ka := HLU.out _ _ _ hva
  go_wp2_with (fail)
  refine (HC'.out _ hb1).mono ?_
  rintro e w2 ⟨vb, rfl, hvb, hb2⟩
  have kb := HLV.out _ _ _ hvb
  have b2 := below_at hb1 (Nat.le_refl _) hb2
  have ka2 := ka.keep hb2
  go_wp2_with (first
    | (go_at_call 45; refine (H45.out _ _ _ ka2 kb).mono ?_; rintro e w3 ⟨rfl, hb3⟩
       have b3 := below_at b2 (Nat.le_refl _) hb3
       have ka3 := ka2.keep hb3
       have kb3 := kb.keep hb3)
    | (go_at_call 40; refine (H40.out _ _ _ ka3 kb3).mono ?_; rintro e w6 ⟨rfl, rfl⟩))
  refine (H41.out _ _).mono ?_
  rintro e w8 ⟨rfl, hb8⟩
  have b8 := below_at b3 (Nat.le_refl _) hb8
  go_wp2_with (fail)
  refine (lives_any _).mono ?_
  rintro e w9 ⟨rfl, hb9⟩
  have b9 := below_at b8 (Nat.le_refl _) hb9
  go_wp2
  go_ret
  exact ⟨rfl, b9⟩

set_option maxHeartbeats 2000000 in
set_option maxRecDepth 100000 in
theorem muls_ok (A A' : Option Addr) (c c' L L' m n : Nat) (xs ys : List Nat) (w : World) (hA : Nums .u32 w A xs) (hA' : Nums .u32 w A' ys) (hL : L = xs.length) (hL' : L' = ys.length) (hc : L ≤ c) (hc' : L' ≤ c') (hnil : A = none → c = 0) (hnil' : A' = none → c' = 0)
    (hm : xs.take 160 = dig B32 m) (hn : ys.take 160 = dig B32 n) : Calls Try.prog 5 #[.slice A L c, .slice A' L' c'] w (LivesPost w) := by
  have hcut := fun w' (h : Below w.heap.size w w') => cut_any A c L 160 xs w' (hA.keep h) hL hc hnil (by omega)
  have hcut' := fun w' (h : Below w.heap.size w w') => cut_any A' c' L' 160 ys w' (hA'.keep h) hL' hc' hnil' (by omega)
  have l1 : (xs.take 160).length ≤ 160 := by rw [List.length_take]; omega
  have l2 : (ys.take 160).length ≤ 160 := by rw [List.length_take]; omega
  rw [hm] at hcut l1
  rw [hn] at hcut' l2
  have ls : (dig B32 (m * n)).length ≤ 320 := prod_len l1 l2
  have hp : nbits (m * n) ≤ 8388608 := Nat.le_trans (bits_of_len ls) (by omega)
  have w1 := words_le (n := m) (K := 500) (by omega)
  have w2 := words_le (n := n) (K := 500) (by omega)
  have hat : MulAt m n := mulAt_all (by omega) (by omega)
  have hlu : ∀ B w' a, OwnLs B w' a (dig B32 m) → Limbs w' a (dig B32 m) := fun B w' a h => h.limbs (by omega)
  have hlv : ∀ B w' a, OwnLs B w' a (dig B32 n) → Limbs w' a (dig B32 n) := fun B w' a h => h.limbs (by omega)
  have h45 := fun a b w (h : Limbs w a (dig B32 m)) (k : Limbs w b (dig B32 n)) => mul_at (N := 500) a b m n w hat (by omega) h.is k.is (by omega) (by omega) (by omega) (by omega) hp
  have h40 := fun a b w h k => both_any a b (dig B32 m) (dig B32 n) w h k
  have h46 := fun a b w (h : Limbs w a (dig B32 m)) (k : Limbs w b (dig B32 n)) => refMul_call a b m n w h.is k.is (by omega) (by omega)
  have h41b : ∀ B a b w, N32 w a (m * n) → OwnLs B w b (dig B32 (m * n)) → Calls Try.prog 41 #[a, .int .i64 0, b, .int .i64 0] w (LivesPost w) := fun B a b w h k => is_ok a b (m * n) w h (k.limbs (by omega)) (by omega)
  rw [chk2, if_pos (chk_dig (by omega)), chk_dig (by omega)] at h40
  have HC := Lib.hid hcut
  have HC' := Lib.hid hcut'
  have HLU := Lib.hid hlu
  have HLV := Lib.hid hlv
  have H45 := Lib.hid h45
  have H40 := Lib.hid h40
  have H41 := Lib.hid h41b
  have H46 := Lib.hid h46
  clear hcut hcut' hlu hlv h45 h40 h41b h46 hA hA' hL hL' hnil hnil' l1 l2 hp ls hm hn hat w1 w2
  go_enter Try.func5, Try.ntmps5
  go_wp2_with (fail)
  refine (HC.out _ (Below.refl _ _)).mono ?_
  rintro e w1 ⟨va, rfl, hva, hb1⟩
  have ka := HLU.out _ _ _ hva
  go_wp2_with (fail)
  refine (HC'.out _ hb1).mono ?_
  rintro e w2 ⟨vb, rfl, hvb, hb2⟩
  have kb := HLV.out _ _ _ hvb
  have b2 := below_at hb1 (Nat.le_refl _) hb2
  have ka2 := ka.keep hb2
  go_wp2_with (first
    | (go_at_call 45; refine (H45.out _ _ _ ka2 kb).mono ?_; rintro e w3 ⟨vs, rfl, hvs, hb3⟩
       have b3 := below_at b2 (Nat.le_refl _) hb3
       have ka3 := ka2.keep hb3
       have kb3 := kb.keep hb3)
    | (go_at_call 40; refine (H40.out _ _ _ ka3 kb3).mono ?_; rintro e w6 ⟨rfl, rfl⟩)
    | (go_at_call 46; refine (H46.out _ _ _ ka3 kb3).mono ?_; rintro e w9 ⟨v9, rfl, hv9, hb9⟩
       have b9 := below_at b3 (Nat.le_refl _) hb9
       have ks9 := hvs.is.keep hb9))
  refine (H41.out _ _ _ _ ks9 hv9).mono ?_
  rintro e w10 ⟨rfl, hb10⟩
  have b10 := below_at b9 (Nat.le_refl _) hb10
  go_wp2_with (fail)
  refine (lives_any _).mono ?_
  rintro e w11 ⟨rfl, hb11⟩
  have b11 := below_at b10 (Nat.le_refl _) hb11
  go_wp2
  go_ret
  exact ⟨rfl, b11⟩

/-- The law NatMuls, for whatever limbs. -/
theorem muls_walk (A A' : Option Addr) (c c' L L' : Nat) (xs ys : List Nat) (w : World) (hA : Nums .u32 w A xs) (hA' : Nums .u32 w A' ys) (hlow : Low B32 xs) (hlow' : Low B32 ys) (hL : L = xs.length) (hL' : L' = ys.length) (hc : L ≤ c) (hc' : L' ≤ c') (hnil : A = none → c = 0) (hnil' : A' = none → c' = 0) :
    Calls Try.prog 5 #[.slice A L c, .slice A' L' c'] w (LivesPost w) := by
  by_cases h0 : chk2 (xs.take 160) (ys.take 160) = 0
  · have h1 : chk (xs.take 160) = 0 ∧ chk (ys.take 160) = 0 := by
      unfold chk2 at h0
      split at h0
      · rename_i h; exact ⟨h, h0⟩
      · rename_i h; exact absurd h0 h
    have hm := chk_zero (hlow.take 160) h1.1
    have hn := chk_zero (hlow'.take 160) h1.2
    exact muls_ok A A' c c' L L' _ _ xs ys w hA hA' hL hL' hc hc' hnil hnil' hm hn
  · exact muls_bad A A' c c' L L' xs ys w hA hA' hL hL' hc hc' hnil hnil' h0
end Go.Proofs.Ytaegkhdkhgemmaa
