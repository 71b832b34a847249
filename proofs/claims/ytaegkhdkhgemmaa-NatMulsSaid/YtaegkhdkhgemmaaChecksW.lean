import Derived.Test.YtaegkhdkhgemmaaRefOf
namespace Go.Proofs.Ytaegkhdkhgemmaa
open Go.RowKit Num

theorem check_l (a : Value) (xs : List Nat) (w : World) (h : Limbs w a xs) : Calls Try.prog 31 #[a] w fun e w' => e = .returned (.int .i64 (chk xs)) ∧ w = w' := by
  obtain ⟨A, c, rfl, _, hl, hA⟩ := h
  exact check_any A c _ xs w hA rfl hl
theorem refCheck_l (a : Value) (xs : List Nat) (w : World) (h : Limbs w a xs) : Calls Try.prog 27 #[a] w fun e w' => e = .returned (.int .i64 (chk xs)) ∧ w = w' := by
  obtain ⟨A, c, rfl, _, hl, hA⟩ := h
  exact refCheck_any A c _ xs w hA rfl hl
/-- Limbs that Check takes are the digits of a number. -/
theorem chk_zero {xs : List Nat} (hlow : Low B32 xs) (h : chk xs = 0) : xs = dig B32 (val B32 xs) := by
  refine (dig_val b32_two hlow ((neat_iff xs).2 fun hl h0 => ?_)).symm
  unfold chk at h
  split at h
  · cases h
  · rw [if_pos ⟨hl, by rw [List.getD_eq_getElem?_getD, List.getElem?_eq_getElem (by omega)]; exact h0⟩] at h
    cases h
theorem len_u64 {v : Nat} (hv : v < B64) : (dig B32 v).length ≤ 2 := by
  have e : B32 ^ 2 = B64 := by decide
  exact dig_len_le b32_two (by omega)
theorem same_of (a b : Value) (v : Nat) (w : World) (ha : N32 w a v) (hb : Limbs w b (dig B32 v)) (hv : v < B64) : Calls Try.prog 32 #[a, b] w fun e w' => e = .returned (.bool true) ∧ Below w.heap.size w w' := by
  have hl := len_u64 hv
  have := same_nums a b _ _ w (Limbs.num ha (by omega)) hb
  rw [decide_eq_true rfl] at this
  exact this

set_option maxHeartbeats 2000000 in
set_option maxRecDepth 100000 in
theorem checks_bad (A : Option Addr) (c L v : Nat) (xs : List Nat) (w : World) (hA : Nums .u32 w A xs) (hL : L = xs.length) (hc : L ≤ c) (hnil : A = none → c = 0) (hv : v < B64)
    (hbad : chk (xs.take 40) ≠ 0) : Calls Try.prog 3 #[.slice A L c, .int .u64 (v : Int)] w (LivesPost w) := by
  have hcut := cut_any A c L 40 xs w hA hL hc hnil (by omega)
  have hlen : (xs.take 40).length ≤ 40 := by rw [List.length_take]; omega
  generalize xs.take 40 = ys at *
  have hlim : ∀ B w' a, OwnLs B w' a ys → Limbs w' a ys := fun B w' a h => h.limbs (by omega)
  have hof := fun w => of_any v hv w
  have hrof := fun w => refOf_any v hv w
  have hlim2 : ∀ B w' a, OwnLs B w' a (dig B32 v) → Limbs w' a (dig B32 v) := fun B w' a h => h.limbs (Nat.le_trans (len_u64 hv) (by omega))
  have hsame := fun a b w h1 h2 => same_of a b v w h1 h2 hv
  have hb28 := fun a w h => bits_bad a ys w h hbad
  have hb29 := fun a w h => uint64_bad a ys w h hbad
  have h27 := fun a w h => refCheck_l a ys w h
  have h31 := fun a w h => check_l a ys w h
  obtain ⟨r, hr⟩ : ∃ r, chk ys = r := ⟨_, rfl⟩
  rw [hr] at hbad hb28 hb29 h27 h31
  have hq : (r != 0) = true := by simp [hbad]
  have hq0 : (r == r) = true := by simp
  have hq1 : (r != r) = false := by simp
  have HCUT := Lib.hid hcut
  have HLIM := Lib.hid hlim
  have HLIM2 := Lib.hid hlim2
  have HOF := Lib.hid hof
  have HROF := Lib.hid hrof
  have HSAME := Lib.hid hsame
  have H28 := Lib.hid hb28
  have H29 := Lib.hid hb29
  have H27 := Lib.hid h27
  have H31 := Lib.hid h31
  have HR := Lib.hid hr
  have HB := Lib.hid hbad
  clear hcut hlim hlim2 hof hrof hsame hb28 hb29 h27 h31 hr hbad hA hL hlen hnil hv
  go_enter Try.func3, Try.ntmps3
  go_wp2_with (first
    | (go_at_call 26; refine HCUT.out.mono ?_; rintro e w1 ⟨va, rfl, hva, hb1⟩
       have ka := HLIM.out _ _ _ hva)
    | (go_at_call 27; refine (H27.out _ _ ka).mono ?_; rintro e w2 ⟨rfl, rfl⟩)
    | (go_at_call 28; refine (H28.out _ _ ka).mono ?_; rintro e w2 ⟨rfl, hb2⟩
       have b2 := below_at hb1 (Nat.le_refl _) hb2
       have ka2 := ka.keep hb2)
    | (go_at_call 29; refine (H29.out _ _ ka2).mono ?_; rintro e w3 ⟨rfl, hb3⟩
       have b3 := below_at b2 (Nat.le_refl _) hb3
       have ka3 := ka2.keep hb3)
    | (go_at_call 30; refine (lives_any _).mono ?_; rintro e w4 ⟨rfl, hb4⟩
       have b4 := below_at b3 (Nat.le_refl _) hb4
       have ka4 := ka3.keep hb4)
    | (go_at_call 31; refine (H31.out _ _ ka4).mono ?_; rintro e w5 ⟨rfl, rfl⟩)
    | (go_at_call 33; refine (HOF.out _).mono ?_; rintro e w6 ⟨v6, rfl, hv6, hb6⟩
       have b6 := below_at b4 (Nat.le_refl _) hb6)
    | (go_at_call 34; refine (HROF.out _).mono ?_; rintro e w7 ⟨v7, rfl, hv7, hb7⟩
       have b7 := below_at b6 (Nat.le_refl _) hb7
       have k6 := hv6.is.keep hb7
       have k7 := HLIM2.out _ _ _ hv7)
    | (go_at_call 32; refine (HSAME.out _ _ _ k6 k7).mono ?_; rintro e w8 ⟨rfl, hb8⟩
       have b8 := below_at b7 (Nat.le_refl _) hb8))
  go_ret
  exact ⟨rfl, b8⟩
set_option maxHeartbeats 2000000 in
set_option maxRecDepth 100000 in
theorem checks_ok2 (A : Option Addr) (c L v n : Nat) (xs : List Nat) (w : World) (hA : Nums .u32 w A xs) (hL : L = xs.length) (hc : L ≤ c) (hnil : A = none → c = 0) (hv : v < B64)
    (hn : xs.take 40 = dig B32 n) (h2 : (dig B32 n).length ≤ 2) : Calls Try.prog 3 #[.slice A L c, .int .u64 (v : Int)] w (LivesPost w) := by
  have hcut := cut_any A c L 40 xs w hA hL hc hnil (by omega)
  have hlen : (xs.take 40).length ≤ 40 := by rw [List.length_take]; omega
  rw [hn] at hcut hlen
  have hlim : ∀ B w' a, OwnLs B w' a (dig B32 n) → Limbs w' a (dig B32 n) := fun B w' a h => h.limbs (by omega)
  have hof := fun w => of_any v hv w
  have hrof := fun w => refOf_any v hv w
  have hlim2 : ∀ B w' a, OwnLs B w' a (dig B32 v) → Limbs w' a (dig B32 v) := fun B w' a h => h.limbs (Nat.le_trans (len_u64 hv) (by omega))
  have hsame := fun a b w h1 h2 => same_of a b v w h1 h2 hv
  have hb28 := fun a w (h : Limbs w a (dig B32 n)) => bits_ok a n w h.is (by omega)
  have hb29 := fun a w (h : Limbs w a (dig B32 n)) => uint64_ok a n w h.is h2
  have h27 := fun a w h => refCheck_l a (dig B32 n) w h
  have h31 := fun a w h => check_l a (dig B32 n) w h
  have h35 := fun a w (h : Limbs w a (dig B32 n)) => small_ok a n w h.is h2
  have h36 := fun a w (h : Limbs w a (dig B32 n)) => refBits_any a n w h.is (by omega)
  rw [chk_dig (n := n) (by omega)] at h27 h31
  generalize nbits n = r at *
  have HCUT := Lib.hid hcut
  have HLIM := Lib.hid hlim
  have HLIM2 := Lib.hid hlim2
  have HOF := Lib.hid hof
  have HROF := Lib.hid hrof
  have HSAME := Lib.hid hsame
  have H28 := Lib.hid hb28
  have H29 := Lib.hid hb29
  have H27 := Lib.hid h27
  have H31 := Lib.hid h31
  have H35 := Lib.hid h35
  have H36 := Lib.hid h36
  clear hcut hlim hlim2 hof hrof hsame hb28 hb29 h27 h31 h35 h36 hA hL hlen hnil hv hn h2
  go_enter Try.func3, Try.ntmps3
  go_wp2_with (first
    | (go_at_call 26; refine HCUT.out.mono ?_; rintro e w1 ⟨va, rfl, hva, hb1⟩
       have ka := HLIM.out _ _ _ hva)
    | (go_at_call 27; refine (H27.out _ _ ka).mono ?_; rintro e w2 ⟨rfl, rfl⟩)
    | (go_at_call 28; refine (H28.out _ _ ka).mono ?_; rintro e w2 ⟨rfl, hb2⟩
       have b2 := below_at hb1 (Nat.le_refl _) hb2
       have ka2 := ka.keep hb2)
    | (go_at_call 29; refine (H29.out _ _ ka2).mono ?_; rintro e w3 ⟨rfl, hb3⟩
       have b3 := below_at b2 (Nat.le_refl _) hb3
       have ka3 := ka2.keep hb3)
    | (go_at_call 30; refine (lives_any _).mono ?_; rintro e w4 ⟨rfl, hb4⟩
       have b4 := below_at b3 (Nat.le_refl _) hb4
       have ka4 := ka3.keep hb4)
    | (go_at_call 31; refine (H31.out _ _ ka4).mono ?_; rintro e w5 ⟨rfl, rfl⟩)
    | (go_at_call 33; refine (HOF.out _).mono ?_; rintro e w6 ⟨v6, rfl, hv6, hb6⟩
       have b6 := below_at b4 (Nat.le_refl _) hb6
       have ka6 := ka4.keep hb6)
    | (go_at_call 34; refine (HROF.out _).mono ?_; rintro e w7 ⟨v7, rfl, hv7, hb7⟩
       have b7 := below_at b6 (Nat.le_refl _) hb7
       have k6 := hv6.is.keep hb7
       have k7 := HLIM2.out _ _ _ hv7
       have ka7 := ka6.keep hb7)
    | (go_at_call 32; refine (HSAME.out _ _ _ k6 k7).mono ?_; rintro e w8 ⟨rfl, hb8⟩
       have b8 := below_at b7 (Nat.le_refl _) hb8
       have ka8 := ka7.keep hb8)
    | (go_at_call 35; refine (H35.out _ _ ka8).mono ?_; rintro e w9 ⟨rfl, hb9⟩
       have b9 := below_at b8 (Nat.le_refl _) hb9
       have ka9 := ka8.keep hb9)
    | (go_at_call 36; refine (H36.out _ _ ka9).mono ?_; rintro e w10 ⟨rfl, rfl⟩))
  go_ret
  exact ⟨rfl, b9⟩

set_option maxHeartbeats 2000000 in
set_option maxRecDepth 100000 in
theorem checks_ok3 (A : Option Addr) (c L v n : Nat) (xs : List Nat) (w : World) (hA : Nums .u32 w A xs) (hL : L = xs.length) (hc : L ≤ c) (hnil : A = none → c = 0) (hv : v < B64)
    (hn : xs.take 40 = dig B32 n) (h2 : 2 < (dig B32 n).length) : Calls Try.prog 3 #[.slice A L c, .int .u64 (v : Int)] w (LivesPost w) := by
  have hcut := cut_any A c L 40 xs w hA hL hc hnil (by omega)
  have hlen : (xs.take 40).length ≤ 40 := by rw [List.length_take]; omega
  rw [hn] at hcut hlen
  have hlim : ∀ B w' a, OwnLs B w' a (dig B32 n) → Limbs w' a (dig B32 n) := fun B w' a h => h.limbs (by omega)
  have hof := fun w => of_any v hv w
  have hrof := fun w => refOf_any v hv w
  have hlim2 : ∀ B w' a, OwnLs B w' a (dig B32 v) → Limbs w' a (dig B32 v) := fun B w' a h => h.limbs (Nat.le_trans (len_u64 hv) (by omega))
  have hsame := fun a b w h1 h2 => same_of a b v w h1 h2 hv
  have hb28 := fun a w (h : Limbs w a (dig B32 n)) => bits_ok a n w h.is (by omega)
  have hb29 := fun a w (h : Limbs w a (dig B32 n)) => uint64_range a n w h.is (by omega) h2
  have h27 := fun a w h => refCheck_l a (dig B32 n) w h
  have h31 := fun a w h => check_l a (dig B32 n) w h
  have h35 := fun a w (h : Limbs w a (dig B32 n)) => small_no a n w h.is (by omega) h2
  have h36 := fun a w (h : Limbs w a (dig B32 n)) => refBits_any a n w h.is (by omega)
  rw [chk_dig (n := n) (by omega)] at h27 h31
  generalize nbits n = r at *
  have HCUT := Lib.hid hcut
  have HLIM := Lib.hid hlim
  have HLIM2 := Lib.hid hlim2
  have HOF := Lib.hid hof
  have HROF := Lib.hid hrof
  have HSAME := Lib.hid hsame
  have H28 := Lib.hid hb28
  have H29 := Lib.hid hb29
  have H27 := Lib.hid h27
  have H31 := Lib.hid h31
  have H35 := Lib.hid h35
  have H36 := Lib.hid h36
  clear hcut hlim hlim2 hof hrof hsame hb28 hb29 h27 h31 h35 h36 hA hL hlen hnil hv hn h2
  go_enter Try.func3, Try.ntmps3
  go_wp2_with (first
    | (go_at_call 26; refine HCUT.out.mono ?_; rintro e w1 ⟨va, rfl, hva, hb1⟩
       have ka := HLIM.out _ _ _ hva)
    | (go_at_call 27; refine (H27.out _ _ ka).mono ?_; rintro e w2 ⟨rfl, rfl⟩)
    | (go_at_call 28; refine (H28.out _ _ ka).mono ?_; rintro e w2 ⟨rfl, hb2⟩
       have b2 := below_at hb1 (Nat.le_refl _) hb2
       have ka2 := ka.keep hb2)
    | (go_at_call 29; refine (H29.out _ _ ka2).mono ?_; rintro e w3 ⟨rfl, hb3⟩
       have b3 := below_at b2 (Nat.le_refl _) hb3
       have ka3 := ka2.keep hb3)
    | (go_at_call 30; refine (lives_any _).mono ?_; rintro e w4 ⟨rfl, hb4⟩
       have b4 := below_at b3 (Nat.le_refl _) hb4
       have ka4 := ka3.keep hb4)
    | (go_at_call 31; refine (H31.out _ _ ka4).mono ?_; rintro e w5 ⟨rfl, rfl⟩)
    | (go_at_call 33; refine (HOF.out _).mono ?_; rintro e w6 ⟨v6, rfl, hv6, hb6⟩
       have b6 := below_at b4 (Nat.le_refl _) hb6
       have ka6 := ka4.keep hb6)
    | (go_at_call 34; refine (HROF.out _).mono ?_; rintro e w7 ⟨v7, rfl, hv7, hb7⟩
       have b7 := below_at b6 (Nat.le_refl _) hb7
       have k6 := hv6.is.keep hb7
       have k7 := HLIM2.out _ _ _ hv7
       have ka7 := ka6.keep hb7)
    | (go_at_call 32; refine (HSAME.out _ _ _ k6 k7).mono ?_; rintro e w8 ⟨rfl, hb8⟩
       have b8 := below_at b7 (Nat.le_refl _) hb8
       have ka8 := ka7.keep hb8)
    | (go_at_call 35; refine (H35.out _ _ ka8).mono ?_; rintro e w9 ⟨rfl, hb9⟩
       have b9 := below_at b8 (Nat.le_refl _) hb9
       have ka9 := ka8.keep hb9)
    | (go_at_call 36; refine (H36.out _ _ ka9).mono ?_; rintro e w10 ⟨rfl, rfl⟩))
  go_ret
  exact ⟨rfl, b9⟩

/-- The law NatChecks, for whatever limbs and whatever word. -/
theorem checks_walk (A : Option Addr) (c L v : Nat) (xs : List Nat) (w : World) (hA : Nums .u32 w A xs) (hlow : Low B32 xs) (hL : L = xs.length) (hc : L ≤ c) (hnil : A = none → c = 0) (hv : v < B64) :
    Calls Try.prog 3 #[.slice A L c, .int .u64 (v : Int)] w (LivesPost w) := by
  by_cases h0 : chk (xs.take 40) = 0
  · have hn := chk_zero (hlow.take 40) h0
    rcases Nat.lt_or_ge 2 (dig B32 (val B32 (xs.take 40))).length with h2 | h2
    · exact checks_ok3 A c L v _ xs w hA hL hc hnil hv hn h2
    · exact checks_ok2 A c L v _ xs w hA hL hc hnil hv hn h2
  · exact checks_bad A c L v xs w hA hL hc hnil hv h0
end Go.Proofs.Ytaegkhdkhgemmaa
