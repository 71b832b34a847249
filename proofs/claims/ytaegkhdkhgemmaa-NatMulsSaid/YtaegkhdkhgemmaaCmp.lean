import Derived.Test.YtaegkhdkhgemmaaBits
namespace Go.Proofs.Ytaegkhdkhgemmaa
open Go.RowKit Num

set_option maxHeartbeats 400000 in
theorem cmp107 (x y : Nat) (w : World) : Calls Try.prog 107 #[.int .i64 (x : Int), .int .i64 (y : Int)] w fun e w' => e = .returned (.int .i64 (cmpN x y)) ∧ w = w' := by
  rcases Nat.lt_trichotomy x y with h | h | h
  · rw [cmpN_lt h]
    go_enter Try.func107, Try.ntmps107
    go_wp2
    go_ret
    exact ⟨rfl, rfl⟩
  · subst h
    rw [cmpN_eq]
    go_enter Try.func107, Try.ntmps107
    go_wp2
    go_ret
    exact ⟨rfl, rfl⟩
  · rw [cmpN_gt h]
    go_enter Try.func107, Try.ntmps107
    go_wp2
    go_ret
    exact ⟨rfl, rfl⟩
set_option maxHeartbeats 400000 in
theorem cmp108 (x y : Nat) (w : World) : Calls Try.prog 108 #[.int .u64 (x : Int), .int .u64 (y : Int)] w fun e w' => e = .returned (.int .i64 (cmpN x y)) ∧ w = w' := by
  rcases Nat.lt_trichotomy x y with h | h | h
  · rw [cmpN_lt h]
    go_enter Try.func108, Try.ntmps108
    go_wp2
    go_ret
    exact ⟨rfl, rfl⟩
  · subst h
    rw [cmpN_eq]
    go_enter Try.func108, Try.ntmps108
    go_wp2
    go_ret
    exact ⟨rfl, rfl⟩
  · rw [cmpN_gt h]
    go_enter Try.func108, Try.ntmps108
    go_wp2
    go_ret
    exact ⟨rfl, rfl⟩
set_option maxHeartbeats 400000 in
theorem cmp110 (x y : Nat) (w : World) : Calls Try.prog 110 #[.int .u32 (x : Int), .int .u32 (y : Int)] w fun e w' => e = .returned (.int .i64 (cmpN x y)) ∧ w = w' := by
  rcases Nat.lt_trichotomy x y with h | h | h
  · rw [cmpN_lt h]
    go_enter Try.func110, Try.ntmps110
    go_wp2
    go_ret
    exact ⟨rfl, rfl⟩
  · subst h
    rw [cmpN_eq]
    go_enter Try.func110, Try.ntmps110
    go_wp2
    go_ret
    exact ⟨rfl, rfl⟩
  · rw [cmpN_gt h]
    go_enter Try.func110, Try.ntmps110
    go_wp2
    go_ret
    exact ⟨rfl, rfl⟩
set_option maxHeartbeats 400000 in
theorem compare83 (A A' : Option Addr) (c c' L L' m n : Nat) (w : World) (h : Nums .u64 w A (dig B64 m)) (h' : Nums .u64 w A' (dig B64 n)) (hL : L = (dig B64 m).length) (hL' : L' = (dig B64 n).length) (hl : L ≤ 1000000000000) (hl' : L' ≤ 1000000000000) :
    Calls Try.prog 83 #[.slice A L c, .slice A' L' c'] w fun e w' => e = .returned (.int .i64 (cmpN m n)) ∧ Below w.heap.size w w' := by
  obtain ⟨r, hr⟩ : ∃ r, cmpN m n = r := ⟨_, rfl⟩
  rw [hr]
  by_cases hne : L = L'
  · subst hne
    have HL := Lib.hid hL
    have HL' := Lib.hid hL'
    have HR := Lib.hid hr
    clear hL hL' hr
    go_enter Try.func83, Try.ntmps83
    go_wp2
    go_loopw [5] (fun t wr => ∃ k : Nat, k ≤ L ∧ t = .int .i64 ((k : Int) - 1) ∧ Hid (m / B64 ^ k = n / B64 ^ k) ∧ Below w.heap.size w wr) (fun t _ => (intOf t + 1).toNat)
    case atStart => exact ⟨L, Nat.le_refl _, rfl, Lib.hid (by rw [div_pow_len b64_two (by rw [← HL.out]; exact Nat.le_refl _), div_pow_len b64_two (by rw [← HL'.out]; exact Nat.le_refl _)]), Below.refl _ _⟩
    case round =>
      obtain ⟨k, hk, rfl, hd, hb⟩ := hrel
      by_cases h0 : k = 0
      · subst h0
        have hmn : m = n := by have := hd.out; simpa using this
        have hr0 : r = 0 := by have := HR.out; rw [hmn, cmpN_eq] at this; exact this.symm
        have H0 := Lib.hid hr0
        clear hmn hr0
        go_wp2
        go_ret
        exact ⟨ret_i H0.out.symm, hb⟩
      · obtain ⟨j, rfl⟩ : ∃ j, k = j + 1 := ⟨k - 1, by omega⟩
        obtain ⟨g, off, x, rfl, hg, hx, hcx⟩ := (h.keep hb).at_ (i := j) (by have := HL.out; omega)
        obtain ⟨g', off', y, rfl, hg', hy, hcy⟩ := (h'.keep hb).at_ (i := j) (by have := HL'.out; omega)
        clear h h'
        by_cases hxy : x = y
        · have hd' : m / B64 ^ j = n / B64 ^ j := eq_step b64_two hx (by rw [hxy]; exact hy) hd.out
          have HD := Lib.hid hd'
          have hq : ((x : Int) != (y : Int)) = false := by simp [hxy]
          clear hxy hd' hx hy
          go_wp2
          go_quiet (fail)
          go_wp2
          go_roundw
          case rel => exact ⟨j, by omega, by congr 1 <;> omega, HD, below_drewN hb _⟩
          case measure => simp [intOf]
        · have hq : ((x : Int) != (y : Int)) = true := by simp; omega
          have hc : cmpN x y = r := by
            rw [← HR.out]
            rcases Nat.lt_or_gt_of_ne hxy with hlt | hgt
            · rw [cmpN_lt hlt, cmpN_lt (lt_of_digit b64_two hx hy hd.out hlt)]
            · rw [cmpN_gt hgt, cmpN_gt (lt_of_digit b64_two hy hx hd.out.symm hgt)]
          have HC := Lib.hid hc
          clear hc hx hy hxy
          go_wp2
          go_quiet (fail)
          go_wp2
          go_quiet ((go_at_call 108; exact quiet_a (cmp108 _ _ _)))
          go_wp2
          go_ret
          exact ⟨ret_i HC.out, below_drewN (below_drewN hb _) _⟩
  · have hn : ((L : Int) == (L' : Int)) = false := by simp; omega
    have hn' : ((L : Int) != (L' : Int)) = true := by simp; omega
    have hc : cmpN L L' = r := by rw [← hr, hL, hL'] at *; exact cmp_of_len b64_two hne
    have HC := Lib.hid hc
    clear hc h h' hL hL' hr
    go_enter Try.func83, Try.ntmps83
    go_wp2_with (go_at_call 107; refine (cmp107 L L' _).mono ?_; rintro e w' ⟨rfl, rfl⟩)
    go_ret
    exact ⟨ret_i HC.out, Below.refl _ _⟩
set_option maxHeartbeats 400000 in
theorem compare85 (A A' : Option Addr) (c c' L L' m n : Nat) (w : World) (h : Nums .u32 w A (dig B32 m)) (h' : Nums .u32 w A' (dig B32 n)) (hL : L = (dig B32 m).length) (hL' : L' = (dig B32 n).length) (hl : L ≤ 1000000000000) (hl' : L' ≤ 1000000000000) :
    Calls Try.prog 85 #[.slice A L c, .slice A' L' c'] w fun e w' => e = .returned (.int .i64 (cmpN m n)) ∧ Below w.heap.size w w' := by
  obtain ⟨r, hr⟩ : ∃ r, cmpN m n = r := ⟨_, rfl⟩
  rw [hr]
  by_cases hne : L = L'
  · subst hne
    have HL := Lib.hid hL
    have HL' := Lib.hid hL'
    have HR := Lib.hid hr
    clear hL hL' hr
    go_enter Try.func85, Try.ntmps85
    go_wp2
    go_loopw [5] (fun t wr => ∃ k : Nat, k ≤ L ∧ t = .int .i64 ((k : Int) - 1) ∧ Hid (m / B32 ^ k = n / B32 ^ k) ∧ Below w.heap.size w wr) (fun t _ => (intOf t + 1).toNat)
    case atStart => exact ⟨L, Nat.le_refl _, rfl, Lib.hid (by rw [div_pow_len b32_two (by rw [← HL.out]; exact Nat.le_refl _), div_pow_len b32_two (by rw [← HL'.out]; exact Nat.le_refl _)]), Below.refl _ _⟩
    case round =>
      obtain ⟨k, hk, rfl, hd, hb⟩ := hrel
      by_cases h0 : k = 0
      · subst h0
        have hmn : m = n := by have := hd.out; simpa using this
        have hr0 : r = 0 := by have := HR.out; rw [hmn, cmpN_eq] at this; exact this.symm
        have H0 := Lib.hid hr0
        clear hmn hr0
        go_wp2
        go_ret
        exact ⟨ret_i H0.out.symm, hb⟩
      · obtain ⟨j, rfl⟩ : ∃ j, k = j + 1 := ⟨k - 1, by omega⟩
        obtain ⟨g, off, x, rfl, hg, hx, hcx⟩ := (h.keep hb).at_ (i := j) (by have := HL.out; omega)
        obtain ⟨g', off', y, rfl, hg', hy, hcy⟩ := (h'.keep hb).at_ (i := j) (by have := HL'.out; omega)
        clear h h'
        by_cases hxy : x = y
        · have hd' : m / B32 ^ j = n / B32 ^ j := eq_step b32_two hx (by rw [hxy]; exact hy) hd.out
          have HD := Lib.hid hd'
          have hq : ((x : Int) != (y : Int)) = false := by simp [hxy]
          clear hxy hd' hx hy
          go_wp2
          go_quiet (fail)
          go_wp2
          go_roundw
          case rel => exact ⟨j, by omega, by congr 1 <;> omega, HD, below_drewN hb _⟩
          case measure => simp [intOf]
        · have hq : ((x : Int) != (y : Int)) = true := by simp; omega
          have hc : cmpN x y = r := by
            rw [← HR.out]
            rcases Nat.lt_or_gt_of_ne hxy with hlt | hgt
            · rw [cmpN_lt hlt, cmpN_lt (lt_of_digit b32_two hx hy hd.out hlt)]
            · rw [cmpN_gt hgt, cmpN_gt (lt_of_digit b32_two hy hx hd.out.symm hgt)]
          have HC := Lib.hid hc
          clear hc hx hy hxy
          go_wp2
          go_quiet (fail)
          go_wp2
          go_quiet ((go_at_call 110; exact quiet_a (cmp110 _ _ _)))
          go_wp2
          go_ret
          exact ⟨ret_i HC.out, below_drewN (below_drewN hb _) _⟩
  · have hn : ((L : Int) == (L' : Int)) = false := by simp; omega
    have hn' : ((L : Int) != (L' : Int)) = true := by simp; omega
    have hc : cmpN L L' = r := by rw [← hr, hL, hL'] at *; exact cmp_of_len b32_two hne
    have HC := Lib.hid hc
    clear hc h h' hL hL' hr
    go_enter Try.func85, Try.ntmps85
    go_wp2_with (go_at_call 107; refine (cmp107 L L' _).mono ?_; rintro e w' ⟨rfl, rfl⟩)
    go_ret
    exact ⟨ret_i HC.out, Below.refl _ _⟩
end Go.Proofs.Ytaegkhdkhgemmaa
