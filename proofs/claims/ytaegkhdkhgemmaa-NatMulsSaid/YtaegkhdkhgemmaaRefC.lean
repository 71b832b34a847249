import Derived.Test.YtaegkhdkhgemmaaSubs
namespace Go.Proofs.Ytaegkhdkhgemmaa
open Go.RowKit Num

set_option maxHeartbeats 1000000 in
theorem refCmp_any (A A' : Option Addr) (c c' L L' m n : Nat) (w : World) (h : Nums .u32 w A (dig B32 m)) (h' : Nums .u32 w A' (dig B32 n)) (hL : L = (dig B32 m).length) (hL' : L' = (dig B32 n).length) (hl : L ≤ 1000000000000) (hl' : L' ≤ 1000000000000) :
    Calls Try.prog 42 #[.slice A L c, .slice A' L' c'] w fun e w' => e = .returned (.int .i64 (cmpN m n)) ∧ Below w.heap.size w w' := by
  obtain ⟨r, hr⟩ : ∃ r, cmpN m n = r := ⟨_, rfl⟩
  rw [hr]
  by_cases hne : L = L'
  · subst hne
    have HL := Lib.hid hL
    have HL' := Lib.hid hL'
    have HR := Lib.hid hr
    clear hL hL' hr
    go_enter Try.func42, Try.ntmps42
    go_wp2
    go_loopw [5] (fun t wr => ∃ k : Nat, k ≤ L ∧ t = .int .i64 ((k : Int) - 1) ∧ Hid (m / B32 ^ k = n / B32 ^ k) ∧ Below w.heap.size w wr) (fun t _ => (intOf t + 1).toNat)
    case atStart => exact ⟨L, Nat.le_refl _, rfl, Lib.hid (by rw [div_pow_len b32_two (by rw [← HL.out]; exact Nat.le_refl _), div_pow_len b32_two (by rw [← HL'.out]; exact Nat.le_refl _)]), Below.refl _ _⟩
    case round =>
      obtain ⟨k, hk, rfl, hd, hb⟩ := hrel
      by_cases h0 : k = 0
      · subst h0
        have hmn : m = n := by have := hd.out; simpa using this
        have hr0 : r = 0 := by have := HR.out; rw [hmn, cmpN_eq] at this; exact this.symm
        have H0 := Lib.hid hr0
        clear hmn hr0
        go_wp2
        go_ret
        exact ⟨ret_i H0.out.symm, hb⟩
      · obtain ⟨j, rfl⟩ : ∃ j, k = j + 1 := ⟨k - 1, by omega⟩
        obtain ⟨g, off, x, rfl, hg, hx, hcx⟩ := (h.keep hb).at_ (i := j) (by have := HL.out; omega)
        obtain ⟨g', off', y, rfl, hg', hy, hcy⟩ := (h'.keep hb).at_ (i := j) (by have := HL'.out; omega)
        clear h h'
        rcases Nat.lt_trichotomy x y with hxy | hxy | hxy
        · have hc : r = -1 := by rw [← HR.out]; exact cmpN_lt (lt_of_digit b32_two hx hy hd.out hxy)
          have HC := Lib.hid hc
          clear hc hx hy
          go_wp2
          go_quiet (fail)
          go_wp2
          go_ret
          exact ⟨ret_i HC.out.symm, below_drewN hb _⟩
        · have hd' : m / B32 ^ j = n / B32 ^ j := eq_step b32_two hx (by rw [hxy]; exact hy) hd.out
          have HD := Lib.hid hd'
          have h1 : ¬ x < y := by omega
          have h2 : ¬ y < x := by omega
          clear hxy hd' hx hy
          go_wp2
          go_quiet (fail)
          go_wp2
          go_quiet (fail)
          go_wp2
          go_roundw
          case rel => exact ⟨j, by omega, by congr 1, HD, below_drewN hb _⟩
          case measure => simp [intOf]
        · have hc : r = 1 := by rw [← HR.out]; exact cmpN_gt (lt_of_digit b32_two hy hx hd.out.symm hxy)
          have HC := Lib.hid hc
          have h1 : ¬ x < y := by omega
          clear hc hx hy
          go_wp2
          go_quiet (fail)
          go_wp2
          go_quiet (fail)
          go_wp2
          go_ret
          exact ⟨ret_i HC.out.symm, below_drewN (below_drewN hb _) _⟩
  · have hn' : ((L : Int) != (L' : Int)) = true := by simp; omega
    have hc : cmpN L L' = r := by rw [← hr, hL, hL'] at *; exact cmp_of_len b32_two hne
    have HC := Lib.hid hc
    clear hc h h' hL hL' hr
    by_cases hlt : L < L'
    · have hr1 : r = -1 := by rw [← HC.out]; exact cmpN_lt hlt
      have H1 := Lib.hid hr1
      clear hr1
      go_enter Try.func42, Try.ntmps42
      go_wp2
      go_ret
      exact ⟨ret_i H1.out.symm, Below.refl _ _⟩
    · have hr1 : r = 1 := by rw [← HC.out]; exact cmpN_gt (by omega)
      have H1 := Lib.hid hr1
      clear hr1
      go_enter Try.func42, Try.ntmps42
      go_wp2
      go_ret
      exact ⟨ret_i H1.out.symm, Below.refl _ _⟩

theorem refCmp_call (a b : Value) (m n : Nat) (w : World) (ha : N32 w a m) (hb : N32 w b n) (hm : (dig B32 m).length ≤ 1000000000) (hn : (dig B32 n).length ≤ 1000000000) :
    Calls Try.prog 42 #[a, b] w fun e w' => e = .returned (.int .i64 (cmpN m n)) ∧ Below w.heap.size w w' := by
  obtain ⟨A, c, rfl, _, hA⟩ := ha
  obtain ⟨A', c', rfl, _, hA'⟩ := hb
  exact refCmp_any A A' c c' _ _ m n w hA hA' rfl rfl (by omega) (by omega)

set_option maxHeartbeats 400000 in
/-- at: limb i, or 0 beyond the end. -/
theorem at_any (A : Option Addr) (c L i : Nat) (xs : List Nat) (w : World) (h : Nums .u32 w A xs) (hlow : Low B32 xs) (hL : L = xs.length) :
    Calls Try.prog 86 #[.slice A L c, .int .i64 (i : Int)] w fun e w' => e = .returned (.int .u64 ((xs.getD i 0 : Nat) : Int)) ∧ w = w' := by
  obtain ⟨r, hr⟩ : ∃ r, xs.getD i 0 = r := ⟨_, rfl⟩
  rw [hr]
  by_cases hi : i < L
  · obtain ⟨g, off, x, rfl, hg, hx, hcx⟩ := h.at_ (i := i) (by omega)
    have e : r = x := by rw [← hr, List.getD_eq_getElem?_getD, hx]; rfl
    subst e
    have hxl : r < B32 := hlow r (List.mem_of_getElem? hx)
    have w1 : IntKind.u64.wrap (r : Int) = (r : Int) := by rw [IntKind.wrap_u64]; unfold B32 at hxl; omega
    have hii : (i : Int) < (L : Int) := by omega
    clear hr hx h hL hlow hxl
    go_enter Try.func86, Try.ntmps86
    go_wp2
    go_ret
    exact ⟨rfl, rfl⟩
  · have e : r = 0 := by rw [← hr, List.getD_eq_getElem?_getD, List.getElem?_eq_none (by omega)]; rfl
    subst e
    have hii : ¬ (i : Int) < (L : Int) := by omega
    clear hr h hL hlow
    go_enter Try.func86, Try.ntmps86
    go_wp2
    go_ret
    exact ⟨rfl, rfl⟩
end Go.Proofs.Ytaegkhdkhgemmaa
