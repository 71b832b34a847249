/- Part of the proof of WireCertain: Pow, Cmp, Api, Apj, ChkA, Mul, Sub, Adds, Root27, Lives, Cut, U64, BitsR, RefS, RefOf, ChecksW, Subs, RefC, RefAdd, KarLaws, KarW, Kara. -/
import Derived.Test.YthgekjkgfccnaaaPartD
import Derived.StillTailTactics
namespace Go.Proofs.Ythgekjkgfccnaaa
open Go.RowKit Num

theorem len_nat (x : Nat) (w : World) (hx : x < B64) : Calls Try.prog 76 #[.int .u64 (x : Int)] w fun e w' => e = .returned (.int .i64 (nbits x : Nat)) ∧ w = w' := by
  have h := fun w => len64_nat x w hx
  have H := Lib.hid h
  clear h
  generalize nbits x = r at *
  go_enter Try.func76, Try.ntmps76
  go_wp2_with (go_at_call 91; refine (H.out _).mono ?_; rintro e w1 ⟨rfl, rfl⟩)
  go_ret
  exact ⟨rfl, rfl⟩

theorem dig_one : dig B64 1 = [1] := by
  rw [dig_pos b64_two (by omega)]
  have : 1 / B64 = 0 := Nat.div_eq_of_lt (by unfold B64; omega)
  rw [this, dig_zero, Nat.mod_eq_of_lt (by unfold B64; omega)]

theorem dig_len_mono {m n : Nat} (h : m ≤ n) : (dig B64 m).length ≤ (dig B64 n).length := dig_len_le b64_two (Nat.lt_of_le_of_lt h (dig_len_lt b64_two))

theorem and_one (q : Nat) (h : q < 9223372036854775808) : bits .and .i64 (q : Int) 1 = ((q % 2 : Nat) : Int) := by
  have e : (BitVec.ofInt 64 (q : Int)).toNat = q := by rw [BitVec.ofInt_natCast, BitVec.toNat_ofNat]; exact Nat.mod_eq_of_lt (by omega)
  show IntKind.i64.wrap ((BitVec.ofInt 64 (q : Int) &&& BitVec.ofInt 64 1).toNat : Int) = _
  rw [BitVec.toNat_and, e, show (BitVec.ofInt 64 1).toNat = 1 from rfl, Nat.and_one_is_mod, IntKind.wrap_i64]
  omega
theorem own_one (w : World) : OwnW w.heap.size (w.alloc (.cells #[.int .u64 1] 55)) (.slice (some ⟨w.heap.size, 0, none⟩) 1 1) 1 :=
  ⟨w.heap.size, 1, [1], by rw [dig_one]; rfl, by rw [dig_one]; exact Nat.le_refl _, rfl, Nat.le_refl _, Row.of_heap (heap_alloc_new _ _), fun x hx => by simp at hx; subst hx; unfold B64; omega, by rw [dig_one]; rfl⟩
theorem OwnNum.mono {k : IntKind} {T : TypeId} {b B B' : Nat} {w : World} {v : Value} {n : Nat} (h : OwnNum k T b B w v n) (hB : B' ≤ B) : OwnNum k T b B' w v n := by
  obtain ⟨g, c, zs, e1, e2, e3, e4, r⟩ := h
  exact ⟨g, c, zs, e1, e2, e3, by omega, r⟩

set_option maxHeartbeats 1000000 in
set_option maxRecDepth 100000 in
theorem power_any {N : Nat} (HM : MulSpec N) (a : Value) (m n : Nat) (w : World) (ha : W64 w a m) (hn : n < 9223372036854775808) (hm : (dig B64 m).length ≤ N) (hp : ∀ j, j ≤ n → (dig B64 (m ^ j)).length ≤ N) :
    Calls Try.prog 79 #[a, .int .i64 (n : Int)] w (SumPost w (m ^ n)) := by
  have hlen := fun w => len_nat n w (by unfold B64; omega)
  have hb : nbits n ≤ 64 := nbits_le (k := 64) (by omega)
  have hnl := nbits_lt n
  have HMH := Lib.hid HM
  have HLEN := Lib.hid hlen
  have HP := Lib.hid hp
  have HNL := Lib.hid hnl
  clear hlen hp HM hnl
  generalize nbits n = r at *
  have hn' := Lib.hid hn
  have hwr : IntKind.u64.wrap (n : Int) = (n : Int) := by rw [IntKind.wrap_u64]; have := hn'.out; omega
  clear hn
  go_enter Try.func79, Try.ntmps79
  go_wp2_with (go_at_call 76; refine (HLEN.out _).mono ?_; rintro e w1 ⟨rfl, rfl⟩)
  go_loopw [5, 6] (fun z t wr => ∃ k : Nat, k ≤ r ∧ t = .int .i64 ((k : Int) - 1) ∧ OwnW w.heap.size wr z (m ^ (n / 2 ^ k)) ∧ Below w.heap.size w wr) (fun _ t _ => (intOf t + 1).toNat)
  case atStart => exact ⟨r, Nat.le_refl _, rfl, by rw [Nat.div_eq_of_lt HNL.out, Nat.pow_zero]; exact own_one w, (Below.refl _ _).alloc (Nat.le_refl _) _⟩
  case round =>
    clear hwr
    obtain ⟨k, hk, rfl, hz, hbl⟩ := hrel
    by_cases h0 : k = 0
    · subst h0
      have HZ := Lib.hid hz
      clear hz
      go_wp2
      go_ret
      have := HZ.out
      rw [Nat.pow_zero, Nat.div_one] at this
      exact ⟨_, rfl, this, hbl⟩
    · obtain ⟨j, rfl⟩ : ∃ j, k = j + 1 := ⟨k - 1, by omega⟩
      have hj : j < 64 := by omega
      have hq : n / 2 ^ j = 2 * (n / 2 ^ (j + 1)) + n / 2 ^ j % 2 := by
        rw [Nat.pow_succ, ← Nat.div_div_eq_div_mul]; omega
      have hqn : n / 2 ^ j ≤ n := Nat.div_le_self _ _
      have hbit : bits .and .i64 ((n : Int) / 2 ^ j) 1 = ((n / 2 ^ j % 2 : Nat) : Int) := by
        have := and_one (n / 2 ^ j) (Nat.lt_of_le_of_lt hqn hn'.out)
        rw [← this]; push_cast; rfl
      have e1 : m ^ (n / 2 ^ (j + 1)) * m ^ (n / 2 ^ (j + 1)) = m ^ (2 * (n / 2 ^ (j + 1))) := by rw [← Nat.pow_add]; congr 1; omega
      have l1 := HP.out (n / 2 ^ (j + 1)) (Nat.div_le_self _ _)
      have l2 := HP.out (2 * (n / 2 ^ (j + 1))) (by omega)
      have hk' : j + 1 ≤ r := hk
      clear h0 hk hqn
      by_cases hodd : n / 2 ^ j % 2 = 1
      · rw [hodd] at hbit hq
        have hbit' : bits .and .i64 ((n : Int) / 2 ^ j) 1 = 1 := hbit
        have e2 : m ^ (2 * (n / 2 ^ (j + 1))) * m = m ^ (n / 2 ^ j) := Eq.trans (Nat.pow_succ m _).symm (congrArg (fun x => m ^ x) hq.symm)
        have HQ := Lib.hid hq
        have HODD := Lib.hid hodd
        clear hq hodd hbit
        generalize m ^ (n / 2 ^ (j + 1)) = z1 at *
        generalize m ^ (2 * (n / 2 ^ (j + 1))) = z2 at *
        generalize hz3 : m ^ (n / 2 ^ j) = z3 at *
        have HZ3 := Lib.hid hz3
        clear hz3
        have E1 := Lib.hid e1
        have E2 := Lib.hid e2
        have HZ := Lib.hid hz
        have HA := Lib.hid ha
        clear e1 e2 hz ha
        go_wp2_with (fail)
        refine (HMH.out _ _ z1 z1 _ HZ.out.is HZ.out.is l1 l1).mono ?_
        rintro e w1 ⟨v1, rfl, hv1, hb1⟩
        rw [E1.out] at hv1
        have hbl1 : Below w.heap.size w w1 := hbl.trans (hb1.mono hbl.size)
        have HV1 := Lib.hid hv1
        clear hv1
        go_wp2_with (fail)
        refine (HMH.out _ _ z2 m _ HV1.out.is (HA.out.keep hbl1) l2 hm).mono ?_
        rintro e w2 ⟨v2, rfl, hv2, hb2⟩
        rw [E2.out] at hv2
        have hbl2 : Below w.heap.size w w2 := hbl1.trans (hb2.mono hbl1.size)
        have HV2 := Lib.hid hv2
        clear hv2
        go_wp2
        go_roundw
        case rel => exact ⟨j, by omega, by congr 1, by rw [HZ3.out]; exact HV2.out.mono hbl1.size, hbl2⟩
        case measure => simp [intOf]
      · have hev : n / 2 ^ j % 2 = 0 := by omega
        rw [hev] at hbit hq
        have hbit' : bits .and .i64 ((n : Int) / 2 ^ j) 1 = 0 := hbit
        have e2 : m ^ (2 * (n / 2 ^ (j + 1))) = m ^ (n / 2 ^ j) := by rw [show n / 2 ^ j = 2 * (n / 2 ^ (j + 1)) from by omega]
        have HQ := Lib.hid hq
        have HODD := Lib.hid hodd
        have HEV := Lib.hid hev
        clear hq hodd hbit hev
        generalize m ^ (n / 2 ^ (j + 1)) = z1 at *
        generalize m ^ (2 * (n / 2 ^ (j + 1))) = z2 at *
        generalize hz3 : m ^ (n / 2 ^ j) = z3 at *
        have HZ3 := Lib.hid hz3
        clear hz3
        have E1 := Lib.hid e1
        have E2 := Lib.hid e2
        have HZ := Lib.hid hz
        have HA := Lib.hid ha
        clear e1 e2 hz ha
        go_wp2_with (fail)
        refine (HMH.out _ _ z1 z1 _ HZ.out.is HZ.out.is l1 l1).mono ?_
        rintro e w1 ⟨v1, rfl, hv1, hb1⟩
        rw [E1.out, E2.out] at hv1
        have hbl1 : Below w.heap.size w w1 := hbl.trans (hb1.mono hbl.size)
        have HV1 := Lib.hid hv1
        clear hv1
        go_wp2
        go_roundw
        case rel => exact ⟨j, by omega, by congr 1, by rw [HZ3.out]; exact HV1.out.mono hbl.size, hbl1⟩
        case measure => simp [intOf]
end Go.Proofs.Ythgekjkgfccnaaa

namespace Go.Proofs.Ythgekjkgfccnaaa
open Go.RowKit Num

set_option maxHeartbeats 400000 in
theorem cmp107 (x y : Nat) (w : World) : Calls Try.prog 88 #[.int .i64 (x : Int), .int .i64 (y : Int)] w fun e w' => e = .returned (.int .i64 (cmpN x y)) ∧ w = w' := by
  rcases Nat.lt_trichotomy x y with h | h | h
  · rw [cmpN_lt h]
    go_enter Try.func88, Try.ntmps88
    go_wp2
    go_ret
    exact ⟨rfl, rfl⟩
  · subst h
    rw [cmpN_eq]
    go_enter Try.func88, Try.ntmps88
    go_wp2
    go_ret
    exact ⟨rfl, rfl⟩
  · rw [cmpN_gt h]
    go_enter Try.func88, Try.ntmps88
    go_wp2
    go_ret
    exact ⟨rfl, rfl⟩
set_option maxHeartbeats 400000 in
theorem cmp108 (x y : Nat) (w : World) : Calls Try.prog 89 #[.int .u64 (x : Int), .int .u64 (y : Int)] w fun e w' => e = .returned (.int .i64 (cmpN x y)) ∧ w = w' := by
  rcases Nat.lt_trichotomy x y with h | h | h
  · rw [cmpN_lt h]
    go_enter Try.func89, Try.ntmps89
    go_wp2
    go_ret
    exact ⟨rfl, rfl⟩
  · subst h
    rw [cmpN_eq]
    go_enter Try.func89, Try.ntmps89
    go_wp2
    go_ret
    exact ⟨rfl, rfl⟩
  · rw [cmpN_gt h]
    go_enter Try.func89, Try.ntmps89
    go_wp2
    go_ret
    exact ⟨rfl, rfl⟩
set_option maxHeartbeats 400000 in
theorem cmp110 (x y : Nat) (w : World) : Calls Try.prog 101 #[.int .u32 (x : Int), .int .u32 (y : Int)] w fun e w' => e = .returned (.int .i64 (cmpN x y)) ∧ w = w' := by
  rcases Nat.lt_trichotomy x y with h | h | h
  · rw [cmpN_lt h]
    go_enter Try.func101, Try.ntmps101
    go_wp2
    go_ret
    exact ⟨rfl, rfl⟩
  · subst h
    rw [cmpN_eq]
    go_enter Try.func101, Try.ntmps101
    go_wp2
    go_ret
    exact ⟨rfl, rfl⟩
  · rw [cmpN_gt h]
    go_enter Try.func101, Try.ntmps101
    go_wp2
    go_ret
    exact ⟨rfl, rfl⟩
set_option maxHeartbeats 400000 in
theorem compare83 (A A' : Option Addr) (c c' L L' m n : Nat) (w : World) (h : Nums .u64 w A (dig B64 m)) (h' : Nums .u64 w A' (dig B64 n)) (hL : L = (dig B64 m).length) (hL' : L' = (dig B64 n).length) (hl : L ≤ 1000000000000) (hl' : L' ≤ 1000000000000) :
    Calls Try.prog 67 #[.slice A L c, .slice A' L' c'] w fun e w' => e = .returned (.int .i64 (cmpN m n)) ∧ Below w.heap.size w w' := by
  obtain ⟨r, hr⟩ : ∃ r, cmpN m n = r := ⟨_, rfl⟩
  rw [hr]
  by_cases hne : L = L'
  · subst hne
    have HL := Lib.hid hL
    have HL' := Lib.hid hL'
    have HR := Lib.hid hr
    clear hL hL' hr
    go_enter Try.func67, Try.ntmps67
    go_wp2
    go_loopw [5] (fun t wr => ∃ k : Nat, k ≤ L ∧ t = .int .i64 ((k : Int) - 1) ∧ Hid (m / B64 ^ k = n / B64 ^ k) ∧ Below w.heap.size w wr) (fun t _ => (intOf t + 1).toNat)
    case atStart => exact ⟨L, Nat.le_refl _, rfl, Lib.hid (by rw [div_pow_len b64_two (by rw [← HL.out]; exact Nat.le_refl _), div_pow_len b64_two (by rw [← HL'.out]; exact Nat.le_refl _)]), Below.refl _ _⟩
    case round =>
      obtain ⟨k, hk, rfl, hd, hb⟩ := hrel
      by_cases h0 : k = 0
      · subst h0
        have hmn : m = n := by have := hd.out; simpa using this
        have hr0 : r = 0 := by have := HR.out; rw [hmn, cmpN_eq] at this; exact this.symm
        have H0 := Lib.hid hr0
        clear hmn hr0
        go_wp2
        go_ret
        exact ⟨ret_i H0.out.symm, hb⟩
      · obtain ⟨j, rfl⟩ : ∃ j, k = j + 1 := ⟨k - 1, by omega⟩
        obtain ⟨g, off, x, rfl, hg, hx, hcx⟩ := (h.keep hb).at_ (i := j) (by have := HL.out; omega)
        obtain ⟨g', off', y, rfl, hg', hy, hcy⟩ := (h'.keep hb).at_ (i := j) (by have := HL'.out; omega)
        clear h h'
        by_cases hxy : x = y
        · have hd' : m / B64 ^ j = n / B64 ^ j := eq_step b64_two hx (by rw [hxy]; exact hy) hd.out
          have HD := Lib.hid hd'
          have hq : ((x : Int) != (y : Int)) = false := by simp [hxy]
          clear hxy hd' hx hy
          go_wp2
          go_quiet (fail)
          go_wp2
          go_roundw
          case rel => exact ⟨j, by omega, by congr 1 <;> omega, HD, below_drewN hb _⟩
          case measure => simp [intOf]
        · have hq : ((x : Int) != (y : Int)) = true := by simp; omega
          have hc : cmpN x y = r := by
            rw [← HR.out]
            rcases Nat.lt_or_gt_of_ne hxy with hlt | hgt
            · rw [cmpN_lt hlt, cmpN_lt (lt_of_digit b64_two hx hy hd.out hlt)]
            · rw [cmpN_gt hgt, cmpN_gt (lt_of_digit b64_two hy hx hd.out.symm hgt)]
          have HC := Lib.hid hc
          clear hc hx hy hxy
          go_wp2
          go_quiet (fail)
          go_wp2
          go_quiet ((go_at_call 89; exact quiet_a (cmp108 _ _ _)))
          go_wp2
          go_ret
          exact ⟨ret_i HC.out, below_drewN (below_drewN hb _) _⟩
  · have hn : ((L : Int) == (L' : Int)) = false := by simp; omega
    have hn' : ((L : Int) != (L' : Int)) = true := by simp; omega
    have hc : cmpN L L' = r := by rw [← hr, hL, hL'] at *; exact cmp_of_len b64_two hne
    have HC := Lib.hid hc
    clear hc h h' hL hL' hr
    go_enter Try.func67, Try.ntmps67
    go_wp2_with (go_at_call 88; refine (cmp107 L L' _).mono ?_; rintro e w' ⟨rfl, rfl⟩)
    go_ret
    exact ⟨ret_i HC.out, Below.refl _ _⟩
set_option maxHeartbeats 400000 in
theorem compare85 (A A' : Option Addr) (c c' L L' m n : Nat) (w : World) (h : Nums .u32 w A (dig B32 m)) (h' : Nums .u32 w A' (dig B32 n)) (hL : L = (dig B32 m).length) (hL' : L' = (dig B32 n).length) (hl : L ≤ 1000000000000) (hl' : L' ≤ 1000000000000) :
    Calls Try.prog 85 #[.slice A L c, .slice A' L' c'] w fun e w' => e = .returned (.int .i64 (cmpN m n)) ∧ Below w.heap.size w w' := by
  obtain ⟨r, hr⟩ : ∃ r, cmpN m n = r := ⟨_, rfl⟩
  rw [hr]
  by_cases hne : L = L'
  · subst hne
    have HL := Lib.hid hL
    have HL' := Lib.hid hL'
    have HR := Lib.hid hr
    clear hL hL' hr
    go_enter Try.func85, Try.ntmps85
    go_wp2
    go_loopw [5] (fun t wr => ∃ k : Nat, k ≤ L ∧ t = .int .i64 ((k : Int) - 1) ∧ Hid (m / B32 ^ k = n / B32 ^ k) ∧ Below w.heap.size w wr) (fun t _ => (intOf t + 1).toNat)
    case atStart => exact ⟨L, Nat.le_refl _, rfl, Lib.hid (by rw [div_pow_len b32_two (by rw [← HL.out]; exact Nat.le_refl _), div_pow_len b32_two (by rw [← HL'.out]; exact Nat.le_refl _)]), Below.refl _ _⟩
    case round =>
      obtain ⟨k, hk, rfl, hd, hb⟩ := hrel
      by_cases h0 : k = 0
      · subst h0
        have hmn : m = n := by have := hd.out; simpa using this
        have hr0 : r = 0 := by have := HR.out; rw [hmn, cmpN_eq] at this; exact this.symm
        have H0 := Lib.hid hr0
        clear hmn hr0
        go_wp2
        go_ret
        exact ⟨ret_i H0.out.symm, hb⟩
      · obtain ⟨j, rfl⟩ : ∃ j, k = j + 1 := ⟨k - 1, by omega⟩
        obtain ⟨g, off, x, rfl, hg, hx, hcx⟩ := (h.keep hb).at_ (i := j) (by have := HL.out; omega)
        obtain ⟨g', off', y, rfl, hg', hy, hcy⟩ := (h'.keep hb).at_ (i := j) (by have := HL'.out; omega)
        clear h h'
        by_cases hxy : x = y
        · have hd' : m / B32 ^ j = n / B32 ^ j := eq_step b32_two hx (by rw [hxy]; exact hy) hd.out
          have HD := Lib.hid hd'
          have hq : ((x : Int) != (y : Int)) = false := by simp [hxy]
          clear hxy hd' hx hy
          go_wp2
          go_quiet (fail)
          go_wp2
          go_roundw
          case rel => exact ⟨j, by omega, by congr 1 <;> omega, HD, below_drewN hb _⟩
          case measure => simp [intOf]
        · have hq : ((x : Int) != (y : Int)) = true := by simp; omega
          have hc : cmpN x y = r := by
            rw [← HR.out]
            rcases Nat.lt_or_gt_of_ne hxy with hlt | hgt
            · rw [cmpN_lt hlt, cmpN_lt (lt_of_digit b32_two hx hy hd.out hlt)]
            · rw [cmpN_gt hgt, cmpN_gt (lt_of_digit b32_two hy hx hd.out.symm hgt)]
          have HC := Lib.hid hc
          clear hc hx hy hxy
          go_wp2
          go_quiet (fail)
          go_wp2
          go_quiet ((go_at_call 101; exact quiet_a (cmp110 _ _ _)))
          go_wp2
          go_ret
          exact ⟨ret_i HC.out, below_drewN (below_drewN hb _) _⟩
  · have hn : ((L : Int) == (L' : Int)) = false := by simp; omega
    have hn' : ((L : Int) != (L' : Int)) = true := by simp; omega
    have hc : cmpN L L' = r := by rw [← hr, hL, hL'] at *; exact cmp_of_len b32_two hne
    have HC := Lib.hid hc
    clear hc h h' hL hL' hr
    go_enter Try.func85, Try.ntmps85
    go_wp2_with (go_at_call 88; refine (cmp107 L L' _).mono ?_; rintro e w' ⟨rfl, rfl⟩)
    go_ret
    exact ⟨ret_i HC.out, Below.refl _ _⟩
end Go.Proofs.Ythgekjkgfccnaaa

namespace Go.Proofs.Ythgekjkgfccnaaa
open Go.RowKit Num

theorem below_at {B : Nat} {w w1 w2 : World} (h : Below B w w1) (hB : B ≤ w.heap.size) (k : Below w1.heap.size w1 w2) : Below B w w2 := h.trans (k.mono (Nat.le_trans hB h.size))
theorem OwnL.mono {B B' : Nat} {w : World} {v : Value} {n : Nat} (h : OwnL B w v n) (hB : B' ≤ B) : OwnL B' w v n := by
  obtain ⟨h1, h2⟩ := h
  refine ⟨h1, ?_⟩
  rcases h2 with h2 | ⟨g, c, cur, e, hg, r⟩
  · exact .inl h2
  · exact .inr ⟨g, c, cur, e, by omega, r⟩
theorem OwnL.keep {B : Nat} {w w' : World} {v : Value} {n : Nat} (h : OwnL B w v n) (hb : Below w.heap.size w w') : OwnL B w' v n := by
  obtain ⟨h1, h2⟩ := h
  refine ⟨h1, ?_⟩
  rcases h2 with h2 | ⟨g, c, cur, e, hg, hh, r⟩
  · exact .inl h2
  · exact .inr ⟨g, c, cur, e, hg, (hb.block g (Array.getElem?_eq_some_iff.1 hh).1).trans hh, r⟩

def NatOk (w : World) (n : Nat) (e : Ending) (w' : World) : Prop := ∃ v, e = .returned (.tuple #[v, .int .i64 0]) ∧ OwnL w.heap.size w' v n ∧ Below w.heap.size w w'
def NatErr (w : World) (k : Int) (e : Ending) (w' : World) : Prop := e = .returned (.tuple #[.slice none 0 0, .int .i64 k]) ∧ Below w.heap.size w w'

/-- The word v as a number of words, once trimmed. -/
theorem row_one (w : World) (v : Nat) : Row .u64 55 (w.alloc (.cells #[.int .u64 (v : Int)] 55)) w.heap.size [v] := Row.of_heap (heap_alloc_new _ _)

set_option maxHeartbeats 400000 in
set_option maxRecDepth 100000 in
theorem of_any (v : Nat) (hv : v < B64) (w : World) : Calls Try.prog 52 #[.int .u64 (v : Int)] w (NatPost w v) := by
  have hr := row_one w v
  have hb := below_new w (.cells #[.int .u64 (v : Int)] 55)
  have hlow : Low B64 [v] := Low.cons hv (Low.nil _)
  have hval : val B64 [v] = v := by simp [val]
  have hn : Nums .u64 (w.alloc (.cells #[.int .u64 (v : Int)] 55)) (some ⟨w.heap.size, 0, none⟩) [v] := hr.nums0 1
  have hw : W64 (w.alloc (.cells #[.int .u64 (v : Int)] 55)) (.slice (some ⟨w.heap.size, 0, none⟩) (dig B64 v).length 1) v := by
    have := (own_of_trim b64_two hr hlow (Nat.le_refl w.heap.size)).is
    rw [hval] at this
    exact this
  have hl1 : (dig B64 v).length ≤ 1 := dig_len_le b64_two (by simpa using hv)
  have ht := fun w' (h : Nums .u64 w' (some ⟨w.heap.size, 0, none⟩) [v]) => trim_any (some ⟨w.heap.size, 0, none⟩) 1 1 [v] w' h hlow rfl (Nat.le_refl _) (by omega)
  rw [hval] at ht
  have HT := Lib.hid ht
  have HW := Lib.hid hw
  have HN := Lib.hid hn
  have hl2 : (dig B64 v).length ≤ 10000000000 := by omega
  clear ht hw hn hr hval hlow
  go_enter Try.func52, Try.ntmps52
  go_wp2_with (first
    | (go_at_call 69; refine (HT.out _ HN.out).mono ?_; rintro e w1 ⟨rfl, rfl⟩)
    | (go_at_call 50; refine (nat_any _ v _ HW.out hl2).mono ?_; rintro e w2 ⟨r, rfl, hr, hb2⟩))
  go_ret
  exact ⟨_, rfl, hr.mono (by simp), below_at hb (Nat.le_refl _) hb2⟩

/-- Binary digits of a product. -/
theorem nbits_mul {m n : Nat} (hm : m ≠ 0) (hn : n ≠ 0) : nbits m + nbits n ≤ nbits (m * n) + 1 := by
  have h1 := nbits_ge hm
  have h2 := nbits_ge hn
  have h3 := Nat.mul_le_mul h1 h2
  rw [← Nat.pow_add] at h3
  have h4 := nbits_lt (m * n)
  rcases Nat.lt_or_ge (nbits (m * n)) (nbits m - 1 + (nbits n - 1) + 1) with h | h
  · have := Nat.pow_le_pow_right (show 0 < 2 by omega) (show nbits (m * n) ≤ nbits m - 1 + (nbits n - 1) by omega)
    omega
  · have p1 : 0 < nbits m := by rw [nbits_pos hm]; omega
    have p2 : 0 < nbits n := by rw [nbits_pos hn]; omega
    omega
theorem len_of_bits {n k : Nat} (h : nbits n ≤ 64 * k) : (dig B64 n).length ≤ k := dig_len_le b64_two (by rw [← pow_b64]; exact lt_of_nbits h)

set_option maxHeartbeats 400000 in
theorem fit_ok (a : Value) (n : Nat) (w : World) (ha : W64 w a n) (hn : nbits n ≤ 8388608) : Calls Try.prog 84 #[a] w (NatOk w n) := by
  have hl := len_of_bits (n := n) (k := 131072) hn
  have hb := fun w' (h : W64 w' a n) => (show Calls Try.prog 75 #[a] w' fun e w'' => e = .returned (.int .i64 (nbits n : Nat)) ∧ w' = w'' from by
    obtain ⟨A, c, rfl, _, hA⟩ := h
    exact bits_any A c _ n w' hA rfl (by omega))
  have HB := Lib.hid hb
  have HA := Lib.hid ha
  have hl2 : (dig B64 n).length ≤ 10000000000 := by omega
  clear hb ha hl
  generalize nbits n = r at *
  go_enter Try.func84, Try.ntmps84
  go_wp2_with (first
    | (go_at_call 75; refine (HB.out _ HA.out).mono ?_; rintro e w1 ⟨rfl, rfl⟩)
    | (go_at_call 50; refine (nat_any _ n _ HA.out hl2).mono ?_; rintro e w2 ⟨r, rfl, hr, hb2⟩))
  go_ret2
  exact ⟨_, rfl, hr, hb2⟩

set_option maxHeartbeats 400000 in
theorem fit_err (a : Value) (n : Nat) (w : World) (ha : W64 w a n) (hl : (dig B64 n).length ≤ 1000000000) (hn : 8388608 < nbits n) : Calls Try.prog 84 #[a] w (NatErr w 3) := by
  have hb := fun w' (h : W64 w' a n) => (show Calls Try.prog 75 #[a] w' fun e w'' => e = .returned (.int .i64 (nbits n : Nat)) ∧ w' = w'' from by
    obtain ⟨A, c, rfl, _, hA⟩ := h
    exact bits_any A c _ n w' hA rfl (by omega))
  have HB := Lib.hid hb
  have HA := Lib.hid ha
  clear hb ha hl
  generalize nbits n = r at *
  go_enter Try.func84, Try.ntmps84
  go_wp2_with (go_at_call 75; refine (HB.out _ HA.out).mono ?_; rintro e w1 ⟨rfl, rfl⟩)
  go_ret2
  exact ⟨rfl, Below.refl _ _⟩
end Go.Proofs.Ythgekjkgfccnaaa

namespace Go.Proofs.Ythgekjkgfccnaaa
open Go.RowKit Num

theorem bits_call (a : Value) (n : Nat) (w : World) (h : W64 w a n) (hl : (dig B64 n).length ≤ 1000000000) : Calls Try.prog 75 #[a] w fun e w'' => e = .returned (.int .i64 (nbits n : Nat)) ∧ w = w'' := by
  obtain ⟨A, c, rfl, _, hA⟩ := h
  exact bits_any A c _ n w hA rfl (by omega)
theorem len_bits_le {n k : Nat} (hl : (dig B64 n).length ≤ k) : nbits n ≤ 64 * k := by
  refine nbits_le (Nat.lt_of_lt_of_le (dig_len_lt b64_two) ?_)
  rw [← pow_b64]
  exact Nat.pow_le_pow_right (by omega) (by omega)
theorem nbits_ne {n : Nat} (h : n ≠ 0) : 1 ≤ nbits n := by rw [nbits_pos h]; omega
theorem dig_len_pos {n : Nat} (h : n ≠ 0) : 0 < (dig B64 n).length := by
  rcases Nat.eq_zero_or_pos (dig B64 n).length with h0 | h0
  · exact absurd ((dig_nil_iff b64_two).1 (List.eq_nil_of_length_eq_zero h0)) h
  · exact h0

set_option maxHeartbeats 1000000 in
set_option maxRecDepth 100000 in
theorem product_at {N : Nat} (a b : Value) (m n : Nat) (w : World) (HM : MulAt m n) (hN : N ≤ 1000000000) (ha : W64 w a m) (hb : W64 w b n) (hm : (dig B64 m).length ≤ N) (hn : (dig B64 n).length ≤ N) (hp : nbits (m * n) ≤ 8388608) :
    Calls Try.prog 96 #[a, b] w (NatOk w (m * n)) := by
  have hba := bits_call a m w ha (by omega)
  have hbb := bits_call b n w hb (by omega)
  have hmul := HM a b w ha hb
  have hl1 := len_bits_le (n := m) (k := N) hm
  have hl2 := len_bits_le (n := n) (k := N) hn
  have hpl := len_of_bits (n := m * n) (k := 131072) hp
  have hfit := fun r w' (h : W64 w' r (m * n)) => fit_ok r (m * n) w' h hp
  have e0 : m ≠ 0 → n ≠ 0 → nbits m + nbits n ≤ 8388608 + 1 := fun h1 h2 => Nat.le_trans (nbits_mul h1 h2) (by omega)
  obtain ⟨A, c, rfl, _, hA⟩ := ha
  obtain ⟨A', c', rfl, _, hA'⟩ := hb
  have HBA := Lib.hid hba
  have HBB := Lib.hid hbb
  have HMUL := Lib.hid hmul
  have HFIT := Lib.hid hfit
  clear hba hbb hmul hfit HM hA hA'
  by_cases h1 : m = 0
  · have hlen : (dig B64 m).length = 0 := by rw [h1, dig_zero]; rfl
    rw [hlen] at HBA HMUL ⊢
    have H1 := Lib.hid h1
    clear h1 hlen e0
    go_enter Try.func96, Try.ntmps96
    go_wp2_with (first
      | (go_at_call 99; refine HMUL.out.mono ?_; rintro e w1 ⟨v, rfl, hv, hb1⟩)
      | (go_at_call 84; refine (HFIT.out _ _ hv.is).mono ?_; rintro e w2 ⟨r, rfl, hr, hb2⟩))
    go_ret2
    exact ⟨_, rfl, hr.mono hb1.size, below_at hb1 (Nat.le_refl _) hb2⟩
  · have hlm := dig_len_pos h1
    by_cases h2 : n = 0
    · have hlen : (dig B64 n).length = 0 := by rw [h2, dig_zero]; rfl
      rw [hlen] at HBB HMUL ⊢
      have H1 := Lib.hid h1
      have H2 := Lib.hid h2
      clear h1 h2 hlen e0
      generalize (dig B64 m).length = L at *
      go_enter Try.func96, Try.ntmps96
      go_wp2_with (first
        | (go_at_call 99; refine HMUL.out.mono ?_; rintro e w1 ⟨v, rfl, hv, hb1⟩)
        | (go_at_call 84; refine (HFIT.out _ _ hv.is).mono ?_; rintro e w2 ⟨r, rfl, hr, hb2⟩))
      go_ret2
      exact ⟨_, rfl, hr.mono hb1.size, below_at hb1 (Nat.le_refl _) hb2⟩
    · have hln := dig_len_pos h2
      have e1 := e0 h1 h2
      have p1 := nbits_ne h1
      have H1 := Lib.hid h1
      have H2 := Lib.hid h2
      clear h1 h2 e0
      generalize (dig B64 m).length = L at *
      generalize (dig B64 n).length = L' at *
      generalize nbits m = x at *
      generalize nbits n = y at *
      go_enter Try.func96, Try.ntmps96
      go_wp2_with (fail)
      refine HBA.out.mono ?_
      rintro e w1 ⟨rfl, rfl⟩
      go_wp2_with (fail)
      refine HBB.out.mono ?_
      rintro e w1 ⟨rfl, rfl⟩
      go_wp2_with (first
        | (go_at_call 99; refine HMUL.out.mono ?_; rintro e w1 ⟨v, rfl, hv, hb1⟩)
        | (go_at_call 84; refine (HFIT.out _ _ hv.is).mono ?_; rintro e w2 ⟨r, rfl, hr, hb2⟩))
      go_ret2
      exact ⟨_, rfl, hr.mono hb1.size, below_at hb1 (Nat.le_refl _) hb2⟩

theorem product_ok {N : Nat} (HM : MulSpec N) (hN : N ≤ 1000000000) (a b : Value) (m n : Nat) (w : World) (ha : W64 w a m) (hb : W64 w b n) (hm : (dig B64 m).length ≤ N) (hn : (dig B64 n).length ≤ N) (hp : nbits (m * n) ≤ 8388608) :
    Calls Try.prog 96 #[a, b] w (NatOk w (m * n)) := product_at a b m n w (fun a b w ha hb => HM a b m n w ha hb hm hn) hN ha hb hm hn hp

/-- What Check says of limbs. -/
def chk (xs : List Nat) : Int := if 262144 < xs.length then 3 else if 0 < xs.length ∧ xs.getD (xs.length - 1) 0 = 0 then 2 else 0

set_option maxHeartbeats 400000 in
theorem check_any (A : Option Addr) (c L : Nat) (xs : List Nat) (w : World) (hA : Nums .u32 w A xs) (hL : L = xs.length) (hl : L ≤ 1000000000000) :
    Calls Try.prog 66 #[.slice A L c] w fun e w' => e = .returned (.int .i64 (chk xs)) ∧ w = w' := by
  obtain ⟨r, hr⟩ : ∃ r, chk xs = r := ⟨_, rfl⟩
  rw [hr]
  unfold chk at hr
  rw [← hL] at hr
  by_cases h1 : 262144 < L
  · rw [if_pos h1] at hr
    subst hr
    clear hL hA
    go_enter Try.func66, Try.ntmps66
    go_wp2
    go_ret
    exact ⟨rfl, rfl⟩
  · rw [if_neg h1] at hr
    by_cases h2 : 0 < L
    · obtain ⟨g, off, v, rfl, hg, hv, hcv⟩ := hA.at_ (i := L - 1) (by omega)
      have hvd : xs.getD (L - 1) 0 = v := by simp [List.getD_eq_getElem?_getD, hv]
      rw [hvd] at hr
      by_cases h3 : v = 0
      · rw [if_pos ⟨h2, h3⟩] at hr
        subst hr
        have hq : ((v : Int) == 0) = true := by simp [h3]
        have H3 := Lib.hid h3
        clear hL hA hv hvd h3
        go_enter Try.func66, Try.ntmps66
        go_wp2
        go_ret
        exact ⟨rfl, rfl⟩
      · rw [if_neg (fun h => h3 h.2)] at hr
        subst hr
        have hq : ((v : Int) == 0) = false := by simp [h3]
        have H3 := Lib.hid h3
        clear hL hA hv hvd h3
        go_enter Try.func66, Try.ntmps66
        go_wp2
        go_ret
        exact ⟨rfl, rfl⟩
    · rw [if_neg (fun h => h2 h.1)] at hr
      subst hr
      clear hL hA
      go_enter Try.func66, Try.ntmps66
      go_wp2
      go_ret
      exact ⟨rfl, rfl⟩

theorem chk_dig {n : Nat} (h : (dig B32 n).length ≤ 262144) : chk (dig B32 n) = 0 := by
  unfold chk
  rw [if_neg (by omega), if_neg]
  rintro ⟨h1, h2⟩
  have := (neat_iff _).1 (neat_dig b32_two n) h1
  rw [List.getD_eq_getElem?_getD, List.getElem?_eq_getElem (by omega)] at h2
  exact this h2
end Go.Proofs.Ythgekjkgfccnaaa

namespace Go.Proofs.Ythgekjkgfccnaaa
open Go.RowKit Num

/-- A list of Nats in memory, as checkAll takes it. -/
def NatsAt (w : World) (g : Nat) (vs : List (Value × List Nat)) : Prop :=
  g < w.heap.size ∧ ∀ i p, vs[i]? = some p → w.cell? ⟨g, i, none⟩ = some p.1 ∧ ∃ A c, p.1 = .slice A p.2.length c ∧ p.2.length ≤ 1000000000000 ∧ Nums .u32 w A p.2
/-- The first fault. -/
def chkAll : List (Value × List Nat) → Int
  | [] => 0
  | p :: ps => if chk p.2 = 0 then chkAll ps else chk p.2

theorem chkAll_skip {vs : List (Value × List Nat)} {k : Nat} (h : ∀ i p, i < k → vs[i]? = some p → chk p.2 = 0) : chkAll vs = chkAll (vs.drop k) := by
  induction k generalizing vs with
  | zero => rfl
  | succ k ih =>
    cases vs with
    | nil => rfl
    | cons p ps =>
      have h0 := h 0 p (by omega) rfl
      rw [List.drop_succ_cons, chkAll, if_pos h0]
      exact ih fun i q hi hq => h (i + 1) q (by omega) (by simpa using hq)

def Fine (vs : List (Value × List Nat)) (k : Nat) : Prop := ∀ i p, i < k → vs[i]? = some p → chk p.2 = 0

set_option maxHeartbeats 1000000 in
theorem checkAll_any (g n c : Nat) (vs : List (Value × List Nat)) (w : World) (h : NatsAt w g vs) (hn : vs.length = n) (hb : n ≤ 1000) :
    Calls Try.prog 47 #[.slice (some ⟨g, 0, none⟩) n c] w fun e w' => e = .returned (.int .i64 (chkAll vs)) ∧ w = w' := by
  obtain ⟨r, hr⟩ : ∃ r, chkAll vs = r := ⟨_, rfl⟩
  rw [hr]
  have HR := Lib.hid hr
  have HN := Lib.hid hn
  have HH := Lib.hid h
  clear hr hn h
  go_enter Try.func47, Try.ntmps47
  go_wp2
  go_loop [8] (fun t => ∃ k : Nat, k ≤ n ∧ t = .int .i64 (k : Int) ∧ Fine vs k) (fun t => n - (intOf t).toNat)
  case atStart => exact ⟨0, Nat.zero_le _, rfl, fun i p h => absurd h (by omega)⟩
  case round =>
    obtain ⟨k, hk, rfl, hf⟩ := hrel
    by_cases hlt : k < n
    · obtain ⟨⟨v, xs⟩, hp⟩ : ∃ p, vs[k]? = some p := ⟨vs[k]'(by have := HN.out; omega), List.getElem?_eq_getElem _⟩
      obtain ⟨hcell, A, cc, hv, hlen, hnum⟩ := HH.out.2 k _ hp
      simp only at hv hcell hlen hnum
      subst hv
      have hchk := check_any A cc _ xs w hnum rfl hlen
      have HP := Lib.hid hp
      by_cases h0 : chk xs = 0
      · rw [h0] at hchk
        have HC := Lib.hid hchk
        have H0 := Lib.hid h0
        generalize xs.length = L at *
        clear hchk h0 hp hnum hlen
        go_wp2_with (go_at_call 66; refine HC.out.mono ?_; rintro e w1 ⟨rfl, rfl⟩)
        go_round
        case rel =>
          refine ⟨k + 1, by omega, by go_num, fun i p hi hp => ?_⟩
          by_cases e : i = k
          · rw [e, HP.out] at hp
            injection hp with hp
            rw [← hp]; exact H0.out
          · exact hf i p (by omega) hp
        case measure => simp [intOf]; omega
      · have hres : chk xs = r := by
          rw [← HR.out, chkAll_skip hf]
          have hd : vs.drop k = (Value.slice A xs.length cc, xs) :: vs.drop (k + 1) := by
            rw [List.drop_eq_getElem_cons (by have := HN.out; omega), (List.getElem?_eq_some_iff.1 HP.out).2]
          rw [hd, chkAll, if_neg h0]
        rw [hres] at hchk h0
        have hq : (r != 0) = true := by simp [h0]
        have HC := Lib.hid hchk
        have H0 := Lib.hid h0
        have HS := Lib.hid hres
        generalize xs.length = L at *
        clear hchk h0 hp hnum hlen hres
        go_wp2_with (go_at_call 66; refine HC.out.mono ?_; rintro e w1 ⟨rfl, rfl⟩)
        go_ret
        exact ⟨rfl, rfl⟩
    · have hkn : k = n := by omega
      subst hkn
      have hres : r = 0 := by
        rw [← HR.out, chkAll_skip hf, List.drop_of_length_le (by rw [HN.out]; exact Nat.le_refl _)]; rfl
      have HS := Lib.hid hres
      clear hres
      go_wp2
      go_ret
      exact ⟨ret_i HS.out.symm, rfl⟩
end Go.Proofs.Ythgekjkgfccnaaa

namespace Go.Proofs.Ythgekjkgfccnaaa
open Go.RowKit Num

/-- Any limbs at all, as an argument. -/
def Limbs (w : World) (v : Value) (xs : List Nat) : Prop := ∃ A c, v = .slice A xs.length c ∧ xs.length ≤ c ∧ xs.length ≤ 1000000000000 ∧ Nums .u32 w A xs
theorem Limbs.keep {w w' : World} {v : Value} {xs : List Nat} (h : Limbs w v xs) (hb : Below w.heap.size w w') : Limbs w' v xs := by
  obtain ⟨A, c, e, hc, hl, hn⟩ := h
  exact ⟨A, c, e, hc, hl, hn.keep hb⟩
theorem Limbs.num {w : World} {v : Value} {n : Nat} (h : N32 w v n) (hl : (dig B32 n).length ≤ 1000000000000) : Limbs w v (dig B32 n) := by
  obtain ⟨A, c, e, hc, hn⟩ := h
  exact ⟨A, c, e, hc, hl, hn⟩
theorem Limbs.is {w : World} {v : Value} {n : Nat} (h : Limbs w v (dig B32 n)) : N32 w v n := by
  obtain ⟨A, c, e, hc, _, hn⟩ := h
  exact ⟨A, c, e, hc, hn⟩

theorem nats1 {w : World} {v : Value} {xs : List Nat} (h : Limbs w v xs) : NatsAt (w.alloc (.cells #[v] 48)) w.heap.size [(v, xs)] := by
  refine ⟨by simp, fun i p hp => ?_⟩
  obtain ⟨A, c, e, hc, hl, hn⟩ := h.keep (below_new w (.cells #[v] 48))
  have hi := (List.getElem?_eq_some_iff.1 hp).1
  obtain rfl : i = 0 := by simpa using hi
  injection hp with hp
  subst hp
  exact ⟨by simp, A, c, e, hl, hn⟩
theorem nats2 {w : World} {v v' : Value} {xs xs' : List Nat} (h : Limbs w v xs) (h' : Limbs w v' xs') : NatsAt (w.alloc (.cells #[v, v'] 48)) w.heap.size [(v, xs), (v', xs')] := by
  refine ⟨by simp, fun i p hp => ?_⟩
  obtain ⟨A, c, e, hc, hl, hn⟩ := h.keep (below_new w (.cells #[v, v'] 48))
  obtain ⟨A', c', e', hc', hl', hn'⟩ := h'.keep (below_new w (.cells #[v, v'] 48))
  have hi := (List.getElem?_eq_some_iff.1 hp).1
  have : i = 0 ∨ i = 1 := by simp at hi; omega
  rcases this with rfl | rfl
  · injection hp with hp
    subst hp
    exact ⟨by simp, A, c, e, hl, hn⟩
  · injection hp with hp
    subst hp
    exact ⟨by simp, A', c', e', hl', hn'⟩

/-- The first fault of two. -/
def chk2 (xs ys : List Nat) : Int := if chk xs = 0 then chk ys else chk xs
theorem chkAll2 (v v' : Value) (xs ys : List Nat) : chkAll [(v, xs), (v', ys)] = chk2 xs ys := by
  simp only [chkAll, chk2]
  split
  · split
    · rename_i h; exact h.symm
    · rfl
  · rfl
theorem chkAll1 (v : Value) (xs : List Nat) : chkAll [(v, xs)] = chk xs := by
  simp only [chkAll]
  split
  · rename_i h; exact h.symm
  · rfl

set_option maxHeartbeats 1000000 in
set_option maxRecDepth 100000 in
theorem mul_bad (a b : Value) (xs ys : List Nat) (w : World) (ha : Limbs w a xs) (hb : Limbs w b ys) (h0 : chk2 xs ys ≠ 0) : Calls Try.prog 74 #[a, b] w (NatErr w (chk2 xs ys)) := by
  have hc := checkAll_any w.heap.size 2 2 _ _ (nats2 ha hb) rfl (by omega)
  rw [chkAll2] at hc
  generalize chk2 xs ys = r at *
  have hbA := below_new w (.cells #[a, b] 48)
  have hq : (r != 0) = true := by simp [h0]
  have HC := Lib.hid hc
  have H0 := Lib.hid h0
  obtain ⟨A, c, rfl, _⟩ := ha
  obtain ⟨A', c', rfl, _⟩ := hb
  clear hc h0
  generalize xs.length = L at *
  generalize ys.length = L' at *
  go_enter Try.func74, Try.ntmps74
  go_wp2_with (go_at_call 47; refine HC.out.mono ?_; rintro e w1 ⟨rfl, rfl⟩)
  go_ret2
  exact ⟨rfl, hbA⟩

theorem words_le {n K : Nat} (h : (dig B32 n).length ≤ 2 * K) : (dig B64 n).length ≤ K := by
  have := words_of_limbs n
  unfold B64 B32 at *
  omega

set_option maxHeartbeats 1000000 in
set_option maxRecDepth 100000 in
theorem mul_at {N : Nat} (a b : Value) (m n : Nat) (w : World) (HM : MulAt m n) (hN : N ≤ 1000000000) (ha : N32 w a m) (hb : N32 w b n) (hm : (dig B32 m).length ≤ 262144) (hn : (dig B32 n).length ≤ 262144)
    (hmN : (dig B32 m).length ≤ 2 * N) (hnN : (dig B32 n).length ≤ 2 * N) (hp : nbits (m * n) ≤ 8388608) : Calls Try.prog 74 #[a, b] w (NatOk w (m * n)) := by
  have hc := checkAll_any w.heap.size 2 2 _ _ (nats2 (Limbs.num ha (by omega)) (Limbs.num hb (by omega))) rfl (by omega)
  rw [chkAll2, chk2, if_pos (chk_dig hm), chk_dig hn] at hc
  have hbA := below_new w (.cells #[a, b] 48)
  have ha1 := ha.keep hbA
  have hb1 := hb.keep hbA
  have hf1 := fun w' (h : N32 w' a m) => fromNat_any a m w' h (by omega)
  have hf2 := fun w' (h : N32 w' b n) => fromNat_any b n w' h (by omega)
  have hpr := fun v u w' (h : W64 w' v m) (k : W64 w' u n) => product_at v u m n w' HM hN h k (words_le hmN) (words_le hnN) hp
  have HC := Lib.hid hc
  have HA := Lib.hid ha1
  have HB := Lib.hid hb1
  have HF1 := Lib.hid hf1
  have HF2 := Lib.hid hf2
  have HP := Lib.hid hpr
  obtain ⟨A, c, rfl, _⟩ := ha
  obtain ⟨A', c', rfl, _⟩ := hb
  clear hc ha1 hb1 hf1 hf2 hpr HM hp
  generalize (dig B32 m).length = L at *
  generalize (dig B32 n).length = L' at *
  go_enter Try.func74, Try.ntmps74
  go_wp2_with (go_at_call 47; refine HC.out.mono ?_; rintro e w1 ⟨rfl, rfl⟩)
  go_wp2_with (fail)
  refine (HF1.out _ HA.out).mono ?_
  rintro e w1 ⟨v1, rfl, hv1, hb1⟩
  go_wp2_with (fail)
  refine (HF2.out _ (HB.out.keep hb1)).mono ?_
  rintro e w2 ⟨v2, rfl, hv2, hb2⟩
  go_wp2_with (fail)
  refine (HP.out _ _ _ (hv1.is.keep hb2) hv2.is).mono ?_
  rintro e w3 ⟨v3, rfl, hv3, hb3⟩
  go_wp2
  go_ret2
  have b1 := below_at hbA (Nat.le_refl _) hb1
  have b2 := below_at b1 (Nat.le_refl _) hb2
  exact ⟨_, rfl, hv3.mono b2.size, below_at b2 (Nat.le_refl _) hb3⟩

theorem mul_ok {N : Nat} (HM : MulSpec N) (hN : N ≤ 1000000000) (a b : Value) (m n : Nat) (w : World) (ha : N32 w a m) (hb : N32 w b n) (hm : (dig B32 m).length ≤ 262144) (hn : (dig B32 n).length ≤ 262144)
    (hmN : (dig B32 m).length ≤ 2 * N) (hnN : (dig B32 n).length ≤ 2 * N) (hp : nbits (m * n) ≤ 8388608) : Calls Try.prog 74 #[a, b] w (NatOk w (m * n)) :=
  mul_at a b m n w (fun a b w ha hb => HM a b m n w ha hb (words_le hmN) (words_le hnN)) hN ha hb hm hn hmN hnN hp
end Go.Proofs.Ythgekjkgfccnaaa

namespace Go.Proofs.Ythgekjkgfccnaaa
open Go.RowKit Num

/-- z[off ..] without x: what subFrom leaves. -/
def SubPost (zs xs : List Nat) (g off n : Nat) (w : World) (e : Ending) (w' : World) : Prop :=
  ∃ zs' c, e = .returned (.tuple #[]) ∧ SubSt B64 zs xs off n zs' c ∧ Row .u64 55 w' g zs' ∧ w.grownBy w' (some g)

set_option maxHeartbeats 1000000 in
theorem subFrom_any (g off n c d L : Nat) (zs xs : List Nat) (A : Option Addr) (w : World) (hr : Row .u64 55 w g zs) (hz : Low B64 zs) (hn : off + n ≤ zs.length) (hA : Nums .u64 w A xs) (hx : Low B64 xs)
    (hAg : 0 < xs.length → ∀ a, A = some a → a.block ≠ g) (hL : L = xs.length) (hle : L ≤ n) (hbig : n ≤ 1000000000000) :
    Calls Try.prog 100 #[.slice (some ⟨g, off, none⟩) n c, .slice A L d] w (SubPost zs xs g off n w) := by
  have HL := Lib.hid hL
  clear hL
  go_enter Try.func100, Try.ntmps100
  go_wp2
  go_loopw [4, 10] (fun q t wr => ∃ (k cy : Nat) (zs' : List Nat), k ≤ L ∧ q = .int .u64 (cy : Int) ∧ t = .int .i64 (k : Int) ∧ SubSt B64 zs xs off k zs' cy ∧ Row .u64 55 wr g zs' ∧ w.grownBy wr (some g)) (fun _ t _ => L - (intOf t).toNat)
  case atStart => exact ⟨0, 0, zs, Nat.zero_le _, rfl, rfl, SubSt.start hz, hr, World.grownBy.refl w _⟩
  case round =>
    obtain ⟨k, cy, zs', hk, rfl, rfl, hst, hrow, hgr⟩ := hrel
    by_cases hlt : k < L
    · obtain ⟨q, qo, x, rfl, hq, hxk, hcx⟩ := (hA.grown hAg hgr).at_ (i := k) (by have := HL.out; omega)
      obtain ⟨v, hv⟩ : ∃ v, zs'[off + k]? = some v := ⟨zs'[off + k]'(by have := hst.len; omega), List.getElem?_eq_getElem _⟩
      have hcv := hrow.cell hv
      have hfv := hrow.frozen (off + k)
      have hvl : v < B64 := by have := hst.low v (List.mem_of_getElem? hv); exact this
      have hxl : x < B64 := hx x (List.mem_of_getElem? hxk)
      obtain ⟨lo, hi, hsub, he, hlo, hhi⟩ := sub64_ex v x cy hvl hxl hst.le
      have hst' := hst.step hv (x := x) (by simp [List.getD_eq_getElem?_getD, hxk]) he hlo hhi
      have hrow' := hrow.set (off + k) lo
      have HE := Lib.hid he
      have HV := Lib.hid hv
      have HX := Lib.hid hxk
      clear he hv hxk hA hvl hxl hlo
      go_wp2
      go_roundw
      case rel => exact ⟨k + 1, hi, _, by omega, rfl, by go_num, hst', hrow', grown_set hgr _ _⟩
      case measure => simp [intOf]; omega
    · have hkL : k = L := by omega
      subst hkL
      clear hlt
      have hxL : xs.length ≤ k := by have := HL.out; omega
      clear hA
      go_wp2
      go_loopw [4, 7] (fun q t wr => ∃ (j cy : Nat) (zs' : List Nat), k ≤ j ∧ j ≤ n ∧ q = .int .u64 (cy : Int) ∧ t = .int .i64 (j : Int) ∧ SubSt B64 zs xs off j zs' cy ∧ Row .u64 55 wr g zs' ∧ w.grownBy wr (some g)) (fun _ t _ => n - (intOf t).toNat)
      case atStart => exact ⟨k, cy, zs', Nat.le_refl _, hle, rfl, rfl, hst, hrow, hgr⟩
      case round =>
        clear hst hrow hgr
        obtain ⟨j, cy, zs', hkj, hjn, rfl, rfl, hst, hrow, hgr⟩ := hrel
        have hcle := hst.le
        by_cases hc0 : cy = 0
        · have hq : ((cy : Int) != 0) = false := by simp [hc0]
          have H0 := Lib.hid hc0
          clear hc0
          go_wp2
          go_end0
          exact ⟨zs', cy, rfl, by have h0 := H0.out; subst h0; exact hst.rest hjn (by omega) hn, hrow, hgr⟩
        · have hq : ((cy : Int) != 0) = true := by simp; omega
          clear hc0
          by_cases hjl : j < n
          · obtain ⟨v, hv⟩ : ∃ v, zs'[off + j]? = some v := ⟨zs'[off + j]'(by have := hst.len; omega), List.getElem?_eq_getElem _⟩
            have hcv := hrow.cell hv
            have hfv := hrow.frozen (off + j)
            have hvl : v < B64 := by have := hst.low v (List.mem_of_getElem? hv); exact this
            obtain ⟨lo, hi, hsub, he, hlo, hhi⟩ := sub64_exm v cy hvl hcle
            have hx0 : xs.getD j 0 = 0 := by simp [List.getD_eq_getElem?_getD, List.getElem?_eq_none (show xs.length ≤ j by omega)]
            have hst' := hst.step hv (x := 0) hx0 (by omega) hlo hhi
            have hrow' := hrow.set (off + j) lo
            have HE := Lib.hid he
            have HV := Lib.hid hv
            clear he hv hvl hlo hx0
            go_wp2
            go_roundw
            case rel => exact ⟨j + 1, hi, _, by omega, by omega, rfl, by go_num, hst', hrow', grown_set hgr _ _⟩
            case measure => simp [intOf]; omega
          · have hjn' : j = n := by omega
            subst hjn'
            go_wp2
            go_end0
            exact ⟨zs', cy, rfl, hst, hrow, hgr⟩

theorem sub_fin {b L c : Nat} {xs ys zs' : List Nat} (hb : 2 ≤ b) (hL : xs.length = L) (hL' : ys.length ≤ L) (hy : Low b ys) (hle : val b ys ≤ val b xs)
    (h : SubSt b (lay (List.replicate L 0) 0 xs) ys 0 L zs' c) : val b zs' = val b xs - val b ys := by
  have hlen : (lay (List.replicate L 0) 0 xs).length = L := by rw [lay_len (by simp; omega)]; simp
  have e := h.eq
  have l' : zs'.length = L := h.len.trans hlen
  rw [seg0 l', seg0 hlen, val_lay0, List.take_of_length_le (by omega)] at e
  have h1 := val_lt b zs' h.low
  rw [l'] at h1
  have h5 : c = 0 := by
    rcases Nat.eq_zero_or_pos c with h0 | h0
    · exact h0
    · have : b ^ L * 1 ≤ b ^ L * c := Nat.mul_le_mul_left _ h0
      have h2 := val_lt b ys hy
      have h3 : b ^ ys.length ≤ b ^ L := Nat.pow_le_pow_right (by omega) hL'
      omega
  subst h5
  simp at e
  omega

set_option maxHeartbeats 1000000 in
set_option maxRecDepth 100000 in
theorem diff_core (A A' : Option Addr) (c c' L L' : Nat) (xs ys : List Nat) (w : World) (hA : Nums .u64 w A xs) (hA' : Nums .u64 w A' ys) (hx : Low B64 xs) (hy : Low B64 ys)
    (hL : L = xs.length) (hL' : L' = ys.length) (hle : L' ≤ L) (hbig : L ≤ 100000000000) (hval : val B64 ys ≤ val B64 xs) :
    Calls Try.prog 80 #[.slice A L c, .slice A' L' c'] w (SumPost w (val B64 xs - val B64 ys)) := by
  have hmk := make64 L (by omega)
  have hr0 := Row.made w .u64 L 55
  have hbA : Below w.heap.size w (w.alloc (.cells (madeCells #[.int .u64 0] L) 55)) := (Below.refl _ _).alloc (Nat.le_refl _) _
  have hA0 := hA.keep hbA
  have hlow0 : Low B64 (lay (List.replicate L 0) 0 xs) := lay_low (Low.replicate b64_pos _) hx
  have hlen0 : (lay (List.replicate L 0) 0 xs).length = L := by rw [lay_len (by simp; omega)]; simp
  have hne : 0 < ys.length → ∀ a, A' = some a → a.block ≠ w.heap.size := nums_ne hA' (Nat.le_refl _)
  have hlen1 : 0 + L ≤ (lay (List.replicate L 0) 0 xs).length := by rw [hlen0]; omega
  have HL := Lib.hid hL
  have HL' := Lib.hid hL'
  have HN := Lib.hid hlen0
  have HNE := Lib.hid hne
  have HR0 := Lib.hid hr0
  have HV := Lib.hid hval
  clear hL hL' hlen0 hne hr0 hval
  go_enter Try.func80, Try.ntmps80
  go_wp2_with (first
    | (refine wpList_copy_row rfl (.tmp 9) (.tmp 10) rfl _ _ _ _ _ _ rfl rfl _ 0 _ _ HR0.out hA0 HL.out (by omega) (fun _ => rfl) (by simp) ?_
       intro w1 hr1 hg1
       have hb1 : Below w.heap.size w w1 := hbA.grown hg1 hbA.size (by simp))
    | (go_at_call 100
       refine (subFrom_any w.heap.size 0 L L c' L' _ ys A' _ (by assumption) hlow0 hlen1 (hA'.keep (by assumption)) hy HNE.out HL'.out (by omega) (by omega)).mono ?_
       rintro e w2 ⟨zs', cy, rfl, hst, hr2, hg2⟩
       have hb2 : Below w.heap.size w w2 := hb1.grown hg2 hb1.size (by simp)
       have hl2 : zs'.length = L := hst.len.trans HN.out
       have hn2 : Nums .u64 w2 (some ⟨w.heap.size, 0, none⟩) zs' := by have := hr2.nums0 zs'.length; rwa [List.take_length] at this
       have HL2 := Lib.hid hl2
       clear hl2)
    | (go_at_call 69
       refine (trim_any _ L L zs' _ (by assumption) hst.low HL2.out.symm (Nat.le_refl _) (by omega)).mono ?_
       rintro e w3 ⟨rfl, rfl⟩))
  go_ret
  have hv := sub_fin b64_two HL.out.symm (by rw [← HL'.out]; exact hle) hy HV.out hst
  rw [← hv]
  refine ⟨_, rfl, ?_, hb2⟩
  have := own_of_trim b64_two hr2 hst.low (Nat.le_refl w.heap.size)
  rw [HL2.out] at this
  exact this

/-- difference, of two numbers. -/
theorem diff_any (a b : Value) (m n : Nat) (w : World) (ha : W64 w a m) (hb : W64 w b n) (hm : (dig B64 m).length ≤ 100000000000) (hle : n ≤ m) :
    Calls Try.prog 80 #[a, b] w (SumPost w (m - n)) := by
  obtain ⟨A, c, rfl, _, hA⟩ := ha
  obtain ⟨A', c', rfl, _, hA'⟩ := hb
  have em := val_dig b64_two m
  have en := val_dig b64_two n
  have hlen : (dig B64 n).length ≤ (dig B64 m).length := dig_len_le b64_two (Nat.lt_of_le_of_lt hle (dig_len_lt b64_two))
  have := diff_core A A' c c' _ _ _ _ w hA hA' (dig_low64 m) (dig_low64 n) rfl rfl hlen hm (by rw [em, en]; exact hle)
  rw [em, en] at this
  exact this

end Go.Proofs.Ythgekjkgfccnaaa

namespace Go.Proofs.Ythgekjkgfccnaaa
open Go.RowKit Num

/-- Two plain results; nothing that was there has turned. -/
def Two (w : World) (a b : Value) (e : Ending) (w' : World) : Prop := e = .returned (.tuple #[a, b]) ∧ Below w.heap.size w w'

set_option maxHeartbeats 1000000 in
set_option maxRecDepth 100000 in
theorem cmp_bad (a b : Value) (xs ys : List Nat) (w : World) (ha : Limbs w a xs) (hb : Limbs w b ys) (h0 : chk2 xs ys ≠ 0) : Calls Try.prog 60 #[a, b] w (Two w (.int .i64 0) (.int .i64 (chk2 xs ys))) := by
  have hc := checkAll_any w.heap.size 2 2 _ _ (nats2 ha hb) rfl (by omega)
  rw [chkAll2] at hc
  generalize chk2 xs ys = r at *
  have hbA := below_new w (.cells #[a, b] 48)
  have hq : (r != 0) = true := by simp [h0]
  have HC := Lib.hid hc
  have H0 := Lib.hid h0
  obtain ⟨A, c, rfl, _⟩ := ha
  obtain ⟨A', c', rfl, _⟩ := hb
  clear hc h0
  generalize xs.length = L at *
  generalize ys.length = L' at *
  go_enter Try.func60, Try.ntmps60
  go_wp2_with (go_at_call 47; refine HC.out.mono ?_; rintro e w1 ⟨rfl, rfl⟩)
  go_ret2
  exact ⟨rfl, hbA⟩

set_option maxHeartbeats 1000000 in
set_option maxRecDepth 100000 in
theorem cmp_ok (a b : Value) (m n : Nat) (w : World) (ha : N32 w a m) (hb : N32 w b n) (hm : (dig B32 m).length ≤ 262144) (hn : (dig B32 n).length ≤ 262144) : Calls Try.prog 60 #[a, b] w (Two w (.int .i64 (cmpN m n)) (.int .i64 0)) := by
  have hc := checkAll_any w.heap.size 2 2 _ _ (nats2 (Limbs.num ha (by omega)) (Limbs.num hb (by omega))) rfl (by omega)
  rw [chkAll2, chk2, if_pos (chk_dig hm), chk_dig hn] at hc
  have hbA := below_new w (.cells #[a, b] 48)
  have hcmp : ∀ w', N32 w' a m → N32 w' b n → Calls Try.prog 85 #[a, b] w' fun e w'' => e = .returned (.int .i64 (cmpN m n)) ∧ Below w'.heap.size w' w'' := fun w' h k => by
    obtain ⟨A, c, rfl, _, hA⟩ := h
    obtain ⟨A', c', rfl, _, hA'⟩ := k
    exact compare85 A A' c c' _ _ m n w' hA hA' rfl rfl (by omega) (by omega)
  have hc2 := hcmp _ (ha.keep hbA) (hb.keep hbA)
  generalize cmpN m n = r at *
  have HC := Lib.hid hc
  have HP := Lib.hid hc2
  obtain ⟨A, c, rfl, _⟩ := ha
  obtain ⟨A', c', rfl, _⟩ := hb
  clear hc hc2 hcmp
  generalize (dig B32 m).length = L at *
  generalize (dig B32 n).length = L' at *
  go_enter Try.func60, Try.ntmps60
  go_wp2_with (first
    | (go_at_call 47; refine HC.out.mono ?_; rintro e w1 ⟨rfl, rfl⟩)
    | (go_at_call 85; refine HP.out.mono ?_; rintro e w2 ⟨rfl, hb2⟩))
  go_ret2
  exact ⟨rfl, below_at hbA (Nat.le_refl _) hb2⟩
end Go.Proofs.Ythgekjkgfccnaaa

namespace Go.Proofs.Ythgekjkgfccnaaa
open Go.RowKit Num

/-- The root's first return: where the degree is at least the number's length in bits. -/
theorem root_one (a : Value) (m n : Nat) (w : World) (ha : W64 w a m) (hl : (dig B64 m).length ≤ 1000000000) (hn : nbits m ≤ n) :
    Calls Try.prog 53 #[a, .int .i64 (n : Int)] w (NumPost w 1) := by
  have hb := bits_call a m w ha hl
  have HB := Lib.hid hb
  clear hb ha
  generalize nbits m = r at *
  go_enter Try.func53, Try.ntmps53
  go_wp2_with (go_at_call 75; refine HB.out.mono ?_; rintro e w1 ⟨rfl, rfl⟩)
  go_ret
  exact ⟨_, rfl, (own_one w).is, below_new w _⟩

set_option maxHeartbeats 1000000 in
set_option maxRecDepth 100000 in
/-- The cube root of 27. -/
theorem root_27 (a : Value) (w : World) (ha : W64 w a 27) : Calls Try.prog 53 #[a, .int .i64 3] w (NumPost w 3) := by
  have hb := bits_call a 27 w ha (Nat.le_trans (dig_len_le (k := 1) b64_two (by unfold B64; omega)) (by omega))
  rw [show nbits 27 = 5 by decide +kernel] at hb
  have hlen : ∀ w, Calls Try.prog 76 #[.int .u64 3] w fun e w' => e = .returned (.int .i64 2) ∧ w = w' := fun w => by
    have h := len_nat 3 w (by unfold B64; omega)
    rw [show nbits 3 = 2 by decide +kernel] at h
    exact h
  have small : ∀ k, k ≤ 100 → (dig B64 k).length ≤ 1 := fun k hk => dig_len_le b64_two (by unfold B64; omega)
  have hsr : ∀ w, W64 w a 27 → Calls Try.prog 73 #[a, .int .i64 3] w (NumPost w 3) := fun w h => shiftRight_any a 27 3 w h (Nat.le_trans (small _ (by omega)) (by omega)) (by omega)
  have hrt : ∀ b w, W64 w b 3 → Calls Try.prog 53 #[b, .int .i64 3] w (NumPost w 1) := fun b w h => root_one b 3 3 w h (Nat.le_trans (small _ (by omega)) (by omega)) (by decide +kernel)
  have hsl : ∀ b w, W64 w b 1 → Calls Try.prog 72 #[b, .int .i64 1] w (SumPost w 2) := fun b w h => shiftLeft_any b 1 1 w h (Nat.le_trans (small _ (by omega)) (by omega)) (by omega)
  have hsum : ∀ b c w, W64 w b 2 → W64 w c 1 → Calls Try.prog 77 #[b, c] w (SumPost w 3) := fun b c w h k => sum_any b c 2 1 w h k (Nat.le_trans (small _ (by omega)) (by omega)) (Nat.le_trans (small _ (by omega)) (by omega))
  have hpow : ∀ b w, W64 w b 3 → Calls Try.prog 79 #[b, .int .i64 3] w (SumPost w 27) := fun b w h => power_any mulSpec_small b 3 3 w h (by omega) (Nat.le_trans (small _ (by omega)) (by omega)) (fun j hj => Nat.le_trans (small _ (by
    have : j = 0 ∨ j = 1 ∨ j = 2 ∨ j = 3 := by omega
    rcases this with rfl | rfl | rfl | rfl <;> decide)) (by omega))
  have hcmp : ∀ b c w, W64 w b 27 → W64 w c 27 → Calls Try.prog 67 #[b, c] w fun e w' => e = .returned (.int .i64 0) ∧ Below w.heap.size w w' := fun b c w h k => by
    obtain ⟨A, c1, rfl, _, hA⟩ := h
    obtain ⟨A', c2, rfl, _, hA'⟩ := k
    have := compare83 A A' c1 c2 _ _ 27 27 w hA hA' rfl rfl (Nat.le_trans (small _ (by omega)) (by omega)) (Nat.le_trans (small _ (by omega)) (by omega))
    rw [cmpN_eq] at this
    exact this
  have HB := Lib.hid hb
  have HLEN := Lib.hid hlen
  have HA := Lib.hid ha
  have HSR := Lib.hid hsr
  have HRT := Lib.hid hrt
  have HSL := Lib.hid hsl
  have HSUM := Lib.hid hsum
  have HPOW := Lib.hid hpow
  have HCMP := Lib.hid hcmp
  clear hb ha hlen small hsr hrt hsl hsum hpow hcmp
  go_enter Try.func53, Try.ntmps53
  go_wp2_with (first
    | (go_at_call 75; refine HB.out.mono ?_; rintro e w1 ⟨rfl, rfl⟩)
    | (go_at_call 76; refine (HLEN.out _).mono ?_; rintro e w1 ⟨rfl, rfl⟩)
    | (go_at_call 73; refine (HSR.out _ HA.out).mono ?_; rintro e w1 ⟨v1, rfl, hv1, hb1⟩)
    | (go_at_call 53; refine (HRT.out _ _ hv1).mono ?_; rintro e w2 ⟨v2, rfl, hv2, hb2⟩)
    | (go_at_call 72; refine (HSL.out _ _ hv2).mono ?_; rintro e w3 ⟨v3, rfl, hv3, hb3⟩
       have o1 := own_one w3
       have bw3 := below_new w3 (.cells #[.int .u64 1] 55)
       have k3 := hv3.is.keep bw3)
    | (go_at_call 77; refine (HSUM.out _ _ _ k3 o1.is).mono ?_; rintro e w4 ⟨v4, rfl, hv4, hb4⟩)
    | (go_at_call 79; refine (HPOW.out _ _ hv4.is).mono ?_; rintro e w5 ⟨v5, rfl, hv5, hb5⟩
       have c1 := hb1
       have c2 := below_at c1 (Nat.le_refl _) hb2
       have c3 := below_at c2 (Nat.le_refl _) hb3
       have c4 := below_at (below_at c3 (Nat.le_refl _) bw3) (Nat.le_refl _) hb4
       have c5 := below_at c4 (Nat.le_refl _) hb5
       have k5 := HA.out.keep c5)
    | (go_at_call 67; refine (HCMP.out _ _ _ hv5.is k5).mono ?_; rintro e w6 ⟨rfl, hb6⟩))
  go_ret
  exact ⟨_, rfl, (hv4.is.keep hb5).keep hb6, below_at c5 (Nat.le_refl _) hb6⟩
end Go.Proofs.Ythgekjkgfccnaaa

namespace Go.Proofs.Ythgekjkgfccnaaa
open Go.RowKit Num

theorem small32 {k : Nat} (hk : k < B32) : (dig B32 k).length ≤ 1 := dig_len_le b32_two (by simpa using hk)
theorem small64 {k : Nat} (hk : k < B64) : (dig B64 k).length ≤ 1 := dig_len_le b64_two (by simpa using hk)
theorem dig1 {b k : Nat} (hb : 2 ≤ b) (h0 : k ≠ 0) (hk : k < b) : dig b k = [k] := by
  rw [dig_pos hb h0, Nat.mod_eq_of_lt hk, Nat.div_eq_of_lt hk, dig_zero]

/-- A row of limbs that has just been made reads as a number. -/
theorem new_limbs (w : World) (xs : List Nat) (hl : xs.length ≤ 1000000000000) : Limbs (w.alloc (.cells (ints .u32 xs).toArray 101)) (.slice (some ⟨w.heap.size, 0, none⟩) xs.length xs.length) xs := by
  have hr : Row .u32 101 (w.alloc (.cells (ints .u32 xs).toArray 101)) w.heap.size xs := Row.of_heap (heap_alloc_new _ _)
  refine ⟨_, _, rfl, Nat.le_refl _, hl, ?_⟩
  have := hr.nums0 xs.length
  rwa [List.take_length] at this

def LivesPost (w : World) (e : Ending) (w' : World) : Prop := e = .returned (.bool true) ∧ Below w.heap.size w w'

theorem dig_ff : dig B32 4294967295 = [4294967295] := dig1 b32_two (by omega) (by unfold B32; omega)
theorem dig_sq : dig B32 (4294967295 * 4294967295) = [1, 4294967294] := by
  refine dig_of b32_two (Low.cons (by unfold B32; omega) (Low.cons (by unfold B32; omega) (Low.nil _))) ?_ ?_
  · exact .inr ⟨[1], 4294967294, rfl, by omega⟩
  · simp [val, B32]
theorem nbits_sq : nbits (4294967295 * 4294967295) ≤ 8388608 := Nat.le_trans (nbits_le (k := 64) (by omega)) (by omega)

end Go.Proofs.Ythgekjkgfccnaaa

namespace Go.Proofs.Ythgekjkgfccnaaa
open Go.RowKit Num

/-- Limbs of the call's own. -/
def OwnLs (B : Nat) (w : World) (v : Value) (ys : List Nat) : Prop := w.ownsRow B 101 1 v ys.length (ints .u32 ys)
theorem OwnLs.limbs {B : Nat} {w : World} {v : Value} {ys : List Nat} (h : OwnLs B w v ys) (hl : ys.length ≤ 1000000000000) : Limbs w v ys := by
  obtain ⟨A, c, e, hc, hn⟩ := own_reads h
  exact ⟨A, c, e, hc, hl, hn⟩
def LsPost (w : World) (ys : List Nat) (e : Ending) (w' : World) : Prop := ∃ v, e = .returned v ∧ OwnLs w.heap.size w' v ys ∧ Below w.heap.size w w'

theorem nums_cells {k : IntKind} {w : World} {ad : Addr} {xs : List Nat} (h : Nums k w (some ad) xs) : ∀ (j : Nat) (u : Value), (ints k xs)[j]? = some u → w.cell? (ad.add j) = some u := by
  intro j u hu
  simp only [ints, List.getElem?_map, Option.map_eq_some_iff] at hu
  obtain ⟨x, hx, rfl⟩ := hu
  obtain ⟨g, off, e, _, hc⟩ := h (by have := (List.getElem?_eq_some_iff.1 hx).1; omega)
  injection e with e
  subst e
  have := hc j x hx
  unfold Addr.add
  split
  · rename_i h0; subst h0; exact this
  · exact this
theorem ints_one (k : IntKind) (xs : List Nat) : ∀ u ∈ ints k xs, u.oneCell' = true := by
  intro u hu
  simp only [ints, List.mem_map] at hu
  obtain ⟨x, _, rfl⟩ := hu
  rfl

end Go.Proofs.Ythgekjkgfccnaaa

namespace Go.Proofs.Ythgekjkgfccnaaa
open Go.RowKit Num

def Ret2 (w : World) (a b : Value) (e : Ending) (w' : World) : Prop := e = .returned (.tuple #[a, b]) ∧ Below w.heap.size w w'

set_option maxHeartbeats 1000000 in
set_option maxRecDepth 100000 in
theorem uint64_bad (a : Value) (xs : List Nat) (w : World) (ha : Limbs w a xs) (h0 : chk xs ≠ 0) : Calls Try.prog 33 #[a] w (Ret2 w (.int .u64 0) (.int .i64 (chk xs))) := by
  have hc := checkAll_any w.heap.size 1 1 _ _ (nats1 ha) rfl (by omega)
  rw [chkAll1] at hc
  generalize chk xs = r at *
  have hbA := below_new w (.cells #[a] 48)
  have hq : (r != 0) = true := by simp [h0]
  have HC := Lib.hid hc
  have H0 := Lib.hid h0
  obtain ⟨A, c, rfl, _⟩ := ha
  clear hc h0
  generalize xs.length = L at *
  go_enter Try.func33, Try.ntmps33
  go_wp2_with (go_at_call 47; refine HC.out.mono ?_; rintro e w1 ⟨rfl, rfl⟩)
  go_ret2
  exact ⟨rfl, hbA⟩

set_option maxHeartbeats 1000000 in
set_option maxRecDepth 100000 in
theorem uint64_range (a : Value) (n : Nat) (w : World) (ha : N32 w a n) (hl : (dig B32 n).length ≤ 262144) (h2 : 2 < (dig B32 n).length) : Calls Try.prog 33 #[a] w (Ret2 w (.int .u64 0) (.int .i64 5)) := by
  have hc := checkAll_any w.heap.size 1 1 _ _ (nats1 (Limbs.num ha (by omega))) rfl (by omega)
  rw [chkAll1, chk_dig hl] at hc
  have hbA := below_new w (.cells #[a] 48)
  have HC := Lib.hid hc
  obtain ⟨A, c, rfl, _⟩ := ha
  clear hc
  generalize (dig B32 n).length = L at *
  go_enter Try.func33, Try.ntmps33
  go_wp2_with (go_at_call 47; refine HC.out.mono ?_; rintro e w1 ⟨rfl, rfl⟩)
  go_ret2
  exact ⟨rfl, hbA⟩

set_option maxHeartbeats 1000000 in
set_option maxRecDepth 100000 in
theorem uint64_ok (a : Value) (n : Nat) (w : World) (ha : N32 w a n) (hl : (dig B32 n).length ≤ 2) : Calls Try.prog 33 #[a] w (Ret2 w (.int .u64 (n : Nat)) (.int .i64 0)) := by
  have hc := checkAll_any w.heap.size 1 1 _ _ (nats1 (Limbs.num ha (by omega))) rfl (by omega)
  rw [chkAll1, chk_dig (by omega)] at hc
  have hbA := below_new w (.cells #[a] 48)
  have hf := fromNat_any a n _ (ha.keep hbA) (by omega)
  have hlt : n < B64 := by
    have h1 := dig_len_lt b32_two (n := n)
    have h2 := Nat.pow_le_pow_right b32_pos hl
    have : B32 ^ 2 = B64 := by decide
    omega
  have hwin : ∀ v w', W64 w' v n → Calls Try.prog 54 #[v, .int .i64 0] w' fun e w'' => e = .returned (.int .u64 (n : Nat)) ∧ w' = w'' := fun v w' h => by
    obtain ⟨A, c, rfl, _, hA⟩ := h
    have := window_any A c _ n 0 w' hA rfl (Nat.le_trans (words_le (K := 1) (by omega)) (by omega)) (by omega)
    rw [Nat.pow_zero, Nat.div_one, Nat.mod_eq_of_lt hlt] at this
    exact this
  have HC := Lib.hid hc
  have HF := Lib.hid hf
  have HW := Lib.hid hwin
  obtain ⟨A, c, rfl, _⟩ := ha
  clear hc hf hwin hlt
  generalize (dig B32 n).length = L at *
  go_enter Try.func33, Try.ntmps33
  go_wp2_with (first
    | (go_at_call 47; refine HC.out.mono ?_; rintro e w1 ⟨rfl, rfl⟩)
    | (go_at_call 49; refine HF.out.mono ?_; rintro e w1 ⟨v1, rfl, hv1, hb1⟩)
    | (go_at_call 54; refine (HW.out _ _ hv1.is).mono ?_; rintro e w2 ⟨rfl, rfl⟩))
  go_ret2
  exact ⟨rfl, below_at hbA (Nat.le_refl _) hb1⟩
end Go.Proofs.Ythgekjkgfccnaaa

namespace Go.Proofs.Ythgekjkgfccnaaa
open Go.RowKit Num

end Go.Proofs.Ythgekjkgfccnaaa

namespace Go.Proofs.Ythgekjkgfccnaaa
open Go.RowKit Num

theorem div_step {n k x : Nat} (hx : (dig B32 n)[k]? = some x) : n / B32 ^ (k + 1) * 4294967296 + x = n / B32 ^ k := by
  have e := dig_getElem? b32_two hx
  rw [Nat.pow_succ, ← Nat.div_div_eq_div_mul]
  have := Nat.mod_add_div (n / B32 ^ k) B32
  rw [← e] at this
  unfold B32 at *
  omega

set_option maxHeartbeats 1000000 in
set_option maxRecDepth 100000 in
theorem refTrim_any (A : Option Addr) (c n : Nat) (xs : List Nat) (w : World) (h : Nums .u32 w A xs) (hlow : Low B32 xs) (hn : n = xs.length) (hc : n ≤ 1000000000) :
    Calls Try.prog 82 #[.slice A n c] w (LsPost w (dig B32 (val B32 xs))) := by
  subst hn
  have fin : ∀ k, k ≤ xs.length → ZeroFrom xs k → (∀ v, 0 < k → xs[k - 1]? = some v → v ≠ 0) → xs.take k = dig B32 (val B32 xs) := fun k hk hz hn => trim_val b32_two hlow hk hz hn
  have FIN := Lib.hid fin
  clear fin
  obtain ⟨ds, hds⟩ : ∃ ds, dig B32 (val B32 xs) = ds := ⟨_, rfl⟩
  rw [hds] at FIN ⊢
  have HDS := Lib.hid hds
  clear hds hlow
  obtain ⟨i0, hi, hz0, hz1, hz2⟩ := info_parts info101
  have ho := own_empty w 101
  have hbA := below_new w (.cells #[] 101)
  have HO := Lib.hid ho
  have H := Lib.hid h
  clear ho
  go_enter Try.func82, Try.ntmps82
  go_wp2
  go_loop [3] (fun t => ∃ k : Nat, k ≤ xs.length ∧ t = .int .i64 k ∧ ZeroFrom xs k) (fun t => (intOf t).toNat)
  case atStart => exact ⟨xs.length, Nat.le_refl _, rfl, fun i v hv hi => by have := (List.getElem?_eq_some_iff.1 hv).1; omega⟩
  case round =>
    obtain ⟨k, hk, rfl, hz⟩ := hrel
    have hex : (∃ v, 0 < k ∧ xs[k - 1]? = some v ∧ v = 0) ∨ (∀ v, 0 < k → xs[k - 1]? = some v → v ≠ 0) := by
      by_cases hh : ∃ v, 0 < k ∧ xs[k - 1]? = some v ∧ v = 0
      · exact .inl hh
      · exact .inr fun v h1 h2 h3 => hh ⟨v, h1, h2, h3⟩
    rcases hex with ⟨v, hp, hv, hv0⟩ | hfin
    · obtain ⟨g, off, v', rfl, hg, hv', hc1⟩ := h.at_ (i := k - 1) (by omega)
      have e : v' = v := by rw [hv] at hv'; injection hv' with hv'; exact hv'.symm
      subst e
      have hq : ((v' : Int) == 0) = true := by simp [hv0]
      have HV := Lib.hid hv
      have H0 := Lib.hid hv0
      clear hv hv' hv0 h
      go_wp2
      go_round
      case rel =>
        refine ⟨k - 1, by omega, by congr 1; omega, fun i u hu hi => ?_⟩
        by_cases e : i = k - 1
        · have := HV.out; rw [e] at hu; rw [hu] at this; injection this with this; rw [this]; exact H0.out
        · exact hz i u hu (by omega)
      case measure => simp [intOf]; omega
    · have htk := FIN.out k hk hz hfin
      have HT := Lib.hid htk
      clear htk
      by_cases hp : 0 < k
      · obtain ⟨g, off, v, rfl, hg, hv, hc1⟩ := h.at_ (i := k - 1) (by omega)
        have hq : ((v : Int) == 0) = false := by have := hfin v hp hv; simp; omega
        have HV := Lib.hid hv
        clear hv h hfin
        go_wp2
        go_loopw [4, 5] (fun out t wr => ∃ m : Nat, m ≤ k ∧ t = .int .i64 (m : Int) ∧ wr.ownsRow w.heap.size 101 1 out m (ints .u32 (xs.take m)) ∧ Below w.heap.size w wr) (fun _ t _ => k - (intOf t).toNat)
        case atStart => exact ⟨0, Nat.zero_le _, rfl, HO.out, hbA⟩
        case round =>
          clear hbA HO
          obtain ⟨m, hm, rfl, hown, hbl⟩ := hrel
          by_cases hlt : m < k
          · obtain ⟨q, qo, u, e0, hq', hu, hcu⟩ := (H.out.keep hbl).at_ (i := m) (by omega)
            first | (injection e0 with e0; injection e0 with e1 e2 e3; subst e1; subst e2) | subst e0
            have htk2 : ints .u32 (xs.take m) ++ [.int .u32 (u : Int)] = ints .u32 (xs.take (m + 1)) := by
              have hml : m < xs.length := by omega
              rw [List.take_succ_eq_append_getElem hml, (List.getElem?_eq_some_iff.1 hu).2]; simp [ints]
            have HT2 := Lib.hid htk2
            have HU := Lib.hid hu
            clear htk2 hu
            go_wp2_with (at_builtin
                         refine wpList_append_own _ rfl _ _ 79 rfl w.heap.size 101 i0 (.int .u32 0) 1 4 Try.underlying79 hi hz0 hz1 hz2 rfl (by decide) _ m _ rfl (hown.alloc _) ⟨wr.heap.size, 0, none⟩ 1 1 [.int .u32 (u : Int)] rfl rfl (cell_one_new _ _ _) (ints_one .u32 [u]) ?c4 ?c5 (Nat.le_trans hbl.size (by simp)) ?_)
            case c4 => unfold maxLen; omega
            case c5 => omega
            intro v' w1 hown1 hgr1 _
            have hb1 : Below w.heap.size w w1 := (hbl.alloc hbl.size _).grown hgr1 (Nat.le_trans hbl.size (by simp)) (fun g' hg' => by
              rcases hown.2 with ⟨rfl, _⟩ | ⟨g2, cap, cur, rfl, hg2, _⟩
              · simp [Value.ownBlock] at hg'
              · simp [Value.ownBlock] at hg'; omega)
            rw [HT2.out] at hown1
            have H1 := Lib.hid hown1
            clear hown1 hown
            go_wp2
            go_roundw
            case rel => exact ⟨m + 1, by omega, by go_num, H1.out, hb1⟩
            case measure => simp [intOf]; omega
          · have hmk : m = k := by omega
            subst hmk
            clear hlt
            rw [HT.out] at hown
            have hlen : ds.length = m := by rw [← HT.out, List.length_take]; omega
            have HLEN := Lib.hid hlen
            have HOW := Lib.hid hown
            clear hlen hown
            go_wp2
            go_ret
            have := HOW.out
            rw [← HLEN.out] at this
            exact ⟨_, rfl, this, hbl⟩
      · clear h hfin
        go_wp2
        go_loopw [4, 5] (fun out t wr => ∃ m : Nat, m ≤ k ∧ t = .int .i64 (m : Int) ∧ wr.ownsRow w.heap.size 101 1 out m (ints .u32 (xs.take m)) ∧ Below w.heap.size w wr) (fun _ t _ => k - (intOf t).toNat)
        case atStart => exact ⟨0, Nat.zero_le _, rfl, HO.out, hbA⟩
        case round =>
          clear hbA HO
          obtain ⟨m, hm, rfl, hown, hbl⟩ := hrel
          by_cases hlt : m < k
          · exfalso; omega
          · have hmk : m = k := by omega
            subst hmk
            clear hlt
            rw [HT.out] at hown
            have hlen : ds.length = m := by rw [← HT.out, List.length_take]; omega
            have HLEN := Lib.hid hlen
            have HOW := Lib.hid hown
            clear hlen hown
            go_wp2
            go_ret
            have := HOW.out
            rw [← HLEN.out] at this
            exact ⟨_, rfl, this, hbl⟩
end Go.Proofs.Ythgekjkgfccnaaa

namespace Go.Proofs.Ythgekjkgfccnaaa
open Go.RowKit Num

set_option maxHeartbeats 1000000 in
set_option maxRecDepth 100000 in
theorem refOf_any (v : Nat) (hv : v < B64) (w : World) : Calls Try.prog 81 #[.int .u64 (v : Int)] w (LsPost w (dig B32 v)) := by
  obtain ⟨lo, hlo⟩ : ∃ lo, v % 4294967296 = lo := ⟨_, rfl⟩
  obtain ⟨hi, hhi⟩ : ∃ hi, v / 4294967296 = hi := ⟨_, rfl⟩
  have l1 : lo < B32 := by unfold B32; omega
  have l2 : hi < B32 := by unfold B32; unfold B64 at hv; omega
  have e1 : (v : Int) % 4294967296 = (lo : Int) := by omega
  have e2 : (v : Int) / 4294967296 = (hi : Int) := by omega
  have w1 : IntKind.u32.wrap (lo : Int) = (lo : Int) := by rw [IntKind.wrap_u32']; unfold B32 at l1; omega
  have w2 : IntKind.u32.wrap (hi : Int) = (hi : Int) := by rw [IntKind.wrap_u32']; unfold B32 at l2; omega
  have w3 : IntKind.u64.wrap (hi : Int) = (hi : Int) := by rw [IntKind.wrap_u64]; unfold B32 at l2; omega
  have w4 : (hi : Int) % 4294967296 = (hi : Int) := by unfold B32 at l2; omega
  have hval : val B32 [lo, hi] = v := by simp only [val]; unfold B32; omega
  have hlow : Low B32 [lo, hi] := Low.cons l1 (Low.cons l2 (Low.nil _))
  have hl := new_limbs w [lo, hi] (by simp)
  have hbA := below_new w (.cells (ints .u32 [lo, hi]).toArray 101)
  have ht : Calls Try.prog 82 #[.slice (some ⟨w.heap.size, 0, none⟩) 2 2] (w.alloc (.cells #[.int .u32 (lo : Int), .int .u32 (hi : Int)] 101)) (LsPost (w.alloc (.cells #[.int .u32 (lo : Int), .int .u32 (hi : Int)] 101)) (dig B32 v)) := by
    obtain ⟨A, c, e, _, _, hn⟩ := hl
    injection e with e1 e2 e3
    subst e1
    have := refTrim_any _ 2 2 [lo, hi] _ hn hlow rfl (by omega)
    rw [hval] at this
    exact this
  have HT := Lib.hid ht
  have H1 := Lib.hid hlo
  have H2 := Lib.hid hhi
  clear ht hl hval hlow hlo hhi l1 l2 hv
  go_enter Try.func81, Try.ntmps81
  go_wp2_with (go_at_call 82; refine HT.out.mono ?_; rintro e w1 ⟨r, rfl, hr, hb⟩)
  go_ret
  refine ⟨_, rfl, ?_, below_at hbA (Nat.le_refl _) hb⟩
  obtain ⟨q1, q2⟩ := hr
  refine ⟨q1, ?_⟩
  rcases q2 with q2 | ⟨g, c, cur, e, hg, r⟩
  · exact .inl q2
  · exact .inr ⟨g, c, cur, e, by simp at hg; omega, r⟩
end Go.Proofs.Ythgekjkgfccnaaa

namespace Go.Proofs.Ythgekjkgfccnaaa
open Go.RowKit Num

theorem check_l (a : Value) (xs : List Nat) (w : World) (h : Limbs w a xs) : Calls Try.prog 66 #[a] w fun e w' => e = .returned (.int .i64 (chk xs)) ∧ w = w' := by
  obtain ⟨A, c, rfl, _, hl, hA⟩ := h
  exact check_any A c _ xs w hA rfl hl
/-- Limbs that Check takes are the digits of a number. -/
theorem chk_zero {xs : List Nat} (hlow : Low B32 xs) (h : chk xs = 0) : xs = dig B32 (val B32 xs) := by
  refine (dig_val b32_two hlow ((neat_iff xs).2 fun hl h0 => ?_)).symm
  unfold chk at h
  split at h
  · cases h
  · rw [if_pos ⟨hl, by rw [List.getD_eq_getElem?_getD, List.getElem?_eq_getElem (by omega)]; exact h0⟩] at h
    cases h
theorem len_u64 {v : Nat} (hv : v < B64) : (dig B32 v).length ≤ 2 := by
  have e : B32 ^ 2 = B64 := by decide
  exact dig_len_le b32_two (by omega)
end Go.Proofs.Ythgekjkgfccnaaa

namespace Go.Proofs.Ythgekjkgfccnaaa
open Go.RowKit Num

theorem cmp64_call (a b : Value) (m n : Nat) (w : World) (ha : W64 w a m) (hb : W64 w b n) (hm : (dig B64 m).length ≤ 1000000000) (hn : (dig B64 n).length ≤ 1000000000) :
    Calls Try.prog 67 #[a, b] w fun e w' => e = .returned (.int .i64 (cmpN m n)) ∧ Below w.heap.size w w' := by
  obtain ⟨A, c, rfl, _, hA⟩ := ha
  obtain ⟨A', c', rfl, _, hA'⟩ := hb
  exact compare83 A A' c c' _ _ m n w hA hA' rfl rfl (by omega) (by omega)

end Go.Proofs.Ythgekjkgfccnaaa

namespace Go.Proofs.Ythgekjkgfccnaaa
open Go.RowKit Num

set_option maxHeartbeats 1000000 in
theorem refCmp_any (A A' : Option Addr) (c c' L L' m n : Nat) (w : World) (h : Nums .u32 w A (dig B32 m)) (h' : Nums .u32 w A' (dig B32 n)) (hL : L = (dig B32 m).length) (hL' : L' = (dig B32 n).length) (hl : L ≤ 1000000000000) (hl' : L' ≤ 1000000000000) :
    Calls Try.prog 55 #[.slice A L c, .slice A' L' c'] w fun e w' => e = .returned (.int .i64 (cmpN m n)) ∧ Below w.heap.size w w' := by
  obtain ⟨r, hr⟩ : ∃ r, cmpN m n = r := ⟨_, rfl⟩
  rw [hr]
  by_cases hne : L = L'
  · subst hne
    have HL := Lib.hid hL
    have HL' := Lib.hid hL'
    have HR := Lib.hid hr
    clear hL hL' hr
    go_enter Try.func55, Try.ntmps55
    go_wp2
    go_loopw [5] (fun t wr => ∃ k : Nat, k ≤ L ∧ t = .int .i64 ((k : Int) - 1) ∧ Hid (m / B32 ^ k = n / B32 ^ k) ∧ Below w.heap.size w wr) (fun t _ => (intOf t + 1).toNat)
    case atStart => exact ⟨L, Nat.le_refl _, rfl, Lib.hid (by rw [div_pow_len b32_two (by rw [← HL.out]; exact Nat.le_refl _), div_pow_len b32_two (by rw [← HL'.out]; exact Nat.le_refl _)]), Below.refl _ _⟩
    case round =>
      obtain ⟨k, hk, rfl, hd, hb⟩ := hrel
      by_cases h0 : k = 0
      · subst h0
        have hmn : m = n := by have := hd.out; simpa using this
        have hr0 : r = 0 := by have := HR.out; rw [hmn, cmpN_eq] at this; exact this.symm
        have H0 := Lib.hid hr0
        clear hmn hr0
        go_wp2
        go_ret
        exact ⟨ret_i H0.out.symm, hb⟩
      · obtain ⟨j, rfl⟩ : ∃ j, k = j + 1 := ⟨k - 1, by omega⟩
        obtain ⟨g, off, x, rfl, hg, hx, hcx⟩ := (h.keep hb).at_ (i := j) (by have := HL.out; omega)
        obtain ⟨g', off', y, rfl, hg', hy, hcy⟩ := (h'.keep hb).at_ (i := j) (by have := HL'.out; omega)
        clear h h'
        rcases Nat.lt_trichotomy x y with hxy | hxy | hxy
        · have hc : r = -1 := by rw [← HR.out]; exact cmpN_lt (lt_of_digit b32_two hx hy hd.out hxy)
          have HC := Lib.hid hc
          clear hc hx hy
          go_wp2
          go_quiet (fail)
          go_wp2
          go_ret
          exact ⟨ret_i HC.out.symm, below_drewN hb _⟩
        · have hd' : m / B32 ^ j = n / B32 ^ j := eq_step b32_two hx (by rw [hxy]; exact hy) hd.out
          have HD := Lib.hid hd'
          have h1 : ¬ x < y := by omega
          have h2 : ¬ y < x := by omega
          clear hxy hd' hx hy
          go_wp2
          go_quiet (fail)
          go_wp2
          go_quiet (fail)
          go_wp2
          go_roundw
          case rel => exact ⟨j, by omega, by congr 1, HD, below_drewN hb _⟩
          case measure => simp [intOf]
        · have hc : r = 1 := by rw [← HR.out]; exact cmpN_gt (lt_of_digit b32_two hy hx hd.out.symm hxy)
          have HC := Lib.hid hc
          have h1 : ¬ x < y := by omega
          clear hc hx hy
          go_wp2
          go_quiet (fail)
          go_wp2
          go_quiet (fail)
          go_wp2
          go_ret
          exact ⟨ret_i HC.out.symm, below_drewN (below_drewN hb _) _⟩
  · have hn' : ((L : Int) != (L' : Int)) = true := by simp; omega
    have hc : cmpN L L' = r := by rw [← hr, hL, hL'] at *; exact cmp_of_len b32_two hne
    have HC := Lib.hid hc
    clear hc h h' hL hL' hr
    by_cases hlt : L < L'
    · have hr1 : r = -1 := by rw [← HC.out]; exact cmpN_lt hlt
      have H1 := Lib.hid hr1
      clear hr1
      go_enter Try.func55, Try.ntmps55
      go_wp2
      go_ret
      exact ⟨ret_i H1.out.symm, Below.refl _ _⟩
    · have hr1 : r = 1 := by rw [← HC.out]; exact cmpN_gt (by omega)
      have H1 := Lib.hid hr1
      clear hr1
      go_enter Try.func55, Try.ntmps55
      go_wp2
      go_ret
      exact ⟨ret_i H1.out.symm, Below.refl _ _⟩

theorem refCmp_call (a b : Value) (m n : Nat) (w : World) (ha : N32 w a m) (hb : N32 w b n) (hm : (dig B32 m).length ≤ 1000000000) (hn : (dig B32 n).length ≤ 1000000000) :
    Calls Try.prog 55 #[a, b] w fun e w' => e = .returned (.int .i64 (cmpN m n)) ∧ Below w.heap.size w w' := by
  obtain ⟨A, c, rfl, _, hA⟩ := ha
  obtain ⟨A', c', rfl, _, hA'⟩ := hb
  exact refCmp_any A A' c c' _ _ m n w hA hA' rfl rfl (by omega) (by omega)

end Go.Proofs.Ythgekjkgfccnaaa

namespace Go.Proofs.Ythgekjkgfccnaaa
open Go.RowKit Num

theorem val_take_getD (b : Nat) (xs : List Nat) (k : Nat) : val b (xs.take (k + 1)) = val b (xs.take k) + b ^ k * xs.getD k 0 := by
  by_cases hk : k < xs.length
  · rw [val_take_succ b xs k hk]
    simp [List.getD_eq_getElem?_getD, List.getElem?_eq_getElem hk]
  · rw [List.take_of_length_le (by omega), List.take_of_length_le (by omega)]
    simp [List.getD_eq_getElem?_getD, List.getElem?_eq_none (show xs.length ≤ k by omega)]
theorem getD_low {b : Nat} (hb : 0 < b) {xs : List Nat} (h : Low b xs) (k : Nat) : xs.getD k 0 < b := by
  rw [List.getD_eq_getElem?_getD]
  cases e : xs[k]? with
  | none => simpa using hb
  | some v => exact h v (List.mem_of_getElem? e)

/-- Digits that are appended, one after the other: the sum of the first k of both, but for the carry. -/
structure AddOut (xs ys : List Nat) (k : Nat) (os : List Nat) (c : Nat) : Prop where
  len : os.length = k
  low : Low B32 os
  le : c ≤ 1
  eq : val B32 os + B32 ^ k * c = val B32 (xs.take k) + val B32 (ys.take k)
theorem AddOut.start (xs ys : List Nat) : AddOut xs ys 0 [] 0 := ⟨rfl, Low.nil _, by omega, by simp [val]⟩
theorem AddOut.step {xs ys os : List Nat} {k c lo hi : Nat} (h : AddOut xs ys k os c) (hs : lo + B32 * hi = xs.getD k 0 + ys.getD k 0 + c) (hlo : lo < B32) (hhi : hi ≤ 1) :
    AddOut xs ys (k + 1) (os ++ [lo]) hi := by
  refine ⟨by simp [h.len], h.low.append (Low.cons hlo (Low.nil _)), hhi, ?_⟩
  rw [val_snoc, val_take_getD, val_take_getD, h.len]
  have e := h.eq
  have : B32 ^ k * (lo + B32 * hi) = B32 ^ k * (xs.getD k 0 + ys.getD k 0 + c) := by rw [hs]
  rw [Nat.pow_succ]
  grind
theorem AddOut.fin {xs ys os : List Nat} {k c : Nat} (h : AddOut xs ys k os c) (hx : xs.length ≤ k) (hy : ys.length ≤ k) : val B32 (os ++ [c]) = val B32 xs + val B32 ys := by
  have e := h.eq
  rw [List.take_of_length_le hx, List.take_of_length_le hy] at e
  rw [val_snoc, h.len]
  exact e

/-- A sum of three words that stay below 2^64, and its two halves: as the walk shows them. -/
theorem add3_ex (x y c : Nat) (hx : x < B32) (hy : y < B32) (hc : c ≤ 1) : ∃ s1 s lo hi : Nat,
    IntKind.u64.wrap ((x : Int) + (y : Int)) = (s1 : Int) ∧ IntKind.u64.wrap ((s1 : Int) + (c : Int)) = (s : Int) ∧ (s : Int) % 4294967296 = (lo : Int) ∧ (s : Int) / 4294967296 = (hi : Int) ∧
    IntKind.u32.wrap (lo : Int) = (lo : Int) ∧ (lo : Int) % 4294967296 = (lo : Int) ∧ IntKind.u64.wrap (hi : Int) = (hi : Int) ∧ lo + B32 * hi = x + y + c ∧ lo < B32 ∧ hi ≤ 1 := by
  unfold B32 at *
  refine ⟨x + y, x + y + c, (x + y + c) % 4294967296, (x + y + c) / 4294967296, ?_, ?_, by omega, by omega, ?_, by omega, ?_, by omega, by omega, by omega⟩
  · rw [IntKind.wrap_u64]; omega
  · rw [IntKind.wrap_u64]; omega
  · rw [IntKind.wrap_u32']; omega
  · rw [IntKind.wrap_u64]; omega

theorem refTrim_l (a : Value) (xs : List Nat) (w : World) (h : Limbs w a xs) (hlow : Low B32 xs) (hl : xs.length ≤ 1000000000) : Calls Try.prog 82 #[a] w (LsPost w (dig B32 (val B32 xs))) := by
  obtain ⟨A, c, rfl, _, _, hA⟩ := h
  exact refTrim_any A c _ xs w hA hlow rfl hl
theorem OwnLs.mono {B B' : Nat} {w : World} {v : Value} {ys : List Nat} (h : OwnLs B w v ys) (hB : B' ≤ B) : OwnLs B' w v ys := by
  obtain ⟨h1, h2⟩ := h
  refine ⟨h1, ?_⟩
  rcases h2 with h2 | ⟨g, c, cur, e, hg, r⟩
  · exact .inl h2
  · exact .inr ⟨g, c, cur, e, by omega, r⟩

end Go.Proofs.Ythgekjkgfccnaaa

/- Plain laws: the two halves of a number, and Karatsuba's three products. -/
namespace Go.Proofs.Num
theorem dig_drop {b : Nat} (hb : 2 ≤ b) (n k : Nat) : (dig b n).drop k = dig b (n / b ^ k) := by
  induction k generalizing n with
  | zero => simp
  | succ k ih =>
    by_cases hn : n = 0
    · subst hn; simp [dig_zero]
    · rw [dig_pos hb hn, List.drop_succ_cons, ih, Nat.div_div_eq_div_mul, Nat.pow_succ, Nat.mul_comm]
theorem val_take_dig {b : Nat} (hb : 2 ≤ b) (n k : Nat) (hk : k ≤ (dig b n).length) : val b ((dig b n).take k) = n % b ^ k := by
  have h1 := val_take_drop b (dig b n) k hk
  rw [val_dig hb, dig_drop hb, val_dig hb] at h1
  have h2 := val_lt b _ ((low_dig hb n).take k)
  rw [List.length_take, Nat.min_eq_left hk] at h2
  have h3 := Nat.mod_add_div n (b ^ k)
  omega
theorem dig_len_mod {b : Nat} (hb : 2 ≤ b) (n k : Nat) : (dig b (n % b ^ k)).length ≤ k := dig_len_le hb (Nat.mod_lt _ (Nat.pow_pos (by omega)))
theorem dig_len_div {b : Nat} (hb : 2 ≤ b) (n k : Nat) : (dig b (n / b ^ k)).length = (dig b n).length - k := by rw [← dig_drop hb, List.length_drop]
/-- The middle product, without the two others. -/
theorem kara_mid (m0 m1 n0 n1 : Nat) : (m0 + m1) * (n0 + n1) - m0 * n0 - m1 * n1 = m0 * n1 + m1 * n0 ∧ m0 * n0 ≤ (m0 + m1) * (n0 + n1) ∧ m1 * n1 ≤ (m0 + m1) * (n0 + n1) - m0 * n0 := by
  have e : (m0 + m1) * (n0 + n1) = m0 * n0 + m0 * n1 + m1 * n0 + m1 * n1 := by grind
  rw [e]
  omega
theorem kara_sum (m0 m1 n0 n1 x : Nat) : (m0 + x * m1) * (n0 + x * n1) = m0 * n0 + x * x * (m1 * n1) + x * (m0 * n1 + m1 * n0) := by grind
end Go.Proofs.Num
namespace Go.Proofs.Num
theorem val_lay_add {b : Nat} {zs ys : List Nat} {off : Nat} (h : off + ys.length ≤ zs.length) (hz : ∀ (i v : Nat), off ≤ i → i < off + ys.length → zs[i]? = some v → v = 0) :
    val b (zs.take off ++ (ys ++ zs.drop (off + ys.length))) = val b zs + b ^ off * val b ys := by
  have e1 := val_take_drop b zs off (by omega)
  have e2 := val_take_drop b (zs.drop off) ys.length (by rw [List.length_drop]; omega)
  have e3 : val b ((zs.drop off).take ys.length) = 0 := val_zero fun i v hv => by
    have := seg_get? zs off ys.length i
    unfold seg at this
    rw [this] at hv
    split at hv
    · exact hz _ v (by omega) (by omega) hv
    · cases hv
  rw [e3, List.drop_drop] at e2
  rw [val_append, val_append, List.length_take, Nat.min_eq_left (by omega), e1, e2]
  grind
/-- What addTo leaves of a whole number, when nothing is carried out of it. -/
theorem AddSt.whole {b : Nat} {zs xs zs' : List Nat} {off n c N : Nat} (h : AddSt b zs xs off n zs' c) (hn : off + n = zs.length) (hx : xs.length ≤ n) (hN : val b zs + b ^ off * val b xs = N) (hlt : N < b ^ zs.length) : val b zs' = N := by
  have e := h.eq
  rw [List.take_of_length_le hx] at e
  have l := h.len
  have e1 := val_split (b := b) (zs := zs) (i := off) (j := n) (r := 0) (by omega)
  have e2 := val_split (b := b) (zs := zs') (i := off) (j := n) (r := 0) (by omega)
  have e3 : seg zs' 0 off = seg zs 0 off := seg_congr fun i _ h2 => h.far i (by omega)
  have z1 : val b (seg zs (off + n) 0) = 0 := by rw [seg_zero]; rfl
  have z2 : val b (seg zs' (off + n) 0) = 0 := by rw [seg_zero]; rfl
  rw [z1] at e1
  rw [z2, e3] at e2
  have e4 : val b zs' + b ^ zs.length * c = N := by
    rw [← hN, ← hn, Nat.pow_add]
    clear h hlt hN z1 z2 e3 l
    grind
  have h0 : c = 0 := by
    rcases Nat.eq_zero_or_pos c with h | h
    · exact h
    · have : b ^ zs.length * 1 ≤ b ^ zs.length * c := Nat.mul_le_mul_left _ h
      omega
  subst h0
  simpa using e4
end Go.Proofs.Num

namespace Go.Proofs.Ythgekjkgfccnaaa
open Go.RowKit Num

/-- The first len words of row g make n. -/
structure RawAt (w : World) (g : Nat) (zs : List Nat) (len n : Nat) : Prop where
  row : Row .u64 55 w g zs
  low : Low B64 zs
  le : len ≤ zs.length
  eq : val B64 (seg zs 0 len) = n

theorem subFrom_raw (g len c n m : Nat) (zs : List Nat) (x : Value) (w0 w : World) (hz : RawAt w g zs len m) (hx : W64 w0 x n) (hb : Below w0.heap.size w0 w) (hg : w0.heap.size ≤ g) (hle : n ≤ m) (hbig : len ≤ 1000000000000) :
    Calls Try.prog 100 #[.slice (some ⟨g, 0, none⟩) len c, x] w fun e w' => ∃ zs', e = .returned (.tuple #[]) ∧ RawAt w' g zs' len (m - n) ∧ zs'.length = zs.length ∧ w.grownBy w' (some g) := by
  obtain ⟨A, d, rfl, _, hA⟩ := hx
  have hm : m < B64 ^ len := by
    have := val_lt B64 _ (seg_low hz.low 0 len)
    rw [seg_len (by have := hz.le; omega), hz.eq] at this
    exact this
  have hl : (dig B64 n).length ≤ len := dig_len_le b64_two (by omega)
  refine (subFrom_any g 0 len c d _ zs (dig B64 n) A w hz.row hz.low (by have := hz.le; omega) (hA.keep hb) (dig_low64 n) (nums_ne hA hg) rfl hl hbig).mono ?_
  rintro e w' ⟨zs', cy, rfl, hst, hr, hgr⟩
  have e := hst.eq
  rw [List.take_of_length_le hl, val_dig b64_two, hz.eq] at e
  have h1 := val_lt B64 _ (seg_low hst.low 0 len)
  rw [seg_len (by have := hz.le; have := hst.len; omega)] at h1
  have h0 : cy = 0 := by
    rcases Nat.eq_zero_or_pos cy with h | h
    · exact h
    · have : B64 ^ len * 1 ≤ B64 ^ len * cy := Nat.mul_le_mul_left _ h
      omega
  subst h0
  exact ⟨zs', rfl, ⟨hr, hst.low, by rw [hst.len]; exact hz.le, by simp at e; omega⟩, hst.len, hgr⟩

/-- The low half, trimmed. -/
theorem low_half (A : Option Addr) (c n h : Nat) (w : World) (hA : Nums .u64 w A (dig B64 n)) (hh : h ≤ (dig B64 n).length) (hc : (dig B64 n).length ≤ c) (hbig : h ≤ 1000000000000) :
    Calls Try.prog 69 #[.slice A h c] w fun e w' => e = .returned (.slice A (dig B64 (n % B64 ^ h)).length c) ∧ w = w' := by
  have := trim_any A c h ((dig B64 n).take h) w (hA.take h) ((dig_low64 n).take h) (by rw [List.length_take]; omega) (by omega) hbig
  rw [val_take_dig b64_two n h hh] at this
  exact this
theorem low_is (A : Option Addr) (c n h : Nat) (w : World) (hA : Nums .u64 w A (dig B64 n)) (hh : h ≤ (dig B64 n).length) (hc : (dig B64 n).length ≤ c) : W64 w (.slice A (dig B64 (n % B64 ^ h)).length c) (n % B64 ^ h) := by
  have h1 := trim_take b64_two ((dig_low64 n).take h)
  have h2 := dig_len_mod b64_two n h
  rw [val_take_dig b64_two n h hh] at h1
  refine ⟨A, c, rfl, by omega, ?_⟩
  have := (hA.take h).take (dig B64 (n % B64 ^ h)).length
  rw [h1] at this
  exact this
/-- The high half. -/
theorem high_is (g off c n h : Nat) (w : World) (hA : Nums .u64 w (some ⟨g, off, none⟩) (dig B64 n)) (hc : (dig B64 n).length ≤ c) : W64 w (.slice (some ⟨g, off + h, none⟩) ((dig B64 n).length - h) (c - h)) (n / B64 ^ h) := by
  refine ⟨_, _, by rw [dig_len_div b64_two], by rw [dig_len_div b64_two]; omega, fun hp => ?_⟩
  rw [dig_len_div b64_two] at hp
  obtain ⟨g', off', e, hg, hcell⟩ := hA (by omega)
  injection e with e
  injection e with e1 e2 e3
  subst e1 e2
  refine ⟨g, off + h, rfl, hg, fun i v hv => ?_⟩
  rw [← dig_drop b64_two, List.getElem?_drop] at hv
  have := hcell (h + i) v hv
  rw [← Nat.add_assoc] at this
  exact this
end Go.Proofs.Ythgekjkgfccnaaa

namespace Go.Proofs.Ythgekjkgfccnaaa
open Go.RowKit Num

theorem lt_of_wlen {n k : Nat} (h : (dig B64 n).length ≤ k) : n < B64 ^ k := Nat.lt_of_lt_of_le (dig_len_lt b64_two) (Nat.pow_le_pow_right b64_pos h)
theorem wlen_add {m n K : Nat} (hm : (dig B64 m).length ≤ K) (hn : (dig B64 n).length ≤ K) : (dig B64 (m + n)).length ≤ K + 1 := dig_len_le b64_two (two_pow_lt b64_two (lt_of_wlen hm) (lt_of_wlen hn))

theorem val_two {b L k : Nat} {xs ys : List Nat} (hx : xs.length ≤ k) (hy : k + ys.length ≤ L) : val b (lay (lay (List.replicate L 0) 0 xs) k ys) = val b xs + b ^ k * val b ys := by
  have hl : (lay (List.replicate L 0) 0 xs).length = L := by rw [lay_len (by simp only [List.length_replicate]; omega)]; simp
  have := val_lay_add (b := b) (zs := lay (List.replicate L 0) 0 xs) (ys := ys) (off := k) (by rw [hl]; exact hy) fun i v h1 _ hv => by
    unfold lay at hv
    rw [List.take_zero, List.nil_append, List.getElem?_append_right (by omega), List.getElem?_drop, List.getElem?_replicate] at hv
    split at hv
    · injection hv with hv; exact hv.symm
    · cases hv
  rw [val_lay0] at this
  exact this
theorem mid_lt {m n x y p q a b B N h : Nat} (e : m * n = x + y + B ^ h * (p * q + a * b)) (hlt : m * n < B ^ (h + N)) : p * q + a * b < B ^ N := by
  rw [Nat.pow_add] at hlt
  exact Nat.lt_of_mul_lt_mul_left (a := B ^ h) (by omega)

set_option maxHeartbeats 4000000 in
set_option maxRecDepth 100000 in
theorem kara_any {K : Nat} (HM : MulSpec K) (ga oa c gb ob c' La Lb m n : Nat) (w : World) (hA : Nums .u64 w (some ⟨ga, oa, none⟩) (dig B64 m)) (hB : Nums .u64 w (some ⟨gb, ob, none⟩) (dig B64 n))
    (hLa : La = (dig B64 m).length) (hLb : Lb = (dig B64 n).length) (h80 : 80 ≤ Lb) (hle : Lb ≤ La) (h2 : La < 2 * Lb) (hc : La ≤ c) (hc' : Lb ≤ c') (hbig : La ≤ 1000000000) (hK : (La + 1) / 2 + 1 ≤ K) (hcb : ¬ c' = (La + 1) / 2) :
    Calls Try.prog 110 #[.slice (some ⟨ga, oa, none⟩) La c, .slice (some ⟨gb, ob, none⟩) Lb c'] w (SumPost w (m * n)) := by
  obtain ⟨h, hh⟩ : ∃ h, (La + 1) / 2 = h := ⟨_, rfl⟩
  have hhi : ((La : Int) + 1) / 2 = (h : Int) := by omega
  have hca : ¬ c = h := by omega
  rw [hh] at hcb hK
  have b1 : h ≤ Lb := by omega
  have b2 : h < La := by omega
  have b3 : 40 ≤ h := by omega
  have b4 : La - h ≤ h := by omega
  have b5 : Lb - h ≤ h := by omega
  have ha0 := fun w (hA : Nums .u64 w (some ⟨ga, oa, none⟩) (dig B64 m)) => low_half _ c m h w hA (by omega) (by omega) (by omega)
  have hb0 := fun w (hB : Nums .u64 w (some ⟨gb, ob, none⟩) (dig B64 n)) => low_half _ c' n h w hB (by omega) (by omega) (by omega)
  have ia0 := fun w (hA : Nums .u64 w (some ⟨ga, oa, none⟩) (dig B64 m)) => low_is _ c m h w hA (by omega) (by omega)
  have ib0 := fun w (hB : Nums .u64 w (some ⟨gb, ob, none⟩) (dig B64 n)) => low_is _ c' n h w hB (by omega) (by omega)
  have ia1 := fun w (hA : Nums .u64 w (some ⟨ga, oa, none⟩) (dig B64 m)) => high_is ga oa c m h w hA (by omega)
  have ib1 := fun w (hB : Nums .u64 w (some ⟨gb, ob, none⟩) (dig B64 n)) => high_is gb ob c' n h w hB (by omega)
  rw [← hLa] at ia1
  rw [← hLb] at ib1
  have lm0 := dig_len_mod b64_two m h
  have ln0 := dig_len_mod b64_two n h
  have lm1 := dig_len_div b64_two m h
  have ln1 := dig_len_div b64_two n h
  rw [← hLa] at lm1
  rw [← hLb] at ln1
  have em := Nat.mod_add_div m (B64 ^ h)
  have en := Nat.mod_add_div n (B64 ^ h)
  have hlt := Nat.mul_lt_mul_of_lt_of_lt (dig_len_lt b64_two (n := m)) (dig_len_lt b64_two (n := n))
  rw [← hLa, ← hLb, ← Nat.pow_add] at hlt
  generalize m % B64 ^ h = m0 at *
  generalize n % B64 ^ h = n0 at *
  generalize m / B64 ^ h = m1 at *
  generalize n / B64 ^ h = n1 at *
  have ls1 : (dig B64 (m0 + m1)).length ≤ h + 1 := wlen_add lm0 (by omega)
  have ls2 : (dig B64 (n0 + n1)).length ≤ h + 1 := wlen_add ln0 (by omega)
  have M1 : ∀ a b w, W64 w a m0 → W64 w b n0 → Calls Try.prog 99 #[a, b] w (SumPost w (m0 * n0)) := fun a b w h k => HM a b m0 n0 w h k (by omega) (by omega)
  have M2 : ∀ a b w, W64 w a m1 → W64 w b n1 → Calls Try.prog 99 #[a, b] w (SumPost w (m1 * n1)) := fun a b w h k => HM a b m1 n1 w h k (by omega) (by omega)
  have M3 : ∀ a b w, W64 w a (m0 + m1) → W64 w b (n0 + n1) → Calls Try.prog 99 #[a, b] w (SumPost w ((m0 + m1) * (n0 + n1))) := fun a b w h k => HM a b _ _ w h k (by omega) (by omega)
  have S1 : ∀ a b w, W64 w a m0 → W64 w b m1 → Calls Try.prog 77 #[a, b] w (SumPost w (m0 + m1)) := fun a b w h k => sum_any a b m0 m1 w h k (by omega) (by omega)
  have S2 : ∀ a b w, W64 w a n0 → W64 w b n1 → Calls Try.prog 77 #[a, b] w (SumPost w (n0 + n1)) := fun a b w h k => sum_any a b n0 n1 w h k (by omega) (by omega)
  have hmk := make64 (La + Lb) (by omega)
  push_cast at hmk
  have hbits : m0 * n0 < B64 ^ (2 * h) ∧ m1 * n1 < B64 ^ (La + Lb - 2 * h) ∧ (m0 + m1) * (n0 + n1) < B64 ^ (2 * h + 2) := by
    refine ⟨?_, ?_, ?_⟩
    · rw [show 2 * h = h + h by omega, Nat.pow_add]
      exact Nat.mul_lt_mul_of_lt_of_lt (lt_of_wlen lm0) (lt_of_wlen ln0)
    · rw [show La + Lb - 2 * h = (La - h) + (Lb - h) by omega, Nat.pow_add]
      exact Nat.mul_lt_mul_of_lt_of_lt (lt_of_wlen (by omega)) (lt_of_wlen (by omega))
    · rw [show 2 * h + 2 = (h + 1) + (h + 1) by omega, Nat.pow_add]
      exact Nat.mul_lt_mul_of_lt_of_lt (lt_of_wlen ls1) (lt_of_wlen ls2)
  have HA := Lib.hid hA
  have HB := Lib.hid hB
  have H0 := Lib.hid ha0
  have H1 := Lib.hid hb0
  have IA0 := Lib.hid ia0
  have IB0 := Lib.hid ib0
  have IA1 := Lib.hid ia1
  have IB1 := Lib.hid ib1
  have HLA := Lib.hid hLa
  have HLB := Lib.hid hLb
  have HH := Lib.hid hh
  have HM1 := Lib.hid M1
  have HM2 := Lib.hid M2
  have HM3 := Lib.hid M3
  have HS1 := Lib.hid S1
  have HS2 := Lib.hid S2
  have HEM := Lib.hid em
  have HEN := Lib.hid en
  have HLT := Lib.hid hlt
  have HBI := Lib.hid hbits
  have below0 : ∀ k, Below w.heap.size w (w.drewN k) := fun k => below_drewN (Below.refl _ _) k
  have HBE := Lib.hid below0
  clear ha0 hb0 ia0 ib0 ia1 ib1 hLa hLb hh M1 M2 M3 S1 S2 em en hlt hbits HM below0 hA hB lm1 ln1
  go_enter Try.func110, Try.ntmps110
  go_wp2
  go_quiet ((go_at_call 69; exact quiet_l (H0.out _ (HA.out.keep (HBE.out _)))))
  go_wp2
  go_quiet ((go_at_call 69; exact quiet_a (H1.out _ (HB.out.keep (HBE.out _)))))
  go_wp2_with (fail)
  refine (HM1.out _ _ _ (IA0.out _ (HA.out.keep (HBE.out _))) (IB0.out _ (HB.out.keep (HBE.out _)))).mono ?_
  rintro e w1 ⟨v1, rfl, hv1, hb1⟩
  have c1 : Below w.heap.size w w1 := (HBE.out _).trans (hb1.mono (HBE.out _).size)
  obtain ⟨A1, d1, rfl, hd1, k1⟩ := hv1.is
  clear hv1
  have ll1 : (dig B64 (m0 * n0)).length ≤ 2 * h := dig_len_le b64_two HBI.out.1
  obtain ⟨l1, hl1⟩ : ∃ l, (dig B64 (m0 * n0)).length = l := ⟨_, rfl⟩
  have HL1 := Lib.hid hl1
  rw [hl1] at hd1 ll1 ⊢
  clear hl1
  go_wp2_with (fail)
  refine (HM2.out _ _ _ (IA1.out _ (HA.out.keep c1)) (IB1.out _ (HB.out.keep c1))).mono ?_
  rintro e w2 ⟨v2, rfl, hv2, hb2⟩
  have c2 := below_at c1 (Nat.le_refl _) hb2
  have k1' := k1.keep hb2
  obtain ⟨A2, d2', rfl, hd2, k2⟩ := hv2.is
  clear hv2 k1
  have ll2 : (dig B64 (m1 * n1)).length ≤ La + Lb - 2 * h := dig_len_le b64_two HBI.out.2.1
  obtain ⟨l2, hl2⟩ : ∃ l, (dig B64 (m1 * n1)).length = l := ⟨_, rfl⟩
  have HL2 := Lib.hid hl2
  rw [hl2] at hd2 ll2 ⊢
  clear hl2
  go_wp2_with (fail)
  refine (HS1.out _ _ _ (IA0.out _ (HA.out.keep c2)) (IA1.out _ (HA.out.keep c2))).mono ?_
  rintro e w3 ⟨v3, rfl, hv3, hb3⟩
  have c3 := below_at c2 (Nat.le_refl _) hb3
  go_wp2_with (fail)
  refine (HS2.out _ _ _ (IB0.out _ (HB.out.keep c3)) (IB1.out _ (HB.out.keep c3))).mono ?_
  rintro e w4 ⟨v4, rfl, hv4, hb4⟩
  have c4 := below_at c3 (Nat.le_refl _) hb4
  go_wp2_with (fail)
  refine (HM3.out _ _ _ (hv3.is.keep hb4) hv4.is).mono ?_
  rintro e w5 ⟨v5, rfl, ⟨g5, c5, zs5, rfl, hc5, hcz5, hg5, hr5, hl5, ht5⟩, hb5⟩
  have c5' := below_at c4 (Nat.le_refl _) hb5
  clear hv3 hv4
  have hK2 := kara_mid m0 m1 n0 n1
  have hmid5 : RawAt w5 g5 zs5 (dig B64 ((m0 + m1) * (n0 + n1))).length ((m0 + m1) * (n0 + n1)) := ⟨hr5, hl5, by omega, by
    have : seg zs5 0 (dig B64 ((m0 + m1) * (n0 + n1))).length = zs5.take (dig B64 ((m0 + m1) * (n0 + n1))).length := by simp [seg]
    rw [this, ht5, val_dig b64_two]⟩
  have lmid : (dig B64 ((m0 + m1) * (n0 + n1))).length ≤ 2 * h + 2 := dig_len_le b64_two HBI.out.2.2
  have w2g : w2.heap.size ≤ g5 := Nat.le_trans hb3.size (Nat.le_trans hb4.size hg5)
  have d2 : Below w2.heap.size w2 w5 := (hb3.trans (hb4.mono hb3.size)).trans (hb5.mono (Nat.le_trans hb3.size hb4.size))
  have HK2 := Lib.hid hK2
  have HT5 := Lib.hid ht5
  clear hK2 ht5 hr5
  generalize (dig B64 ((m0 + m1) * (n0 + n1))).length = lm at *
  subst hcz5
  go_wp2_with (fail)
  refine (subFrom_raw g5 lm _ (m0 * n0) _ zs5 _ w2 _ hmid5 ⟨_, _, by rw [HL1.out], by rw [HL1.out]; exact hd1, k1'⟩ d2 w2g HK2.out.2.1 (by omega)).mono ?_
  rintro e w6 ⟨zs6, rfl, hmid6, hlen6, hgr6⟩
  have d3 : Below w2.heap.size w2 w6 := d2.grown hgr6 d2.size (fun k hk => by injection hk with hk; omega)
  go_wp2_with (fail)
  refine (subFrom_raw g5 lm _ (m1 * n1) _ zs6 _ w2 _ hmid6 ⟨_, _, by rw [HL2.out], by rw [HL2.out]; exact hd2, k2⟩ d3 w2g HK2.out.2.2 (by omega)).mono ?_
  rintro e w7 ⟨zs7, rfl, hmid7, hlen7, hgr7⟩
  have d4 : Below w2.heap.size w2 w7 := d3.grown hgr7 d3.size (fun k hk => by injection hk with hk; omega)
  rw [HK2.out.1] at hmid7
  have k1z := k1'.keep d4
  have k2z := k2.keep d4
  have hr0 := Row.made w7 .u64 (La + Lb) 55
  have hbA : Below w7.heap.size w7 (w7.alloc (.cells (madeCells #[.int .u64 0] (La + Lb)) 55)) := (Below.refl _ _).alloc (Nat.le_refl _) _
  have q1 := k1z.keep hbA
  have q2 := k2z.keep hbA
  have HR0 := Lib.hid hr0
  have hn1 : (lay (List.replicate (La + Lb) 0) 0 (dig B64 (m0 * n0))).length = La + Lb := by rw [lay_len (by simp only [List.length_replicate, HL1.out]; omega)]; simp
  have HN1 := Lib.hid hn1
  clear hr0 hn1
  go_wp2_with (first
    | (refine wpList_copy_row rfl (.tmp 57) (.tmp 58) rfl _ _ _ _ _ _ rfl rfl _ 0 _ _ HR0.out q1 HL1.out.symm (by omega) (fun _ => rfl) (by simp only [List.length_replicate]; omega) ?_
       intro w8 hr8 hg8
       have hb8 : Below w7.heap.size w7 w8 := hbA.grown hg8 hbA.size (by simp)
       have q3 := q2.grown (nums_ne k2z (Nat.le_refl _)) hg8)
    | (refine wpList_copy_row rfl (.tmp 63) (.tmp 64) rfl _ _ _ _ _ _ rfl rfl _ (2 * h) _ _ (by assumption) (by assumption) HL2.out.symm (by omega) (fun _ => rfl) (by rw [HN1.out]; omega) ?_
       intro w9 hr9 hg9
       have hb9 : Below w7.heap.size w7 w9 := hb8.grown hg9 hb8.size (by simp)))
  have ev : (h : Int) ≤ (La : Int) + (Lb : Int) := by omega
  have nv : ¬ La + Lb = h := by omega
  have q5 : Row .u64 55 w9.drew g5 zs7 := (hmid7.row.below hb9 hmid7.row.lt).drew
  have q6 := q5.nums0 lm
  have t1 := trim_any (some ⟨g5, 0, none⟩) zs5.length lm (zs7.take lm) w9.drew q6 (hmid7.low.take lm) (by rw [List.length_take, Nat.min_eq_left hmid7.le]) (by have := hmid7.le; omega) (by omega)
  have t2 : val B64 (zs7.take lm) = m0 * n1 + m1 * n0 := by have := hmid7.eq; simpa [seg] using this
  rw [t2] at t1
  have hmn : m * n = m0 * n0 + B64 ^ h * B64 ^ h * (m1 * n1) + B64 ^ h * (m0 * n1 + m1 * n0) := by
    have := kara_sum m0 m1 n0 n1 (B64 ^ h)
    rwa [HEM.out, HEN.out] at this
  have hml : m0 * n1 + m1 * n0 < B64 ^ (La + Lb - h) := mid_lt hmn (by rw [show h + (La + Lb - h) = La + Lb by omega]; exact HLT.out)
  have hl3 : (dig B64 (m0 * n1 + m1 * n0)).length ≤ La + Lb - h := dig_len_le b64_two hml
  have q7 := q6.take (dig B64 (m0 * n1 + m1 * n0)).length
  have q8 := trim_take b64_two (hmid7.low.take lm)
  rw [t2] at q8
  rw [q8] at q7
  obtain ⟨Z, hZ⟩ : ∃ Z, lay (lay (List.replicate (La + Lb) 0) 0 (dig B64 (m0 * n0))) (2 * h) (dig B64 (m1 * n1)) = Z := ⟨_, rfl⟩
  have zl : Z.length = La + Lb := by rw [← hZ, lay_len (by rw [HN1.out, HL2.out]; omega), HN1.out]
  have zlow : Low B64 Z := by rw [← hZ]; exact lay_low (lay_low (Low.replicate b64_pos _) (dig_low64 _)) (dig_low64 _)
  have zv : val B64 Z = m0 * n0 + B64 ^ h * B64 ^ h * (m1 * n1) := by
    rw [← hZ, val_two (by rw [HL1.out]; omega) (by rw [HL2.out]; omega), val_dig b64_two, val_dig b64_two, show 2 * h = h + h by omega, Nat.pow_add]
  have zv2 : val B64 Z + B64 ^ h * val B64 (dig B64 (m0 * n1 + m1 * n0)) = m * n := by rw [zv, hmn, val_dig b64_two]
  have zlt : m * n < B64 ^ Z.length := by rw [zl]; exact HLT.out
  rw [hZ] at hr9
  have hr10 := hr9.drew
  have g2 : w.heap.size ≤ g5 := Nat.le_trans c2.size w2g
  have c6 : Below w.heap.size w w7 := (c5'.grown hgr6 c5'.size (fun k hk => by injection hk with hk; omega)) |>.grown hgr7 (by have := c5'.size; have := hgr6.size; omega) (fun k hk => by injection hk with hk; omega)
  have c9 : Below w.heap.size w w9 := below_at c6 (Nat.le_refl _) hb9
  have c10 : Below w.heap.size w w9.drew := c9.drew
  have g7 : w.heap.size ≤ w7.heap.size := c6.size
  have g57 : g5 < w7.heap.size := hmid7.row.lt
  have TT := Lib.hid t1
  have T2 := Lib.hid t2
  have ZL := Lib.hid zl
  have ZV := Lib.hid zv2
  clear t1 t2 hmn q8 hZ zl zv zv2 hr9
  go_still_tail 5, (by kernel_rfl)
  still_call (TT.out.mono fun _ _ ⟨he, hm⟩ => ⟨he, hm.symm⟩)
  refine wpStill_nil ?_
  change wpList _ _ _ _ _ w9.drew
  generalize w9.drew = w10 at *
  go_wp2_with (first
    | (go_at_call 98
       refine (addTo_any w7.heap.size h (La + Lb - h) (La + Lb - h) _ _ Z _ _ _ hr10 zlow (by rw [ZL.out]; omega) q7 (dig_low64 _) (fun _ a ha => by injection ha with ha; subst ha; exact Nat.ne_of_lt g57) rfl hl3 (by omega)).mono ?_
       rintro e w11 ⟨zs', cy, rfl, hst, hr11, hg11⟩
       have hb11 : Below w.heap.size w w11 := c10.grown hg11 c10.size (fun k hk => by injection hk with hk; omega)
       have hl11 := hst.len.trans ZL.out
       have hn11 : Nums .u64 w11 (some ⟨w7.heap.size, 0, none⟩) zs' := by have := hr11.nums0 zs'.length; rwa [List.take_length] at this
       have HL11 := Lib.hid hl11
       clear hl11)
    | (go_at_call 69
       refine (trim_any _ (La + Lb) (La + Lb) zs' _ (by assumption) hst.low HL11.out.symm (Nat.le_refl _) (by omega)).mono ?_
       rintro e w12 ⟨rfl, rfl⟩))
  go_ret
  have hv := hst.whole (by rw [ZL.out]; omega) hl3 ZV.out zlt
  rw [← hv]
  refine ⟨_, rfl, ?_, hb11⟩
  have := own_of_trim b64_two hr11 hst.low g7
  rw [HL11.out] at this
  exact this
end Go.Proofs.Ythgekjkgfccnaaa
