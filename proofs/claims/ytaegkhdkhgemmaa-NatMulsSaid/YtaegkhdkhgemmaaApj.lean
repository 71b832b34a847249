import Derived.Test.YtaegkhdkhgemmaaApi
namespace Go.Proofs.Ytaegkhdkhgemmaa
open Go.RowKit Num

theorem bits_call (a : Value) (n : Nat) (w : World) (h : W64 w a n) (hl : (dig B64 n).length ≤ 1000000000) : Calls Try.prog 91 #[a] w fun e w'' => e = .returned (.int .i64 (nbits n : Nat)) ∧ w = w'' := by
  obtain ⟨A, c, rfl, _, hA⟩ := h
  exact bits_any A c _ n w hA rfl (by omega)
theorem len_bits_le {n k : Nat} (hl : (dig B64 n).length ≤ k) : nbits n ≤ 64 * k := by
  refine nbits_le (Nat.lt_of_lt_of_le (dig_len_lt b64_two) ?_)
  rw [← pow_b64]
  exact Nat.pow_le_pow_right (by omega) (by omega)
theorem nbits_ne {n : Nat} (h : n ≠ 0) : 1 ≤ nbits n := by rw [nbits_pos h]; omega
theorem dig_len_pos {n : Nat} (h : n ≠ 0) : 0 < (dig B64 n).length := by
  rcases Nat.eq_zero_or_pos (dig B64 n).length with h0 | h0
  · exact absurd ((dig_nil_iff b64_two).1 (List.eq_nil_of_length_eq_zero h0)) h
  · exact h0

set_option maxHeartbeats 1000000 in
set_option maxRecDepth 100000 in
theorem product_at {N : Nat} (a b : Value) (m n : Nat) (w : World) (HM : MulAt m n) (hN : N ≤ 1000000000) (ha : W64 w a m) (hb : W64 w b n) (hm : (dig B64 m).length ≤ N) (hn : (dig B64 n).length ≤ N) (hp : nbits (m * n) ≤ 8388608) :
    Calls Try.prog 87 #[a, b] w (NatOk w (m * n)) := by
  have hba := bits_call a m w ha (by omega)
  have hbb := bits_call b n w hb (by omega)
  have hmul := HM a b w ha hb
  have hl1 := len_bits_le (n := m) (k := N) hm
  have hl2 := len_bits_le (n := n) (k := N) hn
  have hpl := len_of_bits (n := m * n) (k := 131072) hp
  have hfit := fun r w' (h : W64 w' r (m * n)) => fit_ok r (m * n) w' h hp
  have e0 : m ≠ 0 → n ≠ 0 → nbits m + nbits n ≤ 8388608 + 1 := fun h1 h2 => Nat.le_trans (nbits_mul h1 h2) (by omega)
  obtain ⟨A, c, rfl, _, hA⟩ := ha
  obtain ⟨A', c', rfl, _, hA'⟩ := hb
  have HBA := Lib.hid hba
  have HBB := Lib.hid hbb
  have HMUL := Lib.hid hmul
  have HFIT := Lib.hid hfit
  clear hba hbb hmul hfit HM hA hA'
  by_cases h1 : m = 0
  · have hlen : (dig B64 m).length = 0 := by rw [h1, dig_zero]; rfl
    rw [hlen] at HBA HMUL ⊢
    have H1 := Lib.hid h1
    clear h1 hlen e0
    go_enter Try.func87, Try.ntmps87
    go_wp2_with (first
      | (go_at_call 111; refine HMUL.out.mono ?_; rintro e w1 ⟨v, rfl, hv, hb1⟩)
      | (go_at_call 81; refine (HFIT.out _ _ hv.is).mono ?_; rintro e w2 ⟨r, rfl, hr, hb2⟩))
    go_ret2
    exact ⟨_, rfl, hr.mono hb1.size, below_at hb1 (Nat.le_refl _) hb2⟩
  · have hlm := dig_len_pos h1
    by_cases h2 : n = 0
    · have hlen : (dig B64 n).length = 0 := by rw [h2, dig_zero]; rfl
      rw [hlen] at HBB HMUL ⊢
      have H1 := Lib.hid h1
      have H2 := Lib.hid h2
      clear h1 h2 hlen e0
      generalize (dig B64 m).length = L at *
      go_enter Try.func87, Try.ntmps87
      go_wp2_with (first
        | (go_at_call 111; refine HMUL.out.mono ?_; rintro e w1 ⟨v, rfl, hv, hb1⟩)
        | (go_at_call 81; refine (HFIT.out _ _ hv.is).mono ?_; rintro e w2 ⟨r, rfl, hr, hb2⟩))
      go_ret2
      exact ⟨_, rfl, hr.mono hb1.size, below_at hb1 (Nat.le_refl _) hb2⟩
    · have hln := dig_len_pos h2
      have e1 := e0 h1 h2
      have p1 := nbits_ne h1
      have H1 := Lib.hid h1
      have H2 := Lib.hid h2
      clear h1 h2 e0
      generalize (dig B64 m).length = L at *
      generalize (dig B64 n).length = L' at *
      generalize nbits m = x at *
      generalize nbits n = y at *
      go_enter Try.func87, Try.ntmps87
      go_wp2_with (fail)
      refine HBA.out.mono ?_
      rintro e w1 ⟨rfl, rfl⟩
      go_wp2_with (fail)
      refine HBB.out.mono ?_
      rintro e w1 ⟨rfl, rfl⟩
      go_wp2_with (first
        | (go_at_call 111; refine HMUL.out.mono ?_; rintro e w1 ⟨v, rfl, hv, hb1⟩)
        | (go_at_call 81; refine (HFIT.out _ _ hv.is).mono ?_; rintro e w2 ⟨r, rfl, hr, hb2⟩))
      go_ret2
      exact ⟨_, rfl, hr.mono hb1.size, below_at hb1 (Nat.le_refl _) hb2⟩

theorem product_ok {N : Nat} (HM : MulSpec N) (hN : N ≤ 1000000000) (a b : Value) (m n : Nat) (w : World) (ha : W64 w a m) (hb : W64 w b n) (hm : (dig B64 m).length ≤ N) (hn : (dig B64 n).length ≤ N) (hp : nbits (m * n) ≤ 8388608) :
    Calls Try.prog 87 #[a, b] w (NatOk w (m * n)) := product_at a b m n w (fun a b w ha hb => HM a b m n w ha hb hm hn) hN ha hb hm hn hp

/-- What Check says of limbs. -/
def chk (xs : List Nat) : Int := if 262144 < xs.length then 3 else if 0 < xs.length ∧ xs.getD (xs.length - 1) 0 = 0 then 2 else 0

set_option maxHeartbeats 400000 in
theorem check_any (A : Option Addr) (c L : Nat) (xs : List Nat) (w : World) (hA : Nums .u32 w A xs) (hL : L = xs.length) (hl : L ≤ 1000000000000) :
    Calls Try.prog 31 #[.slice A L c] w fun e w' => e = .returned (.int .i64 (chk xs)) ∧ w = w' := by
  obtain ⟨r, hr⟩ : ∃ r, chk xs = r := ⟨_, rfl⟩
  rw [hr]
  unfold chk at hr
  rw [← hL] at hr
  by_cases h1 : 262144 < L
  · rw [if_pos h1] at hr
    subst hr
    clear hL hA
    go_enter Try.func31, Try.ntmps31
    go_wp2
    go_ret
    exact ⟨rfl, rfl⟩
  · rw [if_neg h1] at hr
    by_cases h2 : 0 < L
    · obtain ⟨g, off, v, rfl, hg, hv, hcv⟩ := hA.at_ (i := L - 1) (by omega)
      have hvd : xs.getD (L - 1) 0 = v := by simp [List.getD_eq_getElem?_getD, hv]
      rw [hvd] at hr
      by_cases h3 : v = 0
      · rw [if_pos ⟨h2, h3⟩] at hr
        subst hr
        have hq : ((v : Int) == 0) = true := by simp [h3]
        have H3 := Lib.hid h3
        clear hL hA hv hvd h3
        go_enter Try.func31, Try.ntmps31
        go_wp2
        go_ret
        exact ⟨rfl, rfl⟩
      · rw [if_neg (fun h => h3 h.2)] at hr
        subst hr
        have hq : ((v : Int) == 0) = false := by simp [h3]
        have H3 := Lib.hid h3
        clear hL hA hv hvd h3
        go_enter Try.func31, Try.ntmps31
        go_wp2
        go_ret
        exact ⟨rfl, rfl⟩
    · rw [if_neg (fun h => h2 h.1)] at hr
      subst hr
      clear hL hA
      go_enter Try.func31, Try.ntmps31
      go_wp2
      go_ret
      exact ⟨rfl, rfl⟩

theorem chk_dig {n : Nat} (h : (dig B32 n).length ≤ 262144) : chk (dig B32 n) = 0 := by
  unfold chk
  rw [if_neg (by omega), if_neg]
  rintro ⟨h1, h2⟩
  have := (neat_iff _).1 (neat_dig b32_two n) h1
  rw [List.getD_eq_getElem?_getD, List.getElem?_eq_getElem (by omega)] at h2
  exact this h2
end Go.Proofs.Ytaegkhdkhgemmaa
