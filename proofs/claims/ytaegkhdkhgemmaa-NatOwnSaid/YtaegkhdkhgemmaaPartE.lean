/- Part of the proof of NatOwn: Adds, U64, BitsR, RefS, RefOf, ChecksW, Subs, DivW, DivM, DivA, ApLaws, Clone, MulSub, GcdLaws. -/
import Derived.Test.YtaegkhdkhgemmaaPartC
import Derived.Test.YtaegkhdkhgemmaaPartD
import Derived.Test.YtaegkhdkhgemmaaPartB
import Derived.Lib.SliceRun
namespace Go.Proofs.Ytaegkhdkhgemmaa
open Go.RowKit Num

set_option maxHeartbeats 1000000 in
set_option maxRecDepth 100000 in
theorem add_bad (a b : Value) (xs ys : List Nat) (w : World) (ha : Limbs w a xs) (hb : Limbs w b ys) (h0 : chk2 xs ys ≠ 0) : Calls Try.prog 37 #[a, b] w (NatErr w (chk2 xs ys)) := by
  have hc := checkAll_any w.heap.size 2 2 _ _ (nats2 ha hb) rfl (by omega)
  rw [chkAll2] at hc
  generalize chk2 xs ys = r at *
  have hbA := below_new w (.cells #[a, b] 23)
  have hq : (r != 0) = true := by simp [h0]
  have HC := Lib.hid hc
  have H0 := Lib.hid h0
  obtain ⟨A, c, rfl, _⟩ := ha
  obtain ⟨A', c', rfl, _⟩ := hb
  clear hc h0
  generalize xs.length = L at *
  generalize ys.length = L' at *
  go_enter Try.func37, Try.ntmps37
  go_wp2_with (go_at_call 75; refine HC.out.mono ?_; rintro e w1 ⟨rfl, rfl⟩)
  go_ret2
  exact ⟨rfl, hbA⟩

set_option maxHeartbeats 1000000 in
set_option maxRecDepth 100000 in
theorem sub_bad (a b : Value) (xs ys : List Nat) (w : World) (ha : Limbs w a xs) (hb : Limbs w b ys) (h0 : chk2 xs ys ≠ 0) : Calls Try.prog 38 #[a, b] w (NatErr w (chk2 xs ys)) := by
  have hc := checkAll_any w.heap.size 2 2 _ _ (nats2 ha hb) rfl (by omega)
  rw [chkAll2] at hc
  generalize chk2 xs ys = r at *
  have hbA := below_new w (.cells #[a, b] 23)
  have hq : (r != 0) = true := by simp [h0]
  have HC := Lib.hid hc
  have H0 := Lib.hid h0
  obtain ⟨A, c, rfl, _⟩ := ha
  obtain ⟨A', c', rfl, _⟩ := hb
  clear hc h0
  generalize xs.length = L at *
  generalize ys.length = L' at *
  go_enter Try.func38, Try.ntmps38
  go_wp2_with (go_at_call 75; refine HC.out.mono ?_; rintro e w1 ⟨rfl, rfl⟩)
  go_ret2
  exact ⟨rfl, hbA⟩

/-- Two plain results; nothing that was there has turned. -/
def Two (w : World) (a b : Value) (e : Ending) (w' : World) : Prop := e = .returned (.tuple #[a, b]) ∧ Below w.heap.size w w'

set_option maxHeartbeats 1000000 in
set_option maxRecDepth 100000 in
theorem cmp_bad (a b : Value) (xs ys : List Nat) (w : World) (ha : Limbs w a xs) (hb : Limbs w b ys) (h0 : chk2 xs ys ≠ 0) : Calls Try.prog 39 #[a, b] w (Two w (.int .i64 0) (.int .i64 (chk2 xs ys))) := by
  have hc := checkAll_any w.heap.size 2 2 _ _ (nats2 ha hb) rfl (by omega)
  rw [chkAll2] at hc
  generalize chk2 xs ys = r at *
  have hbA := below_new w (.cells #[a, b] 23)
  have hq : (r != 0) = true := by simp [h0]
  have HC := Lib.hid hc
  have H0 := Lib.hid h0
  obtain ⟨A, c, rfl, _⟩ := ha
  obtain ⟨A', c', rfl, _⟩ := hb
  clear hc h0
  generalize xs.length = L at *
  generalize ys.length = L' at *
  go_enter Try.func39, Try.ntmps39
  go_wp2_with (go_at_call 75; refine HC.out.mono ?_; rintro e w1 ⟨rfl, rfl⟩)
  go_ret2
  exact ⟨rfl, hbA⟩

set_option maxHeartbeats 1000000 in
set_option maxRecDepth 100000 in
theorem add_ok (a b : Value) (m n : Nat) (w : World) (ha : N32 w a m) (hb : N32 w b n) (hm : (dig B32 m).length ≤ 262144) (hn : (dig B32 n).length ≤ 262144) (hp : nbits (m + n) ≤ 8388608) : Calls Try.prog 37 #[a, b] w (NatOk w (m + n)) := by
  have hc := checkAll_any w.heap.size 2 2 _ _ (nats2 (Limbs.num ha (by omega)) (Limbs.num hb (by omega))) rfl (by omega)
  rw [chkAll2, chk2, if_pos (chk_dig hm), chk_dig hn] at hc
  have hbA := below_new w (.cells #[a, b] 23)
  have ha1 := ha.keep hbA
  have hb1 := hb.keep hbA
  have hf1 := fun w' (h : N32 w' a m) => fromNat_any a m w' h (by omega)
  have hf2 := fun w' (h : N32 w' b n) => fromNat_any b n w' h (by omega)
  have lm := words_le (n := m) (K := 131072) hm
  have ln := words_le (n := n) (K := 131072) hn
  have hpr := fun v u w' (h : W64 w' v m) (k : W64 w' u n) => sum_any v u m n w' h k (by omega) (by omega)
  have hft := fun v w' (h : W64 w' v (m + n)) => fit_ok v (m + n) w' h hp
  have HC := Lib.hid hc
  have HA := Lib.hid ha1
  have HB := Lib.hid hb1
  have HF1 := Lib.hid hf1
  have HF2 := Lib.hid hf2
  have HP := Lib.hid hpr
  have HFT := Lib.hid hft
  obtain ⟨A, c, rfl, _⟩ := ha
  obtain ⟨A', c', rfl, _⟩ := hb
  clear hc ha1 hb1 hf1 hf2 hpr hp hft lm ln
  generalize (dig B32 m).length = L at *
  generalize (dig B32 n).length = L' at *
  go_enter Try.func37, Try.ntmps37
  go_wp2_with (go_at_call 75; refine HC.out.mono ?_; rintro e w1 ⟨rfl, rfl⟩)
  go_wp2_with (fail)
  refine (HF1.out _ HA.out).mono ?_
  rintro e w1 ⟨v1, rfl, hv1, hb1⟩
  go_wp2_with (fail)
  refine (HF2.out _ (HB.out.keep hb1)).mono ?_
  rintro e w2 ⟨v2, rfl, hv2, hb2⟩
  go_wp2_with (fail)
  refine (HP.out _ _ _ (hv1.is.keep hb2) hv2.is).mono ?_
  rintro e w3 ⟨v3, rfl, hv3, hb3⟩
  go_wp2_with (fail)
  refine (HFT.out _ _ hv3.is).mono ?_
  rintro e w4 ⟨v4, rfl, hv4, hb4⟩
  go_wp2
  go_ret2
  have b1 := below_at hbA (Nat.le_refl _) hb1
  have b2 := below_at b1 (Nat.le_refl _) hb2
  have b3 := below_at b2 (Nat.le_refl _) hb3
  exact ⟨_, rfl, hv4.mono b3.size, below_at b3 (Nat.le_refl _) hb4⟩

set_option maxHeartbeats 1000000 in
set_option maxRecDepth 100000 in
theorem cmp_ok (a b : Value) (m n : Nat) (w : World) (ha : N32 w a m) (hb : N32 w b n) (hm : (dig B32 m).length ≤ 262144) (hn : (dig B32 n).length ≤ 262144) : Calls Try.prog 39 #[a, b] w (Two w (.int .i64 (cmpN m n)) (.int .i64 0)) := by
  have hc := checkAll_any w.heap.size 2 2 _ _ (nats2 (Limbs.num ha (by omega)) (Limbs.num hb (by omega))) rfl (by omega)
  rw [chkAll2, chk2, if_pos (chk_dig hm), chk_dig hn] at hc
  have hbA := below_new w (.cells #[a, b] 23)
  have hcmp : ∀ w', N32 w' a m → N32 w' b n → Calls Try.prog 85 #[a, b] w' fun e w'' => e = .returned (.int .i64 (cmpN m n)) ∧ Below w'.heap.size w' w'' := fun w' h k => by
    obtain ⟨A, c, rfl, _, hA⟩ := h
    obtain ⟨A', c', rfl, _, hA'⟩ := k
    exact compare85 A A' c c' _ _ m n w' hA hA' rfl rfl (by omega) (by omega)
  have hc2 := hcmp _ (ha.keep hbA) (hb.keep hbA)
  generalize cmpN m n = r at *
  have HC := Lib.hid hc
  have HP := Lib.hid hc2
  obtain ⟨A, c, rfl, _⟩ := ha
  obtain ⟨A', c', rfl, _⟩ := hb
  clear hc hc2 hcmp
  generalize (dig B32 m).length = L at *
  generalize (dig B32 n).length = L' at *
  go_enter Try.func39, Try.ntmps39
  go_wp2_with (first
    | (go_at_call 75; refine HC.out.mono ?_; rintro e w1 ⟨rfl, rfl⟩)
    | (go_at_call 85; refine HP.out.mono ?_; rintro e w2 ⟨rfl, hb2⟩))
  go_ret2
  exact ⟨rfl, below_at hbA (Nat.le_refl _) hb2⟩
end Go.Proofs.Ytaegkhdkhgemmaa

namespace Go.Proofs.Ytaegkhdkhgemmaa
open Go.RowKit Num

set_option maxHeartbeats 400000 in
theorem refCheck_any (A : Option Addr) (c L : Nat) (xs : List Nat) (w : World) (hA : Nums .u32 w A xs) (hL : L = xs.length) (hl : L ≤ 1000000000000) :
    Calls Try.prog 27 #[.slice A L c] w fun e w' => e = .returned (.int .i64 (chk xs)) ∧ w = w' := by
  obtain ⟨r, hr⟩ : ∃ r, chk xs = r := ⟨_, rfl⟩
  rw [hr]
  unfold chk at hr
  rw [← hL] at hr
  by_cases h1 : 262144 < L
  · rw [if_pos h1] at hr
    subst hr
    clear hL hA
    go_enter Try.func27, Try.ntmps27
    go_wp2
    go_ret
    exact ⟨rfl, rfl⟩
  · rw [if_neg h1] at hr
    by_cases h2 : 0 < L
    · obtain ⟨g, off, v, rfl, hg, hv, hcv⟩ := hA.at_ (i := L - 1) (by omega)
      have hvd : xs.getD (L - 1) 0 = v := by simp [List.getD_eq_getElem?_getD, hv]
      rw [hvd] at hr
      by_cases h3 : v = 0
      · rw [if_pos ⟨h2, h3⟩] at hr
        subst hr
        have hq : ((v : Int) == 0) = true := by simp [h3]
        have H3 := Lib.hid h3
        clear hL hA hv hvd h3
        go_enter Try.func27, Try.ntmps27
        go_wp2
        go_ret
        exact ⟨rfl, rfl⟩
      · rw [if_neg (fun h => h3 h.2)] at hr
        subst hr
        have hq : ((v : Int) == 0) = false := by simp [h3]
        have H3 := Lib.hid h3
        clear hL hA hv hvd h3
        go_enter Try.func27, Try.ntmps27
        go_wp2
        go_ret
        exact ⟨rfl, rfl⟩
    · rw [if_neg (fun h => h2 h.1)] at hr
      subst hr
      clear hL hA
      go_enter Try.func27, Try.ntmps27
      go_wp2
      go_ret
      exact ⟨rfl, rfl⟩


def Ret2 (w : World) (a b : Value) (e : Ending) (w' : World) : Prop := e = .returned (.tuple #[a, b]) ∧ Below w.heap.size w w'

set_option maxHeartbeats 1000000 in
set_option maxRecDepth 100000 in
theorem bits_bad (a : Value) (xs : List Nat) (w : World) (ha : Limbs w a xs) (h0 : chk xs ≠ 0) : Calls Try.prog 28 #[a] w (Ret2 w (.int .i64 0) (.int .i64 (chk xs))) := by
  have hc := checkAll_any w.heap.size 1 1 _ _ (nats1 ha) rfl (by omega)
  rw [chkAll1] at hc
  generalize chk xs = r at *
  have hbA := below_new w (.cells #[a] 23)
  have hq : (r != 0) = true := by simp [h0]
  have HC := Lib.hid hc
  have H0 := Lib.hid h0
  obtain ⟨A, c, rfl, _⟩ := ha
  clear hc h0
  generalize xs.length = L at *
  go_enter Try.func28, Try.ntmps28
  go_wp2_with (go_at_call 75; refine HC.out.mono ?_; rintro e w1 ⟨rfl, rfl⟩)
  go_ret2
  exact ⟨rfl, hbA⟩

set_option maxHeartbeats 1000000 in
set_option maxRecDepth 100000 in
theorem uint64_bad (a : Value) (xs : List Nat) (w : World) (ha : Limbs w a xs) (h0 : chk xs ≠ 0) : Calls Try.prog 29 #[a] w (Ret2 w (.int .u64 0) (.int .i64 (chk xs))) := by
  have hc := checkAll_any w.heap.size 1 1 _ _ (nats1 ha) rfl (by omega)
  rw [chkAll1] at hc
  generalize chk xs = r at *
  have hbA := below_new w (.cells #[a] 23)
  have hq : (r != 0) = true := by simp [h0]
  have HC := Lib.hid hc
  have H0 := Lib.hid h0
  obtain ⟨A, c, rfl, _⟩ := ha
  clear hc h0
  generalize xs.length = L at *
  go_enter Try.func29, Try.ntmps29
  go_wp2_with (go_at_call 75; refine HC.out.mono ?_; rintro e w1 ⟨rfl, rfl⟩)
  go_ret2
  exact ⟨rfl, hbA⟩

set_option maxHeartbeats 1000000 in
set_option maxRecDepth 100000 in
theorem uint64_range (a : Value) (n : Nat) (w : World) (ha : N32 w a n) (hl : (dig B32 n).length ≤ 262144) (h2 : 2 < (dig B32 n).length) : Calls Try.prog 29 #[a] w (Ret2 w (.int .u64 0) (.int .i64 5)) := by
  have hc := checkAll_any w.heap.size 1 1 _ _ (nats1 (Limbs.num ha (by omega))) rfl (by omega)
  rw [chkAll1, chk_dig hl] at hc
  have hbA := below_new w (.cells #[a] 23)
  have HC := Lib.hid hc
  obtain ⟨A, c, rfl, _⟩ := ha
  clear hc
  generalize (dig B32 n).length = L at *
  go_enter Try.func29, Try.ntmps29
  go_wp2_with (go_at_call 75; refine HC.out.mono ?_; rintro e w1 ⟨rfl, rfl⟩)
  go_ret2
  exact ⟨rfl, hbA⟩

set_option maxHeartbeats 1000000 in
set_option maxRecDepth 100000 in
theorem uint64_ok (a : Value) (n : Nat) (w : World) (ha : N32 w a n) (hl : (dig B32 n).length ≤ 2) : Calls Try.prog 29 #[a] w (Ret2 w (.int .u64 (n : Nat)) (.int .i64 0)) := by
  have hc := checkAll_any w.heap.size 1 1 _ _ (nats1 (Limbs.num ha (by omega))) rfl (by omega)
  rw [chkAll1, chk_dig (by omega)] at hc
  have hbA := below_new w (.cells #[a] 23)
  have hf := fromNat_any a n _ (ha.keep hbA) (by omega)
  have hlt : n < B64 := by
    have h1 := dig_len_lt b32_two (n := n)
    have h2 := Nat.pow_le_pow_right b32_pos hl
    have : B32 ^ 2 = B64 := by decide
    omega
  have hwin : ∀ v w', W64 w' v n → Calls Try.prog 77 #[v, .int .i64 0] w' fun e w'' => e = .returned (.int .u64 (n : Nat)) ∧ w' = w'' := fun v w' h => by
    obtain ⟨A, c, rfl, _, hA⟩ := h
    have := window_any A c _ n 0 w' hA rfl (Nat.le_trans (words_le (K := 1) (by omega)) (by omega)) (by omega)
    rw [Nat.pow_zero, Nat.div_one, Nat.mod_eq_of_lt hlt] at this
    exact this
  have HC := Lib.hid hc
  have HF := Lib.hid hf
  have HW := Lib.hid hwin
  obtain ⟨A, c, rfl, _⟩ := ha
  clear hc hf hwin hlt
  generalize (dig B32 n).length = L at *
  go_enter Try.func29, Try.ntmps29
  go_wp2_with (first
    | (go_at_call 75; refine HC.out.mono ?_; rintro e w1 ⟨rfl, rfl⟩)
    | (go_at_call 76; refine HF.out.mono ?_; rintro e w1 ⟨v1, rfl, hv1, hb1⟩)
    | (go_at_call 77; refine (HW.out _ _ hv1.is).mono ?_; rintro e w2 ⟨rfl, rfl⟩))
  go_ret2
  exact ⟨rfl, below_at hbA (Nat.le_refl _) hb1⟩
end Go.Proofs.Ytaegkhdkhgemmaa

namespace Go.Proofs.Ytaegkhdkhgemmaa
open Go.RowKit Num

set_option maxHeartbeats 1000000 in
set_option maxRecDepth 100000 in
theorem bits_ok (a : Value) (n : Nat) (w : World) (ha : N32 w a n) (hl : (dig B32 n).length ≤ 262144) : Calls Try.prog 28 #[a] w (Ret2 w (.int .i64 (nbits n : Nat)) (.int .i64 0)) := by
  have hc := checkAll_any w.heap.size 1 1 _ _ (nats1 (Limbs.num ha (by omega))) rfl (by omega)
  rw [chkAll1, chk_dig hl] at hc
  have hbA := below_new w (.cells #[a] 23)
  have HC := Lib.hid hc
  have hpost := fun L v => @nbits_limbs n L v
  obtain ⟨A, c, rfl, _, hA⟩ := ha
  clear hc hbA
  obtain ⟨xs, hxs⟩ : ∃ xs, dig B32 n = xs := ⟨_, rfl⟩
  have hlow := low_dig b32_two n
  have hz : xs.length = 0 → n = 0 := fun h => (dig_nil_iff b32_two).1 (by rw [hxs]; exact List.eq_nil_of_length_eq_zero h)
  have hpost' : ∀ L v, xs.length = L + 1 → xs[L]? = some v → nbits n = 32 * L + nbits v := fun L v h1 h2 => hpost L v (by rw [← h1, ← hxs]; rfl) (by rw [← h2, ← hxs]; rfl)
  rw [hxs] at hlow hl hA HC ⊢
  clear hxs hpost
  obtain ⟨L, hL⟩ : ∃ L, xs.length = L := ⟨_, rfl⟩
  rw [hL] at hz hl HC ⊢
  have HP := Lib.hid hpost'
  have HL := Lib.hid hL
  clear hpost' hL
  by_cases h0 : L = 0
  · have hn0 := hz h0
    subst hn0
    subst h0
    clear hz hA hlow
    rw [nbits_zero]
    go_enter Try.func28, Try.ntmps28
    go_wp2_with (go_at_call 75; refine HC.out.mono ?_; rintro e w1 ⟨rfl, rfl⟩)
    go_ret2
    exact ⟨rfl, below_new _ _⟩
  · obtain ⟨K, rfl⟩ : ∃ K, L = K + 1 := ⟨L - 1, by omega⟩
    obtain ⟨g, off, v, rfl, hg, hv, hcv⟩ := hA.at_ (i := K) (by have := HL.out; omega)
    have hvl : v < B32 := hlow v (List.mem_of_getElem? hv)
    have hb32 : nbits v ≤ 32 := nbits_le (k := 32) hvl
    have hres := HP.out K v HL.out hv
    obtain ⟨r, hr⟩ : ∃ r, nbits n = r := ⟨_, rfl⟩
    rw [hr] at hres ⊢
    have hsh : ∀ i, (v : Int) / 2 ^ i = ((v / 2 ^ i : Nat) : Int) := fun i => by push_cast; rfl
    have hne : ∀ i, v / 2 ^ i ≠ 0 ↔ i < nbits v := fun i => shr_ne
    have HR := Lib.hid hres
    have HSH := Lib.hid hsh
    have HNE := Lib.hid hne
    have HV := Lib.hid hv
    have HRR := Lib.hid hr
    have hk0 : ((K : Int) + 1 == 0) = false := by simp; omega
    clear hres hsh hne hv hr hA hlow hz h0 hvl
    generalize nbits v = q at *
    go_enter Try.func28, Try.ntmps28
    go_wp2_with (go_at_call 75; refine HC.out.mono ?_; rintro e w1 ⟨rfl, rfl⟩)
    go_loop [6, 20] (fun ct t => ∃ i ct' : Nat, i ≤ 32 ∧ t = .int .i64 (i : Int) ∧ ct = .int .i64 (ct' : Int) ∧ Hid (ct' = min i q)) (fun _ t => 32 - (intOf t).toNat)
    case atStart => exact ⟨0, 0, by omega, rfl, rfl, Lib.hid (by simp)⟩
    case round =>
      obtain ⟨i, ct, hi, rfl, rfl, hct⟩ := hrel
      by_cases hlt : i < 32
      · have hs := HSH.out i
        by_cases hq : i < q
        · have hnz : v / 2 ^ i ≠ 0 := (HNE.out i).2 hq
          have hb : (((v / 2 ^ i : Nat) : Int) != 0) = true := by simp; omega
          rw [← hs] at hb
          have HNZ := Lib.hid hnz
          clear hnz hs
          go_wp2
          go_round
          case rel => exact ⟨i + 1, i + 1, by omega, by go_num, by go_num, Lib.hid (by omega)⟩
          case measure => simp [intOf]; omega
        · have hnz : v / 2 ^ i = 0 := by
            rcases Nat.eq_zero_or_pos (v / 2 ^ i) with h | h
            · exact h
            · exact absurd ((HNE.out i).1 (by omega)) hq
          have hb : (((v / 2 ^ i : Nat) : Int) != 0) = false := by rw [hnz]; rfl
          rw [← hs] at hb
          have HNZ := Lib.hid hnz
          clear hnz hs
          go_wp2
          go_round
          case rel => exact ⟨i + 1, ct, by omega, by go_num, rfl, Lib.hid (by have := hct.out; omega)⟩
          case measure => simp [intOf]; omega
      · have hct' : ct ≤ 32 := by have := hct.out; omega
        go_wp2
        go_ret2
        have e : (32 * (K : Int) + (ct : Int)) = (r : Int) := by have h1 := HR.out; have h2 := hct.out; omega
        refine ⟨?_, below_new _ _⟩
        rw [← e]
        rfl

set_option maxHeartbeats 1000000 in
set_option maxRecDepth 100000 in
theorem refBits_any (a : Value) (n : Nat) (w : World) (ha : N32 w a n) (hl : (dig B32 n).length ≤ 1000000000) : Calls Try.prog 36 #[a] w fun e w' => e = .returned (.int .i64 (nbits n : Nat)) ∧ w = w' := by
  have hpost := fun L v => @nbits_limbs n L v
  obtain ⟨A, c, rfl, _, hA⟩ := ha
  obtain ⟨xs, hxs⟩ : ∃ xs, dig B32 n = xs := ⟨_, rfl⟩
  have hlow := low_dig b32_two n
  have hz : xs.length = 0 → n = 0 := fun h => (dig_nil_iff b32_two).1 (by rw [hxs]; exact List.eq_nil_of_length_eq_zero h)
  have hpost' : ∀ L v, xs.length = L + 1 → xs[L]? = some v → nbits n = 32 * L + nbits v := fun L v h1 h2 => hpost L v (by rw [← h1, ← hxs]; rfl) (by rw [← h2, ← hxs]; rfl)
  rw [hxs] at hlow hl hA ⊢
  clear hxs hpost
  obtain ⟨L, hL⟩ : ∃ L, xs.length = L := ⟨_, rfl⟩
  rw [hL] at hz hl ⊢
  have HP := Lib.hid hpost'
  have HL := Lib.hid hL
  clear hpost' hL
  by_cases h0 : L = 0
  · have hn0 := hz h0
    subst hn0
    subst h0
    clear hz hA hlow
    rw [nbits_zero]
    go_enter Try.func36, Try.ntmps36
    go_wp2
    go_ret
    exact ⟨rfl, rfl⟩
  · obtain ⟨K, rfl⟩ : ∃ K, L = K + 1 := ⟨L - 1, by omega⟩
    obtain ⟨g, off, v, rfl, hg, hv, hcv⟩ := hA.at_ (i := K) (by have := HL.out; omega)
    have hvl : v < B32 := hlow v (List.mem_of_getElem? hv)
    have hb32 : nbits v ≤ 32 := nbits_le (k := 32) hvl
    have hres := HP.out K v HL.out hv
    obtain ⟨r, hr⟩ : ∃ r, nbits n = r := ⟨_, rfl⟩
    rw [hr] at hres ⊢
    have HR := Lib.hid hres
    have HV := Lib.hid hv
    have HRR := Lib.hid hr
    have HVL := Lib.hid hvl
    have hk0 : ((K : Int) + 1 == 0) = false := by simp; omega
    clear hres hv hr hA hlow hz h0 hvl
    obtain ⟨q, hq⟩ : ∃ q, nbits v = q := ⟨_, rfl⟩
    rw [hq] at hb32
    have HQ := Lib.hid hq
    clear hq
    go_enter Try.func36, Try.ntmps36
    go_wp2
    go_loop [3, 4] (fun ct t => ∃ u ct' : Nat, t = .int .u32 (u : Int) ∧ ct = .int .i64 (ct' : Int) ∧ ct' ≤ 32 ∧ Hid (u < B32) ∧ Hid (ct' + nbits u = q)) (fun _ t => (intOf t).toNat)
    case atStart => exact ⟨v, 0, rfl, rfl, by omega, HVL, Lib.hid (by rw [HQ.out]; omega)⟩
    case round =>
      obtain ⟨u, ct, rfl, rfl, hct32, hu32, hct⟩ := hrel
      by_cases hu : 0 < u
      · have hh := nbits_half (v := u) (by omega)
        have hc2 : ct + 1 + nbits (u / 2) = q := by have := hct.out; omega
        have hc3 : ct + 1 ≤ 32 := by omega
        have HC2 := Lib.hid hc2
        clear hh hc2
        go_wp2
        go_round
        case rel => exact ⟨u / 2, ct + 1, by congr 1; have := hu32.out; unfold B32 at this; omega, by go_num, hc3, Lib.hid (by have := hu32.out; omega), HC2⟩
        case measure => simp [intOf]; omega
      · have hu0 : u = 0 := by omega
        subst hu0
        have hq' : ct = q := by have := hct.out; rw [nbits_zero] at this; omega
        have HQ' := Lib.hid hq'
        clear hq' hct hu
        go_wp2
        go_ret
        have e : (32 * (K : Int) + (ct : Int)) = (r : Int) := by have h1 := HR.out; have h2 := HQ'.out; have h3 := HQ.out; omega
        exact ⟨ret_i e, rfl⟩
end Go.Proofs.Ytaegkhdkhgemmaa

namespace Go.Proofs.Ytaegkhdkhgemmaa
open Go.RowKit Num

theorem div_step {n k x : Nat} (hx : (dig B32 n)[k]? = some x) : n / B32 ^ (k + 1) * 4294967296 + x = n / B32 ^ k := by
  have e := dig_getElem? b32_two hx
  rw [Nat.pow_succ, ← Nat.div_div_eq_div_mul]
  have := Nat.mod_add_div (n / B32 ^ k) B32
  rw [← e] at this
  unfold B32 at *
  omega

set_option maxHeartbeats 1000000 in
set_option maxRecDepth 100000 in
theorem small_no (a : Value) (n : Nat) (w : World) (ha : N32 w a n) (hl : (dig B32 n).length ≤ 1000000000) (h2 : 2 < (dig B32 n).length) : Calls Try.prog 35 #[a] w (Ret2 w (.int .u64 0) (.bool false)) := by
  obtain ⟨A, c, rfl, _, hA⟩ := ha
  clear hA
  generalize (dig B32 n).length = L at *
  go_enter Try.func35, Try.ntmps35
  go_wp2
  go_ret2
  exact ⟨rfl, Below.refl _ _⟩

set_option maxHeartbeats 1000000 in
set_option maxRecDepth 100000 in
theorem small_ok (a : Value) (n : Nat) (w : World) (ha : N32 w a n) (hl : (dig B32 n).length ≤ 2) : Calls Try.prog 35 #[a] w (Ret2 w (.int .u64 (n : Nat)) (.bool true)) := by
  have hlt : n < B64 := by
    have h1 := dig_len_lt b32_two (n := n)
    have h2 := Nat.pow_le_pow_right b32_pos hl
    have : B32 ^ 2 = B64 := by decide
    omega
  obtain ⟨A, c, rfl, _, hA⟩ := ha
  have hstep := @div_step n
  have htop : n / B32 ^ (dig B32 n).length = 0 := div_pow_len b32_two (Nat.le_refl _)
  have hlow := low_dig b32_two n
  have HST : Hid (∀ k x, (dig B32 n)[k]? = some x → n / B32 ^ (k + 1) * 4294967296 + x = n / B32 ^ k) := fun k x h => hstep h
  have HTOP := Lib.hid htop
  have HLT := Lib.hid hlt
  clear hstep htop hlt
  obtain ⟨L, hL⟩ : ∃ L, (dig B32 n).length = L := ⟨_, rfl⟩
  rw [hL] at hl HTOP ⊢
  have HL := Lib.hid hL
  clear hL
  go_enter Try.func35, Try.ntmps35
  go_wp2
  go_loop [4, 5] (fun q t => ∃ k v : Nat, k ≤ L ∧ t = .int .i64 ((k : Int) - 1) ∧ q = .int .u64 (v : Int) ∧ Hid (v = n / B32 ^ k)) (fun _ t => (intOf t + 1).toNat)
  case atStart => exact ⟨L, 0, Nat.le_refl _, rfl, rfl, Lib.hid HTOP.out.symm⟩
  case round =>
    obtain ⟨k, v, hk, rfl, rfl, hv⟩ := hrel
    by_cases h0 : k = 0
    · subst h0
      go_wp2
      go_ret2
      have e : v = n := by have := hv.out; simpa using this
      subst e
      exact ⟨rfl, Below.refl _ _⟩
    · obtain ⟨j, rfl⟩ : ∃ j, k = j + 1 := ⟨k - 1, by omega⟩
      obtain ⟨g, off, x, rfl, hg, hx, hcx⟩ := hA.at_ (i := j) (by have := HL.out; omega)
      have hxl : x < B32 := hlow x (List.mem_of_getElem? hx)
      have he := HST.out j x hx
      rw [← hv.out] at he
      have hle : v * 4294967296 + x < B64 := by rw [he]; exact Nat.lt_of_le_of_lt (Nat.div_le_self _ _) HLT.out
      obtain ⟨p, hp⟩ : ∃ p, v * 4294967296 = p := ⟨_, rfl⟩
      have w1 : IntKind.u64.wrap ((v : Int) * 4294967296) = (p : Int) := by rw [IntKind.wrap_u64]; unfold B64 at hle; omega
      have w2 : IntKind.u64.wrap (x : Int) = (x : Int) := by rw [IntKind.wrap_u64]; unfold B32 at hxl; omega
      obtain ⟨s, hs⟩ : ∃ s, p + x = s := ⟨_, rfl⟩
      have w3 : IntKind.u64.wrap ((p : Int) + (x : Int)) = (s : Int) := by rw [IntKind.wrap_u64]; unfold B64 at hle; omega
      have hs2 : s = n / B32 ^ j := by rw [← he]; omega
      have HS2 := Lib.hid hs2
      have HX := Lib.hid hx
      have HP := Lib.hid hp
      have HS := Lib.hid hs
      have HE := Lib.hid he
      clear hs2 hx hp hs he hle hxl hA hlow
      go_wp2
      go_round
      case rel => exact ⟨j, s, by omega, by congr 1, rfl, HS2⟩
      case measure => simp [intOf]

set_option maxHeartbeats 1000000 in
set_option maxRecDepth 100000 in
theorem refTrim_any (A : Option Addr) (c n : Nat) (xs : List Nat) (w : World) (h : Nums .u32 w A xs) (hlow : Low B32 xs) (hn : n = xs.length) (hc : n ≤ 1000000000) :
    Calls Try.prog 80 #[.slice A n c] w (LsPost w (dig B32 (val B32 xs))) := by
  subst hn
  have fin : ∀ k, k ≤ xs.length → ZeroFrom xs k → (∀ v, 0 < k → xs[k - 1]? = some v → v ≠ 0) → xs.take k = dig B32 (val B32 xs) := fun k hk hz hn => trim_val b32_two hlow hk hz hn
  have FIN := Lib.hid fin
  clear fin
  obtain ⟨ds, hds⟩ : ∃ ds, dig B32 (val B32 xs) = ds := ⟨_, rfl⟩
  rw [hds] at FIN ⊢
  have HDS := Lib.hid hds
  clear hds hlow
  obtain ⟨i0, hi, hz0, hz1, hz2⟩ := info_parts info56
  have ho := own_empty w 56
  have hbA := below_new w (.cells #[] 56)
  have HO := Lib.hid ho
  have H := Lib.hid h
  clear ho
  go_enter Try.func80, Try.ntmps80
  go_wp2
  go_loop [3] (fun t => ∃ k : Nat, k ≤ xs.length ∧ t = .int .i64 k ∧ ZeroFrom xs k) (fun t => (intOf t).toNat)
  case atStart => exact ⟨xs.length, Nat.le_refl _, rfl, fun i v hv hi => by have := (List.getElem?_eq_some_iff.1 hv).1; omega⟩
  case round =>
    obtain ⟨k, hk, rfl, hz⟩ := hrel
    have hex : (∃ v, 0 < k ∧ xs[k - 1]? = some v ∧ v = 0) ∨ (∀ v, 0 < k → xs[k - 1]? = some v → v ≠ 0) := by
      by_cases hh : ∃ v, 0 < k ∧ xs[k - 1]? = some v ∧ v = 0
      · exact .inl hh
      · exact .inr fun v h1 h2 h3 => hh ⟨v, h1, h2, h3⟩
    rcases hex with ⟨v, hp, hv, hv0⟩ | hfin
    · obtain ⟨g, off, v', rfl, hg, hv', hc1⟩ := h.at_ (i := k - 1) (by omega)
      have e : v' = v := by rw [hv] at hv'; injection hv' with hv'; exact hv'.symm
      subst e
      have hq : ((v' : Int) == 0) = true := by simp [hv0]
      have HV := Lib.hid hv
      have H0 := Lib.hid hv0
      clear hv hv' hv0 h
      go_wp2
      go_round
      case rel =>
        refine ⟨k - 1, by omega, by congr 1; omega, fun i u hu hi => ?_⟩
        by_cases e : i = k - 1
        · have := HV.out; rw [e] at hu; rw [hu] at this; injection this with this; rw [this]; exact H0.out
        · exact hz i u hu (by omega)
      case measure => simp [intOf]; omega
    · have htk := FIN.out k hk hz hfin
      have HT := Lib.hid htk
      clear htk
      by_cases hp : 0 < k
      · obtain ⟨g, off, v, rfl, hg, hv, hc1⟩ := h.at_ (i := k - 1) (by omega)
        have hq : ((v : Int) == 0) = false := by have := hfin v hp hv; simp; omega
        have HV := Lib.hid hv
        clear hv h hfin
        go_wp2
        go_loopw [4, 5] (fun out t wr => ∃ m : Nat, m ≤ k ∧ t = .int .i64 (m : Int) ∧ wr.ownsRow w.heap.size 56 1 out m (ints .u32 (xs.take m)) ∧ Below w.heap.size w wr) (fun _ t _ => k - (intOf t).toNat)
        case atStart => exact ⟨0, Nat.zero_le _, rfl, HO.out, hbA⟩
        case round =>
          clear hbA HO
          obtain ⟨m, hm, rfl, hown, hbl⟩ := hrel
          by_cases hlt : m < k
          · obtain ⟨q, qo, u, e0, hq', hu, hcu⟩ := (H.out.keep hbl).at_ (i := m) (by omega)
            first | (injection e0 with e0; injection e0 with e1 e2 e3; subst e1; subst e2) | subst e0
            have htk2 : ints .u32 (xs.take m) ++ [.int .u32 (u : Int)] = ints .u32 (xs.take (m + 1)) := by
              have hml : m < xs.length := by omega
              rw [List.take_succ_eq_append_getElem hml, (List.getElem?_eq_some_iff.1 hu).2]; simp [ints]
            have HT2 := Lib.hid htk2
            have HU := Lib.hid hu
            clear htk2 hu
            go_wp2_with (at_builtin
                         refine wpList_append_own _ rfl _ _ 35 rfl w.heap.size 56 i0 (.int .u32 0) 1 4 Try.underlying35 hi hz0 hz1 hz2 rfl (by decide) _ m _ rfl (hown.alloc _) ⟨wr.heap.size, 0, none⟩ 1 1 [.int .u32 (u : Int)] rfl rfl (cell_one_new _ _ _) (ints_one .u32 [u]) ?c4 ?c5 (Nat.le_trans hbl.size (by simp)) ?_)
            case c4 => unfold maxLen; omega
            case c5 => omega
            intro v' w1 hown1 hgr1 _
            have hb1 : Below w.heap.size w w1 := (hbl.alloc hbl.size _).grown hgr1 (Nat.le_trans hbl.size (by simp)) (fun g' hg' => by
              rcases hown.2 with ⟨rfl, _⟩ | ⟨g2, cap, cur, rfl, hg2, _⟩
              · simp [Value.ownBlock] at hg'
              · simp [Value.ownBlock] at hg'; omega)
            rw [HT2.out] at hown1
            have H1 := Lib.hid hown1
            clear hown1 hown
            go_wp2
            go_roundw
            case rel => exact ⟨m + 1, by omega, by go_num, H1.out, hb1⟩
            case measure => simp [intOf]; omega
          · have hmk : m = k := by omega
            subst hmk
            clear hlt
            rw [HT.out] at hown
            have hlen : ds.length = m := by rw [← HT.out, List.length_take]; omega
            have HLEN := Lib.hid hlen
            have HOW := Lib.hid hown
            clear hlen hown
            go_wp2
            go_ret
            have := HOW.out
            rw [← HLEN.out] at this
            exact ⟨_, rfl, this, hbl⟩
      · clear h hfin
        go_wp2
        go_loopw [4, 5] (fun out t wr => ∃ m : Nat, m ≤ k ∧ t = .int .i64 (m : Int) ∧ wr.ownsRow w.heap.size 56 1 out m (ints .u32 (xs.take m)) ∧ Below w.heap.size w wr) (fun _ t _ => k - (intOf t).toNat)
        case atStart => exact ⟨0, Nat.zero_le _, rfl, HO.out, hbA⟩
        case round =>
          clear hbA HO
          obtain ⟨m, hm, rfl, hown, hbl⟩ := hrel
          by_cases hlt : m < k
          · exfalso; omega
          · have hmk : m = k := by omega
            subst hmk
            clear hlt
            rw [HT.out] at hown
            have hlen : ds.length = m := by rw [← HT.out, List.length_take]; omega
            have HLEN := Lib.hid hlen
            have HOW := Lib.hid hown
            clear hlen hown
            go_wp2
            go_ret
            have := HOW.out
            rw [← HLEN.out] at this
            exact ⟨_, rfl, this, hbl⟩
end Go.Proofs.Ytaegkhdkhgemmaa

namespace Go.Proofs.Ytaegkhdkhgemmaa
open Go.RowKit Num

set_option maxHeartbeats 1000000 in
set_option maxRecDepth 100000 in
theorem refOf_any (v : Nat) (hv : v < B64) (w : World) : Calls Try.prog 34 #[.int .u64 (v : Int)] w (LsPost w (dig B32 v)) := by
  obtain ⟨lo, hlo⟩ : ∃ lo, v % 4294967296 = lo := ⟨_, rfl⟩
  obtain ⟨hi, hhi⟩ : ∃ hi, v / 4294967296 = hi := ⟨_, rfl⟩
  have l1 : lo < B32 := by unfold B32; omega
  have l2 : hi < B32 := by unfold B32; unfold B64 at hv; omega
  have e1 : (v : Int) % 4294967296 = (lo : Int) := by omega
  have e2 : (v : Int) / 4294967296 = (hi : Int) := by omega
  have w1 : IntKind.u32.wrap (lo : Int) = (lo : Int) := by rw [IntKind.wrap_u32']; unfold B32 at l1; omega
  have w2 : IntKind.u32.wrap (hi : Int) = (hi : Int) := by rw [IntKind.wrap_u32']; unfold B32 at l2; omega
  have w3 : IntKind.u64.wrap (hi : Int) = (hi : Int) := by rw [IntKind.wrap_u64]; unfold B32 at l2; omega
  have w4 : (hi : Int) % 4294967296 = (hi : Int) := by unfold B32 at l2; omega
  have hval : val B32 [lo, hi] = v := by simp only [val]; unfold B32; omega
  have hlow : Low B32 [lo, hi] := Low.cons l1 (Low.cons l2 (Low.nil _))
  have hl := new_limbs w [lo, hi] (by simp)
  have hbA := below_new w (.cells (ints .u32 [lo, hi]).toArray 56)
  have ht : Calls Try.prog 80 #[.slice (some ⟨w.heap.size, 0, none⟩) 2 2] (w.alloc (.cells #[.int .u32 (lo : Int), .int .u32 (hi : Int)] 56)) (LsPost (w.alloc (.cells #[.int .u32 (lo : Int), .int .u32 (hi : Int)] 56)) (dig B32 v)) := by
    obtain ⟨A, c, e, _, _, hn⟩ := hl
    injection e with e1 e2 e3
    subst e1
    have := refTrim_any _ 2 2 [lo, hi] _ hn hlow rfl (by omega)
    rw [hval] at this
    exact this
  have HT := Lib.hid ht
  have H1 := Lib.hid hlo
  have H2 := Lib.hid hhi
  clear ht hl hval hlow hlo hhi l1 l2 hv
  go_enter Try.func34, Try.ntmps34
  go_wp2_with (go_at_call 80; refine HT.out.mono ?_; rintro e w1 ⟨r, rfl, hr, hb⟩)
  go_ret
  refine ⟨_, rfl, ?_, below_at hbA (Nat.le_refl _) hb⟩
  obtain ⟨q1, q2⟩ := hr
  refine ⟨q1, ?_⟩
  rcases q2 with q2 | ⟨g, c, cur, e, hg, r⟩
  · exact .inl q2
  · exact .inr ⟨g, c, cur, e, by simp at hg; omega, r⟩
end Go.Proofs.Ytaegkhdkhgemmaa

namespace Go.Proofs.Ytaegkhdkhgemmaa
open Go.RowKit Num

theorem check_l (a : Value) (xs : List Nat) (w : World) (h : Limbs w a xs) : Calls Try.prog 31 #[a] w fun e w' => e = .returned (.int .i64 (chk xs)) ∧ w = w' := by
  obtain ⟨A, c, rfl, _, hl, hA⟩ := h
  exact check_any A c _ xs w hA rfl hl
theorem refCheck_l (a : Value) (xs : List Nat) (w : World) (h : Limbs w a xs) : Calls Try.prog 27 #[a] w fun e w' => e = .returned (.int .i64 (chk xs)) ∧ w = w' := by
  obtain ⟨A, c, rfl, _, hl, hA⟩ := h
  exact refCheck_any A c _ xs w hA rfl hl
/-- Limbs that Check takes are the digits of a number. -/
theorem chk_zero {xs : List Nat} (hlow : Low B32 xs) (h : chk xs = 0) : xs = dig B32 (val B32 xs) := by
  refine (dig_val b32_two hlow ((neat_iff xs).2 fun hl h0 => ?_)).symm
  unfold chk at h
  split at h
  · cases h
  · rw [if_pos ⟨hl, by rw [List.getD_eq_getElem?_getD, List.getElem?_eq_getElem (by omega)]; exact h0⟩] at h
    cases h
theorem len_u64 {v : Nat} (hv : v < B64) : (dig B32 v).length ≤ 2 := by
  have e : B32 ^ 2 = B64 := by decide
  exact dig_len_le b32_two (by omega)
theorem same_of (a b : Value) (v : Nat) (w : World) (ha : N32 w a v) (hb : Limbs w b (dig B32 v)) (hv : v < B64) : Calls Try.prog 32 #[a, b] w fun e w' => e = .returned (.bool true) ∧ Below w.heap.size w w' := by
  have hl := len_u64 hv
  have := same_nums a b _ _ w (Limbs.num ha (by omega)) hb
  rw [decide_eq_true rfl] at this
  exact this

set_option maxHeartbeats 2000000 in
set_option maxRecDepth 100000 in
theorem checks_bad (A : Option Addr) (c L v : Nat) (xs : List Nat) (w : World) (hA : Nums .u32 w A xs) (hL : L = xs.length) (hc : L ≤ c) (hnil : A = none → c = 0) (hv : v < B64)
    (hbad : chk (xs.take 40) ≠ 0) : Calls Try.prog 3 #[.slice A L c, .int .u64 (v : Int)] w (LivesPost w) := by
  have hcut := cut_any A c L 40 xs w hA hL hc hnil (by omega)
  have hlen : (xs.take 40).length ≤ 40 := by rw [List.length_take]; omega
  generalize xs.take 40 = ys at *
  have hlim : ∀ B w' a, OwnLs B w' a ys → Limbs w' a ys := fun B w' a h => h.limbs (by omega)
  have hof := fun w => of_any v hv w
  have hrof := fun w => refOf_any v hv w
  have hlim2 : ∀ B w' a, OwnLs B w' a (dig B32 v) → Limbs w' a (dig B32 v) := fun B w' a h => h.limbs (Nat.le_trans (len_u64 hv) (by omega))
  have hsame := fun a b w h1 h2 => same_of a b v w h1 h2 hv
  have hb28 := fun a w h => bits_bad a ys w h hbad
  have hb29 := fun a w h => uint64_bad a ys w h hbad
  have h27 := fun a w h => refCheck_l a ys w h
  have h31 := fun a w h => check_l a ys w h
  obtain ⟨r, hr⟩ : ∃ r, chk ys = r := ⟨_, rfl⟩
  rw [hr] at hbad hb28 hb29 h27 h31
  have hq : (r != 0) = true := by simp [hbad]
  have hq0 : (r == r) = true := by simp
  have hq1 : (r != r) = false := by simp
  have HCUT := Lib.hid hcut
  have HLIM := Lib.hid hlim
  have HLIM2 := Lib.hid hlim2
  have HOF := Lib.hid hof
  have HROF := Lib.hid hrof
  have HSAME := Lib.hid hsame
  have H28 := Lib.hid hb28
  have H29 := Lib.hid hb29
  have H27 := Lib.hid h27
  have H31 := Lib.hid h31
  have HR := Lib.hid hr
  have HB := Lib.hid hbad
  clear hcut hlim hlim2 hof hrof hsame hb28 hb29 h27 h31 hr hbad hA hL hlen hnil hv
  go_enter Try.func3, Try.ntmps3
  go_wp2_with (first
    | (go_at_call 26; refine HCUT.out.mono ?_; rintro e w1 ⟨va, rfl, hva, hb1⟩
       have ka := HLIM.out _ _ _ hva)
    | (go_at_call 27; refine (H27.out _ _ ka).mono ?_; rintro e w2 ⟨rfl, rfl⟩)
    | (go_at_call 28; refine (H28.out _ _ ka).mono ?_; rintro e w2 ⟨rfl, hb2⟩
       have b2 := below_at hb1 (Nat.le_refl _) hb2
       have ka2 := ka.keep hb2)
    | (go_at_call 29; refine (H29.out _ _ ka2).mono ?_; rintro e w3 ⟨rfl, hb3⟩
       have b3 := below_at b2 (Nat.le_refl _) hb3
       have ka3 := ka2.keep hb3)
    | (go_at_call 30; refine (lives_any _).mono ?_; rintro e w4 ⟨rfl, hb4⟩
       have b4 := below_at b3 (Nat.le_refl _) hb4
       have ka4 := ka3.keep hb4)
    | (go_at_call 31; refine (H31.out _ _ ka4).mono ?_; rintro e w5 ⟨rfl, rfl⟩)
    | (go_at_call 33; refine (HOF.out _).mono ?_; rintro e w6 ⟨v6, rfl, hv6, hb6⟩
       have b6 := below_at b4 (Nat.le_refl _) hb6)
    | (go_at_call 34; refine (HROF.out _).mono ?_; rintro e w7 ⟨v7, rfl, hv7, hb7⟩
       have b7 := below_at b6 (Nat.le_refl _) hb7
       have k6 := hv6.is.keep hb7
       have k7 := HLIM2.out _ _ _ hv7)
    | (go_at_call 32; refine (HSAME.out _ _ _ k6 k7).mono ?_; rintro e w8 ⟨rfl, hb8⟩
       have b8 := below_at b7 (Nat.le_refl _) hb8))
  go_ret
  exact ⟨rfl, b8⟩
set_option maxHeartbeats 2000000 in
set_option maxRecDepth 100000 in
theorem checks_ok2 (A : Option Addr) (c L v n : Nat) (xs : List Nat) (w : World) (hA : Nums .u32 w A xs) (hL : L = xs.length) (hc : L ≤ c) (hnil : A = none → c = 0) (hv : v < B64)
    (hn : xs.take 40 = dig B32 n) (h2 : (dig B32 n).length ≤ 2) : Calls Try.prog 3 #[.slice A L c, .int .u64 (v : Int)] w (LivesPost w) := by
  have hcut := cut_any A c L 40 xs w hA hL hc hnil (by omega)
  have hlen : (xs.take 40).length ≤ 40 := by rw [List.length_take]; omega
  rw [hn] at hcut hlen
  have hlim : ∀ B w' a, OwnLs B w' a (dig B32 n) → Limbs w' a (dig B32 n) := fun B w' a h => h.limbs (by omega)
  have hof := fun w => of_any v hv w
  have hrof := fun w => refOf_any v hv w
  have hlim2 : ∀ B w' a, OwnLs B w' a (dig B32 v) → Limbs w' a (dig B32 v) := fun B w' a h => h.limbs (Nat.le_trans (len_u64 hv) (by omega))
  have hsame := fun a b w h1 h2 => same_of a b v w h1 h2 hv
  have hb28 := fun a w (h : Limbs w a (dig B32 n)) => bits_ok a n w h.is (by omega)
  have hb29 := fun a w (h : Limbs w a (dig B32 n)) => uint64_ok a n w h.is h2
  have h27 := fun a w h => refCheck_l a (dig B32 n) w h
  have h31 := fun a w h => check_l a (dig B32 n) w h
  have h35 := fun a w (h : Limbs w a (dig B32 n)) => small_ok a n w h.is h2
  have h36 := fun a w (h : Limbs w a (dig B32 n)) => refBits_any a n w h.is (by omega)
  rw [chk_dig (n := n) (by omega)] at h27 h31
  generalize nbits n = r at *
  have HCUT := Lib.hid hcut
  have HLIM := Lib.hid hlim
  have HLIM2 := Lib.hid hlim2
  have HOF := Lib.hid hof
  have HROF := Lib.hid hrof
  have HSAME := Lib.hid hsame
  have H28 := Lib.hid hb28
  have H29 := Lib.hid hb29
  have H27 := Lib.hid h27
  have H31 := Lib.hid h31
  have H35 := Lib.hid h35
  have H36 := Lib.hid h36
  clear hcut hlim hlim2 hof hrof hsame hb28 hb29 h27 h31 h35 h36 hA hL hlen hnil hv hn h2
  go_enter Try.func3, Try.ntmps3
  go_wp2_with (first
    | (go_at_call 26; refine HCUT.out.mono ?_; rintro e w1 ⟨va, rfl, hva, hb1⟩
       have ka := HLIM.out _ _ _ hva)
    | (go_at_call 27; refine (H27.out _ _ ka).mono ?_; rintro e w2 ⟨rfl, rfl⟩)
    | (go_at_call 28; refine (H28.out _ _ ka).mono ?_; rintro e w2 ⟨rfl, hb2⟩
       have b2 := below_at hb1 (Nat.le_refl _) hb2
       have ka2 := ka.keep hb2)
    | (go_at_call 29; refine (H29.out _ _ ka2).mono ?_; rintro e w3 ⟨rfl, hb3⟩
       have b3 := below_at b2 (Nat.le_refl _) hb3
       have ka3 := ka2.keep hb3)
    | (go_at_call 30; refine (lives_any _).mono ?_; rintro e w4 ⟨rfl, hb4⟩
       have b4 := below_at b3 (Nat.le_refl _) hb4
       have ka4 := ka3.keep hb4)
    | (go_at_call 31; refine (H31.out _ _ ka4).mono ?_; rintro e w5 ⟨rfl, rfl⟩)
    | (go_at_call 33; refine (HOF.out _).mono ?_; rintro e w6 ⟨v6, rfl, hv6, hb6⟩
       have b6 := below_at b4 (Nat.le_refl _) hb6
       have ka6 := ka4.keep hb6)
    | (go_at_call 34; refine (HROF.out _).mono ?_; rintro e w7 ⟨v7, rfl, hv7, hb7⟩
       have b7 := below_at b6 (Nat.le_refl _) hb7
       have k6 := hv6.is.keep hb7
       have k7 := HLIM2.out _ _ _ hv7
       have ka7 := ka6.keep hb7)
    | (go_at_call 32; refine (HSAME.out _ _ _ k6 k7).mono ?_; rintro e w8 ⟨rfl, hb8⟩
       have b8 := below_at b7 (Nat.le_refl _) hb8
       have ka8 := ka7.keep hb8)
    | (go_at_call 35; refine (H35.out _ _ ka8).mono ?_; rintro e w9 ⟨rfl, hb9⟩
       have b9 := below_at b8 (Nat.le_refl _) hb9
       have ka9 := ka8.keep hb9)
    | (go_at_call 36; refine (H36.out _ _ ka9).mono ?_; rintro e w10 ⟨rfl, rfl⟩))
  go_ret
  exact ⟨rfl, b9⟩

set_option maxHeartbeats 2000000 in
set_option maxRecDepth 100000 in
theorem checks_ok3 (A : Option Addr) (c L v n : Nat) (xs : List Nat) (w : World) (hA : Nums .u32 w A xs) (hL : L = xs.length) (hc : L ≤ c) (hnil : A = none → c = 0) (hv : v < B64)
    (hn : xs.take 40 = dig B32 n) (h2 : 2 < (dig B32 n).length) : Calls Try.prog 3 #[.slice A L c, .int .u64 (v : Int)] w (LivesPost w) := by
  have hcut := cut_any A c L 40 xs w hA hL hc hnil (by omega)
  have hlen : (xs.take 40).length ≤ 40 := by rw [List.length_take]; omega
  rw [hn] at hcut hlen
  have hlim : ∀ B w' a, OwnLs B w' a (dig B32 n) → Limbs w' a (dig B32 n) := fun B w' a h => h.limbs (by omega)
  have hof := fun w => of_any v hv w
  have hrof := fun w => refOf_any v hv w
  have hlim2 : ∀ B w' a, OwnLs B w' a (dig B32 v) → Limbs w' a (dig B32 v) := fun B w' a h => h.limbs (Nat.le_trans (len_u64 hv) (by omega))
  have hsame := fun a b w h1 h2 => same_of a b v w h1 h2 hv
  have hb28 := fun a w (h : Limbs w a (dig B32 n)) => bits_ok a n w h.is (by omega)
  have hb29 := fun a w (h : Limbs w a (dig B32 n)) => uint64_range a n w h.is (by omega) h2
  have h27 := fun a w h => refCheck_l a (dig B32 n) w h
  have h31 := fun a w h => check_l a (dig B32 n) w h
  have h35 := fun a w (h : Limbs w a (dig B32 n)) => small_no a n w h.is (by omega) h2
  have h36 := fun a w (h : Limbs w a (dig B32 n)) => refBits_any a n w h.is (by omega)
  rw [chk_dig (n := n) (by omega)] at h27 h31
  generalize nbits n = r at *
  have HCUT := Lib.hid hcut
  have HLIM := Lib.hid hlim
  have HLIM2 := Lib.hid hlim2
  have HOF := Lib.hid hof
  have HROF := Lib.hid hrof
  have HSAME := Lib.hid hsame
  have H28 := Lib.hid hb28
  have H29 := Lib.hid hb29
  have H27 := Lib.hid h27
  have H31 := Lib.hid h31
  have H35 := Lib.hid h35
  have H36 := Lib.hid h36
  clear hcut hlim hlim2 hof hrof hsame hb28 hb29 h27 h31 h35 h36 hA hL hlen hnil hv hn h2
  go_enter Try.func3, Try.ntmps3
  go_wp2_with (first
    | (go_at_call 26; refine HCUT.out.mono ?_; rintro e w1 ⟨va, rfl, hva, hb1⟩
       have ka := HLIM.out _ _ _ hva)
    | (go_at_call 27; refine (H27.out _ _ ka).mono ?_; rintro e w2 ⟨rfl, rfl⟩)
    | (go_at_call 28; refine (H28.out _ _ ka).mono ?_; rintro e w2 ⟨rfl, hb2⟩
       have b2 := below_at hb1 (Nat.le_refl _) hb2
       have ka2 := ka.keep hb2)
    | (go_at_call 29; refine (H29.out _ _ ka2).mono ?_; rintro e w3 ⟨rfl, hb3⟩
       have b3 := below_at b2 (Nat.le_refl _) hb3
       have ka3 := ka2.keep hb3)
    | (go_at_call 30; refine (lives_any _).mono ?_; rintro e w4 ⟨rfl, hb4⟩
       have b4 := below_at b3 (Nat.le_refl _) hb4
       have ka4 := ka3.keep hb4)
    | (go_at_call 31; refine (H31.out _ _ ka4).mono ?_; rintro e w5 ⟨rfl, rfl⟩)
    | (go_at_call 33; refine (HOF.out _).mono ?_; rintro e w6 ⟨v6, rfl, hv6, hb6⟩
       have b6 := below_at b4 (Nat.le_refl _) hb6
       have ka6 := ka4.keep hb6)
    | (go_at_call 34; refine (HROF.out _).mono ?_; rintro e w7 ⟨v7, rfl, hv7, hb7⟩
       have b7 := below_at b6 (Nat.le_refl _) hb7
       have k6 := hv6.is.keep hb7
       have k7 := HLIM2.out _ _ _ hv7
       have ka7 := ka6.keep hb7)
    | (go_at_call 32; refine (HSAME.out _ _ _ k6 k7).mono ?_; rintro e w8 ⟨rfl, hb8⟩
       have b8 := below_at b7 (Nat.le_refl _) hb8
       have ka8 := ka7.keep hb8)
    | (go_at_call 35; refine (H35.out _ _ ka8).mono ?_; rintro e w9 ⟨rfl, hb9⟩
       have b9 := below_at b8 (Nat.le_refl _) hb9
       have ka9 := ka8.keep hb9)
    | (go_at_call 36; refine (H36.out _ _ ka9).mono ?_; rintro e w10 ⟨rfl, rfl⟩))
  go_ret
  exact ⟨rfl, b9⟩

/-- The law NatChecks, for whatever limbs and whatever word. -/
theorem checks_walk (A : Option Addr) (c L v : Nat) (xs : List Nat) (w : World) (hA : Nums .u32 w A xs) (hlow : Low B32 xs) (hL : L = xs.length) (hc : L ≤ c) (hnil : A = none → c = 0) (hv : v < B64) :
    Calls Try.prog 3 #[.slice A L c, .int .u64 (v : Int)] w (LivesPost w) := by
  by_cases h0 : chk (xs.take 40) = 0
  · have hn := chk_zero (hlow.take 40) h0
    rcases Nat.lt_or_ge 2 (dig B32 (val B32 (xs.take 40))).length with h2 | h2
    · exact checks_ok3 A c L v _ xs w hA hL hc hnil hv hn h2
    · exact checks_ok2 A c L v _ xs w hA hL hc hnil hv hn h2
  · exact checks_bad A c L v xs w hA hL hc hnil hv h0
end Go.Proofs.Ytaegkhdkhgemmaa

namespace Go.Proofs.Ytaegkhdkhgemmaa
open Go.RowKit Num

theorem cmp64_call (a b : Value) (m n : Nat) (w : World) (ha : W64 w a m) (hb : W64 w b n) (hm : (dig B64 m).length ≤ 1000000000) (hn : (dig B64 n).length ≤ 1000000000) :
    Calls Try.prog 83 #[a, b] w fun e w' => e = .returned (.int .i64 (cmpN m n)) ∧ Below w.heap.size w w' := by
  obtain ⟨A, c, rfl, _, hA⟩ := ha
  obtain ⟨A', c', rfl, _, hA'⟩ := hb
  exact compare83 A A' c c' _ _ m n w hA hA' rfl rfl (by omega) (by omega)

set_option maxHeartbeats 1000000 in
set_option maxRecDepth 100000 in
theorem sub_ok (a b : Value) (m n : Nat) (w : World) (ha : N32 w a m) (hb : N32 w b n) (hm : (dig B32 m).length ≤ 262144) (hn : (dig B32 n).length ≤ 262144) (hle : n ≤ m) : Calls Try.prog 38 #[a, b] w (NatOk w (m - n)) := by
  have hc := checkAll_any w.heap.size 2 2 _ _ (nats2 (Limbs.num ha (by omega)) (Limbs.num hb (by omega))) rfl (by omega)
  rw [chkAll2, chk2, if_pos (chk_dig hm), chk_dig hn] at hc
  have hbA := below_new w (.cells #[a, b] 23)
  have ha1 := ha.keep hbA
  have hb1 := hb.keep hbA
  have hf1 := fun w' (h : N32 w' a m) => fromNat_any a m w' h (by omega)
  have hf2 := fun w' (h : N32 w' b n) => fromNat_any b n w' h (by omega)
  have lm := words_le (n := m) (K := 131072) hm
  have ln := words_le (n := n) (K := 131072) hn
  have hcm := fun v u w' (h : W64 w' v m) (k : W64 w' u n) => cmp64_call v u m n w' h k (by omega) (by omega)
  have hpr := fun v u w' (h : W64 w' v m) (k : W64 w' u n) => diff_any v u m n w' h k (by omega) hle
  have hnt := fun v w' (h : W64 w' v (m - n)) => nat_any v (m - n) w' h (Nat.le_trans (dig_len_mono (Nat.sub_le m n)) (by omega))
  have hcv : 0 ≤ cmpN m n := by unfold cmpN; split <;> (try split) <;> omega
  generalize cmpN m n = r at *
  have HC := Lib.hid hc
  have HA := Lib.hid ha1
  have HB := Lib.hid hb1
  have HF1 := Lib.hid hf1
  have HF2 := Lib.hid hf2
  have HP := Lib.hid hpr
  have HN := Lib.hid hnt
  have HCM := Lib.hid hcm
  obtain ⟨A, c, rfl, _⟩ := ha
  obtain ⟨A', c', rfl, _⟩ := hb
  clear hc ha1 hb1 hf1 hf2 hpr hle hnt lm ln hcm
  generalize (dig B32 m).length = L at *
  generalize (dig B32 n).length = L' at *
  go_enter Try.func38, Try.ntmps38
  go_wp2_with (go_at_call 75; refine HC.out.mono ?_; rintro e w1 ⟨rfl, rfl⟩)
  go_wp2_with (fail)
  refine (HF1.out _ HA.out).mono ?_
  rintro e w1 ⟨v1, rfl, hv1, hb1⟩
  go_wp2_with (fail)
  refine (HF2.out _ (HB.out.keep hb1)).mono ?_
  rintro e w2 ⟨v2, rfl, hv2, hb2⟩
  have k1 := hv1.is.keep hb2
  have k2 := hv2.is
  go_wp2_with (fail)
  refine (HCM.out _ _ _ k1 k2).mono ?_
  rintro e w3 ⟨rfl, hb3⟩
  go_wp2_with (fail)
  refine (HP.out _ _ _ (k1.keep hb3) (k2.keep hb3)).mono ?_
  rintro e w4 ⟨v4, rfl, hv4, hb4⟩
  go_wp2_with (fail)
  refine (HN.out _ _ hv4.is).mono ?_
  rintro e w5 ⟨v5, rfl, hv5, hb5⟩
  go_wp2
  go_ret2
  have b1 := below_at hbA (Nat.le_refl _) hb1
  have b2 := below_at b1 (Nat.le_refl _) hb2
  have b3 := below_at b2 (Nat.le_refl _) hb3
  have b4 := below_at b3 (Nat.le_refl _) hb4
  exact ⟨_, rfl, hv5.mono b4.size, below_at b4 (Nat.le_refl _) hb5⟩

set_option maxHeartbeats 1000000 in
set_option maxRecDepth 100000 in
theorem sub_range (a b : Value) (m n : Nat) (w : World) (ha : N32 w a m) (hb : N32 w b n) (hm : (dig B32 m).length ≤ 262144) (hn : (dig B32 n).length ≤ 262144) (hlt : m < n) : Calls Try.prog 38 #[a, b] w (NatErr w 5) := by
  have hc := checkAll_any w.heap.size 2 2 _ _ (nats2 (Limbs.num ha (by omega)) (Limbs.num hb (by omega))) rfl (by omega)
  rw [chkAll2, chk2, if_pos (chk_dig hm), chk_dig hn] at hc
  have hbA := below_new w (.cells #[a, b] 23)
  have ha1 := ha.keep hbA
  have hb1 := hb.keep hbA
  have hf1 := fun w' (h : N32 w' a m) => fromNat_any a m w' h (by omega)
  have hf2 := fun w' (h : N32 w' b n) => fromNat_any b n w' h (by omega)
  have lm := words_le (n := m) (K := 131072) hm
  have ln := words_le (n := n) (K := 131072) hn
  have hcm := fun v u w' (h : W64 w' v m) (k : W64 w' u n) => cmp64_call v u m n w' h k (by omega) (by omega)
  rw [cmpN_lt hlt] at hcm
  have HC := Lib.hid hc
  have HA := Lib.hid ha1
  have HB := Lib.hid hb1
  have HF1 := Lib.hid hf1
  have HF2 := Lib.hid hf2
  have HCM := Lib.hid hcm
  obtain ⟨A, c, rfl, _⟩ := ha
  obtain ⟨A', c', rfl, _⟩ := hb
  clear hc ha1 hb1 hf1 hf2 lm ln hcm hlt
  generalize (dig B32 m).length = L at *
  generalize (dig B32 n).length = L' at *
  go_enter Try.func38, Try.ntmps38
  go_wp2_with (go_at_call 75; refine HC.out.mono ?_; rintro e w1 ⟨rfl, rfl⟩)
  go_wp2_with (fail)
  refine (HF1.out _ HA.out).mono ?_
  rintro e w1 ⟨v1, rfl, hv1, hb1⟩
  go_wp2_with (fail)
  refine (HF2.out _ (HB.out.keep hb1)).mono ?_
  rintro e w2 ⟨v2, rfl, hv2, hb2⟩
  have k1 := hv1.is.keep hb2
  have k2 := hv2.is
  go_wp2_with (fail)
  refine (HCM.out _ _ _ k1 k2).mono ?_
  rintro e w3 ⟨rfl, hb3⟩
  go_wp2
  go_ret2
  have b1 := below_at hbA (Nat.le_refl _) hb1
  have b2 := below_at b1 (Nat.le_refl _) hb2
  exact ⟨rfl, below_at b2 (Nat.le_refl _) hb3⟩

set_option maxHeartbeats 400000 in
theorem both_any (a b : Value) (xs ys : List Nat) (w : World) (ha : Limbs w a xs) (hb : Limbs w b ys) : Calls Try.prog 40 #[a, b] w fun e w' => e = .returned (.int .i64 (chk2 xs ys)) ∧ w = w' := by
  have h1 := refCheck_l a xs w ha
  have h2 := refCheck_l b ys w hb
  unfold chk2
  by_cases h0 : chk xs = 0
  · rw [if_pos h0]
    rw [h0] at h1
    generalize chk ys = r at *
    have H1 := Lib.hid h1
    have H2 := Lib.hid h2
    clear h1 h2 ha hb h0
    go_enter Try.func40, Try.ntmps40
    go_wp2_with (fail)
    refine H1.out.mono ?_
    rintro e w1 ⟨rfl, rfl⟩
    go_wp2_with (fail)
    refine H2.out.mono ?_
    rintro e w1 ⟨rfl, rfl⟩
    go_wp2
    go_ret
    exact ⟨rfl, rfl⟩
  · rw [if_neg h0]
    generalize chk xs = r at *
    have hq : (r != 0) = true := by simp [h0]
    have H1 := Lib.hid h1
    have H0 := Lib.hid h0
    clear h1 h2 ha hb h0
    go_enter Try.func40, Try.ntmps40
    go_wp2_with (fail)
    refine H1.out.mono ?_
    rintro e w1 ⟨rfl, rfl⟩
    go_wp2
    go_ret
    exact ⟨rfl, rfl⟩

set_option maxHeartbeats 400000 in
/-- is: a number that is as it should be. -/
theorem is_ok (a b : Value) (n : Nat) (w : World) (ha : N32 w a n) (hb : Limbs w b (dig B32 n)) (hl : (dig B32 n).length ≤ 1000000000) : Calls Try.prog 41 #[a, .int .i64 0, b, .int .i64 0] w (LivesPost w) := by
  have hs := same_nums a b _ _ w (Limbs.num ha (by omega)) hb
  rw [decide_eq_true rfl] at hs
  have HS := Lib.hid hs
  clear hs ha hb
  go_enter Try.func41, Try.ntmps41
  go_wp2_with (go_at_call 32; refine HS.out.mono ?_; rintro e w1 ⟨rfl, hb1⟩)
  go_ret
  exact ⟨rfl, hb1⟩
set_option maxHeartbeats 400000 in
/-- is: an error that is as it should be. -/
theorem is_err (b : Value) (k : Int) (w : World) (h0 : k ≠ 0) : Calls Try.prog 41 #[.slice none 0 0, .int .i64 k, b, .int .i64 k] w (LivesPost w) := by
  have hq : (k != 0) = true := by simp [h0]
  have hq2 : (k == k) = true := by simp
  have H0 := Lib.hid h0
  clear h0
  go_enter Try.func41, Try.ntmps41
  go_wp2
  go_ret
  exact ⟨rfl, Below.refl _ _⟩
end Go.Proofs.Ytaegkhdkhgemmaa

namespace Go.Proofs.Ytaegkhdkhgemmaa
open Go.RowKit Num

/-- Division by a word from the top down: the words from k on are done. -/
structure WordSt (xs zs : List Nat) (v k l : Nat) : Prop where
  len : zs.length = xs.length
  low : Low B64 zs
  lt : l < v
  eq : val B64 (xs.drop k) = v * val B64 (zs.drop k) + l
theorem WordSt.start (xs : List Nat) {v : Nat} (hv : 0 < v) : WordSt xs (List.replicate xs.length 0) v xs.length 0 :=
  ⟨by simp, Low.replicate b64_pos _, hv, by simp [val]⟩
theorem WordSt.step {xs zs : List Nat} {v k l x q r : Nat} (h : WordSt xs zs v (k + 1) l) (hx : xs[k]? = some x) (hs : l * B64 + x = v * q + r) (hq : q < B64) (hr : r < v) : WordSt xs (zs.set k q) v k r := by
  have hk : k < xs.length := (List.getElem?_eq_some_iff.1 hx).1
  have hxe : xs[k] = x := (List.getElem?_eq_some_iff.1 hx).2
  have hkz : k < (zs.set k q).length := by rw [List.length_set, h.len]; exact hk
  refine ⟨by rw [List.length_set]; exact h.len, h.low.set hq, hr, ?_⟩
  rw [List.drop_eq_getElem_cons hk, List.drop_eq_getElem_cons hkz, hxe, List.getElem_set_self, List.drop_set_of_lt (by omega)]
  simp only [val]
  rw [h.eq]
  grind
theorem WordSt.fin {xs zs : List Nat} {v l : Nat} (h : WordSt xs zs v 0 l) : val B64 zs = val B64 xs / v ∧ val B64 xs % v = l := by
  have e := h.eq
  simp only [List.drop_zero] at e
  have hl := h.lt
  rw [e, Nat.mul_add_div (by omega), Nat.div_eq_of_lt hl, Nat.mul_add_mod, Nat.mod_eq_of_lt hl]
  simp

def DivWPost (w : World) (q r : Nat) (e : Ending) (w' : World) : Prop := ∃ v, e = .returned (.tuple #[v, .int .u64 (r : Int)]) ∧ OwnW w.heap.size w' v q ∧ Below w.heap.size w w'

set_option maxHeartbeats 2000000 in
set_option maxRecDepth 100000 in
theorem divideWord_any (A : Option Addr) (c L d : Nat) (xs : List Nat) (w : World) (hA : Nums .u64 w A xs) (hx : Low B64 xs) (hL : L = xs.length) (hl : L ≤ 100000000000) (hd0 : 0 < d) (hd : d < B64) :
    Calls Try.prog 112 #[.slice A L c, .int .u64 (d : Int)] w (DivWPost w (val B64 xs / d) (val B64 xs % d)) := by
  have hmk := make64 L (by omega) w
  have hr0 := Row.made w .u64 L 24
  have hbA : Below w.heap.size w (w.alloc (.cells (madeCells #[.int .u64 0] L) 24)) := (Below.refl _ _).alloc (Nat.le_refl _) _
  have hst0 := WordSt.start xs hd0
  rw [← hL] at hst0
  have HL := Lib.hid hL
  have HR0 := Lib.hid hr0
  clear hL hr0
  go_enter Try.func112, Try.ntmps112
  go_wp2
  go_loopw [5, 6] (fun q t wr => ∃ (k l : Nat) (zs : List Nat), k ≤ L ∧ t = .int .i64 ((k : Int) - 1) ∧ q = .int .u64 (l : Int) ∧ WordSt xs zs d k l ∧ Row .u64 24 wr w.heap.size zs ∧ Below w.heap.size w wr) (fun _ t _ => (intOf t + 1).toNat)
  case atStart => exact ⟨L, 0, _, Nat.le_refl _, rfl, rfl, hst0, HR0.out, hbA⟩
  case round =>
    clear hst0 HR0 hbA hmk
    obtain ⟨k, l, zs, hk, rfl, rfl, hst, hrow, hbl⟩ := hrel
    have hlen := hst.len
    rw [← HL.out] at hlen
    have HLEN := Lib.hid hlen
    clear hlen
    by_cases h0 : k = 0
    · subst h0
      obtain ⟨f1, f2⟩ := hst.fin
      have hn := hrow.nums0 zs.length
      rw [List.take_length] at hn
      have own := own_of_trim b64_two hrow hst.low (Nat.le_refl w.heap.size)
      rw [f1, HLEN.out] at own
      have htr := trim_any _ L L zs _ hn hst.low HLEN.out.symm (Nat.le_refl _) (by omega)
      rw [f1] at htr
      have HT := Lib.hid htr
      have F2 := Lib.hid f2
      clear htr f1 f2 hn hst hx hA
      go_wp2_with (go_at_call 78; refine HT.out.mono ?_; rintro e w9 ⟨rfl, rfl⟩)
      go_ret2
      rw [F2.out]
      exact ⟨_, rfl, own, hbl⟩
    · obtain ⟨j, rfl⟩ : ∃ j, k = j + 1 := ⟨k - 1, by omega⟩
      obtain ⟨g, off, x, rfl, hg, hxv, hcx⟩ := (hA.keep hbl).at_ (i := j) (by have := HL.out; omega)
      have hxl : x < B64 := hx x (List.mem_of_getElem? hxv)
      have hdv := fun w => div64_any l x d hst.lt hxl hd w
      have hs := Nat.div_add_mod (l * B64 + x) d
      have hr := Nat.mod_lt (l * B64 + x) hd0
      have hq : (l * B64 + x) / d < B64 := by
        refine Nat.div_lt_of_lt_mul ?_
        have := Nat.mul_le_mul_right B64 (show l + 1 ≤ d from hst.lt)
        rw [Nat.add_mul] at this; omega
      generalize (l * B64 + x) / d = q at *
      generalize (l * B64 + x) % d = r at *
      have hst' := hst.step hxv hs.symm hq hr
      obtain ⟨o, ho⟩ : ∃ o, zs[j]? = some o := ⟨zs[j]'(by have := HLEN.out; omega), List.getElem?_eq_getElem _⟩
      have hco := hrow.cell ho
      have hfo := hrow.frozen j
      have HST := Lib.hid hst'
      have HX := Lib.hid hxv
      have HO := Lib.hid ho
      have HDV := Lib.hid hdv
      clear hst' hxv ho hxl hs hq hr hst hA hx hdv
      go_wp2_with (go_at_call 131; refine (HDV.out _).mono ?_; rintro e w1 ⟨rfl, m, rfl⟩)
      go_roundw
      case rel => exact ⟨j, r, _, by omega, by first | rfl | go_num, rfl, HST.out, Row.set (Row.of_block hrow (by rfl)) j q, below_set (below_drewN hbl _) (Nat.le_refl _) _⟩
      case measure => simp [intOf]
theorem divideWord_call (a : Value) (m d : Nat) (w : World) (ha : W64 w a m) (hl : (dig B64 m).length ≤ 100000000000) (hd0 : 0 < d) (hd : d < B64) : Calls Try.prog 112 #[a, .int .u64 (d : Int)] w (DivWPost w (m / d) (m % d)) := by
  obtain ⟨A, c, rfl, _, hA⟩ := ha
  have := divideWord_any A c _ d _ w hA (low_dig b64_two m) rfl hl hd0 hd
  rw [val_dig b64_two] at this
  exact this

/-- A divisor whose highest bit is set. -/
def Normal (n : Nat) : Prop := ∃ k, 2 ≤ k ∧ B64 ^ k ≤ 2 * n ∧ n < B64 ^ k
theorem Normal.len {n : Nat} (h : Normal n) : 2 ≤ (dig B64 n).length ∧ B64 ^ (dig B64 n).length ≤ 2 * n ∧ ∀ t, (dig B64 n)[(dig B64 n).length - 1]? = some t → B64 ≤ 2 * t := by
  obtain ⟨k, h2, h1, h3⟩ := h
  have hle := dig_len_le b64_two h3
  have hge : k ≤ (dig B64 n).length := by
    rcases Nat.lt_or_ge (dig B64 n).length k with h4 | h4
    · exfalso
      have h5 := dig_len_lt b64_two (n := n)
      have h6 := Nat.pow_le_pow_right b64_pos (show (dig B64 n).length + 1 ≤ k from h4)
      rw [Nat.pow_succ] at h6
      have h7 : B64 ^ (dig B64 n).length * 2 ≤ B64 ^ (dig B64 n).length * B64 := Nat.mul_le_mul_left _ b64_two
      omega
    · exact h4
  have hk : (dig B64 n).length = k := by omega
  refine ⟨by omega, by rw [hk]; exact h1, fun t ht => ?_⟩
  rw [hk] at ht
  have e := dig_getElem? b64_two ht
  have hd : n / B64 ^ (k - 1) < B64 := by
    refine Nat.div_lt_of_lt_mul ?_
    have : B64 ^ k = B64 ^ (k - 1) * B64 := by rw [← Nat.pow_succ]; congr 1; omega
    omega
  rw [Nat.mod_eq_of_lt hd] at e
  have hp : 0 < B64 ^ (k - 1) := Nat.pow_pos b64_pos
  have h8 := Nat.lt_div_mul_add (a := n) hp
  rw [← e] at h8
  have h9 : B64 ^ k = B64 * B64 ^ (k - 1) := by rw [Nat.mul_comm, ← Nat.pow_succ]; congr 1; omega
  rcases Nat.lt_or_ge (2 * t + 1) B64 with h10 | h10
  · exfalso
    have h11 : (2 * t + 2) * B64 ^ (k - 1) ≤ B64 * B64 ^ (k - 1) := Nat.mul_le_mul_right _ h10
    have h12 : (2 * t + 2) * B64 ^ (k - 1) = 2 * (t * B64 ^ (k - 1) + B64 ^ (k - 1)) := by grind
    omega
  · unfold B64 at *; omega

theorem lenm {m n : Nat} (h : n ≤ m) : (dig B64 n).length ≤ (dig B64 m).length := dig_len_mono h

set_option maxHeartbeats 2000000 in
set_option maxRecDepth 100000 in
theorem divideNormal_lt (a b : Value) (m n : Nat) (w : World) (ha : W64 w a m) (hb : W64 w b n) (hn : (dig B64 n).length ≤ 100000000) (hm : (dig B64 m).length ≤ 100000000) (hlt : m < n) :
    Calls Try.prog 114 #[a, b] w (DivPost w (m / n) (m % n)) := by
  have hcmp := cmp64_call a b m n w ha hb (by omega) (by omega)
  rw [cmpN_lt hlt] at hcmp
  rw [Nat.div_eq_of_lt hlt, Nat.mod_eq_of_lt hlt]
  have HC := Lib.hid hcmp
  have HA := Lib.hid ha
  obtain ⟨A, c, rfl, _⟩ := ha
  obtain ⟨A', c', rfl, _⟩ := hb
  clear hcmp hlt
  generalize (dig B64 m).length = L at *
  generalize (dig B64 n).length = L' at *
  go_enter Try.func114, Try.ntmps114
  go_wp2_with (fail)
  refine HC.out.mono ?_
  rintro e w1 ⟨rfl, hb1⟩
  go_wp2
  go_ret2
  exact ⟨_, _, rfl, w64_nil _, HA.out.keep hb1, hb1⟩

set_option maxHeartbeats 2000000 in
set_option maxRecDepth 100000 in
theorem divideNormal_s (a b : Value) (m n : Nat) (w : World) (ha : W64 w a m) (hb : W64 w b n) (hn : Normal n) (hm : (dig B64 m).length ≤ 100000000) (hle : n ≤ m) (hs : (dig B64 n).length < 200) :
    Calls Try.prog 114 #[a, b] w (DivPost w (m / n) (m % n)) := by
  have hll := lenm hle
  have hcmp := cmp64_call a b m n w ha hb (by omega) (by omega)
  have hc0 : 0 ≤ cmpN m n := by
    rcases Nat.lt_or_ge n m with h | h
    · rw [cmpN_gt h]; omega
    · obtain rfl : m = n := by omega
      rw [cmpN_eq]; omega
  generalize cmpN m n = cc at *
  obtain ⟨n1, n2, n3⟩ := hn.len
  have hld : ∀ w', Below w.heap.size w w' → Calls Try.prog 132 #[a, b] w' (DivPost w' (m / n) (m % n)) := fun w' h => by
    obtain ⟨A, c, rfl, _, hA⟩ := ha.keep h
    obtain ⟨A', c', rfl, _, hB⟩ := hb.keep h
    have := longDivide_any A A' c c' _ _ _ _ w' hA hB (low_dig b64_two m) (low_dig b64_two n) (neat_dig b64_two n) rfl rfl n1 hll (by omega) n3
    rw [val_dig b64_two, val_dig b64_two] at this
    exact this
  have HC := Lib.hid hcmp
  have HLD := Lib.hid hld
  obtain ⟨A, c, rfl, _⟩ := ha
  obtain ⟨A', c', rfl, _⟩ := hb
  clear hcmp hld n2 n3 hn hle
  generalize (dig B64 m).length = L at *
  generalize (dig B64 n).length = L' at *
  have hs' : L' < 200 := hs
  go_enter Try.func114, Try.ntmps114
  go_wp2_with (fail)
  refine HC.out.mono ?_
  rintro e w1 ⟨rfl, hb1⟩
  go_wp2_with (fail)
  refine (HLD.out _ hb1).mono ?_
  rintro e w2 ⟨v, u, rfl, hv, hu, hb2⟩
  go_wp2
  go_ret2
  exact ⟨_, _, rfl, hv, hu, below_at hb1 (Nat.le_refl _) hb2⟩

set_option maxHeartbeats 2000000 in
set_option maxRecDepth 100000 in
theorem divideNormal_l (a b : Value) (m n : Nat) (w : World) (ha : W64 w a m) (hb : W64 w b n) (hn : Normal n) (hm : (dig B64 m).length ≤ 100000000) (hle : n ≤ m) (hs0 : 200 ≤ (dig B64 n).length) (hs : (dig B64 m).length < 200 + (dig B64 n).length) :
    Calls Try.prog 114 #[a, b] w (DivPost w (m / n) (m % n)) := by
  have hll := lenm hle
  have hcmp := cmp64_call a b m n w ha hb (by omega) (by omega)
  have hc0 : 0 ≤ cmpN m n := by
    rcases Nat.lt_or_ge n m with h | h
    · rw [cmpN_gt h]; omega
    · obtain rfl : m = n := by omega
      rw [cmpN_eq]; omega
  generalize cmpN m n = cc at *
  obtain ⟨n1, n2, n3⟩ := hn.len
  have hld : ∀ w', Below w.heap.size w w' → Calls Try.prog 132 #[a, b] w' (DivPost w' (m / n) (m % n)) := fun w' h => by
    obtain ⟨A, c, rfl, _, hA⟩ := ha.keep h
    obtain ⟨A', c', rfl, _, hB⟩ := hb.keep h
    have := longDivide_any A A' c c' _ _ _ _ w' hA hB (low_dig b64_two m) (low_dig b64_two n) (neat_dig b64_two n) rfl rfl n1 hll (by omega) n3
    rw [val_dig b64_two, val_dig b64_two] at this
    exact this
  have HC := Lib.hid hcmp
  have HLD := Lib.hid hld
  obtain ⟨A, c, rfl, _⟩ := ha
  obtain ⟨A', c', rfl, _⟩ := hb
  clear hcmp hld n2 n3 hn hle
  generalize (dig B64 m).length = L at *
  generalize (dig B64 n).length = L' at *
  have hs' : L < 200 + L' := hs
  have hs1 : ¬ L' < 200 := by omega
  go_enter Try.func114, Try.ntmps114
  go_wp2_with (fail)
  refine HC.out.mono ?_
  rintro e w1 ⟨rfl, hb1⟩
  go_wp2_with (fail)
  refine (HLD.out _ hb1).mono ?_
  rintro e w2 ⟨v, u, rfl, hv, hu, hb2⟩
  go_wp2
  go_ret2
  exact ⟨_, _, rfl, hv, hu, below_at hb1 (Nat.le_refl _) hb2⟩

theorem divideNormal_any (a b : Value) (m n : Nat) (w : World) (ha : W64 w a m) (hb : W64 w b n) (hn : Normal n) (hnl : (dig B64 n).length ≤ 100000000) (hm : (dig B64 m).length ≤ 100000000) (hs : (dig B64 n).length < 200 ∨ (dig B64 m).length < 200 + (dig B64 n).length) :
    Calls Try.prog 114 #[a, b] w (DivPost w (m / n) (m % n)) := by
  rcases Nat.lt_or_ge m n with h | h
  · exact divideNormal_lt a b m n w ha hb hnl hm h
  · rcases Nat.lt_or_ge (dig B64 n).length 200 with h2 | h2
    · exact divideNormal_s a b m n w ha hb hn hm h h2
    · exact divideNormal_l a b m n w ha hb hn hm h h2 (by omega)

/-- The shift that makes a divisor normal. -/
theorem normal_shift {n v : Nat} (h2 : 2 ≤ (dig B64 n).length) (hv : (dig B64 n)[(dig B64 n).length - 1]? = some v) : Normal (n * 2 ^ (64 - nbits v)) ∧ (dig B64 (n * 2 ^ (64 - nbits v))).length ≤ (dig B64 n).length ∧ v < B64 ∧ v ≠ 0 := by
  obtain ⟨L, hL⟩ : ∃ L, (dig B64 n).length = L + 1 := ⟨(dig B64 n).length - 1, by omega⟩
  rw [hL, Nat.add_sub_cancel] at hv
  have hb := nbits_words hL hv
  have hvl : v < B64 := low_dig b64_two n v (List.mem_of_getElem? hv)
  have hv64 := nbits_64 hvl
  have hv0 : v ≠ 0 := fun h => by
    have := (neat_iff _).1 (neat_dig b64_two n) (by omega)
    simp only [hL, Nat.add_sub_cancel] at this
    rw [(List.getElem?_eq_some_iff.1 hv).2] at this
    exact this h
  have hn0 : n ≠ 0 := fun h => by rw [h, dig_zero] at hL; simp at hL
  have h1 := nbits_ge hn0
  have h3 := nbits_lt n
  have hp := nbits_ne hv0
  have e : B64 ^ (L + 1) = 2 ^ (64 * L + 64) := by rw [← pow_b64]; congr 1
  have k1 : B64 ^ (L + 1) ≤ 2 * (n * 2 ^ (64 - nbits v)) := by
    have := Nat.mul_le_mul_right (2 ^ (64 - nbits v)) h1
    rw [← Nat.pow_add, show nbits n - 1 + (64 - nbits v) = 64 * L + 63 by omega] at this
    rw [e, show 64 * L + 64 = 64 * L + 63 + 1 by omega, Nat.pow_succ]
    omega
  have k2 : n * 2 ^ (64 - nbits v) < B64 ^ (L + 1) := by
    have := Nat.mul_lt_mul_of_pos_right h3 (Nat.two_pow_pos (64 - nbits v))
    rw [← Nat.pow_add, show nbits n + (64 - nbits v) = 64 * L + 64 by omega] at this
    rw [e]; exact this
  exact ⟨⟨L + 1, by omega, k1, k2⟩, by rw [hL]; exact dig_len_le b64_two k2, hvl, hv0⟩
theorem shift_len {m s : Nat} (hs : s ≤ 64) : (dig B64 (m * 2 ^ s)).length ≤ (dig B64 m).length + 1 := by
  refine dig_len_le b64_two ?_
  rw [Nat.pow_succ]
  have h1 := dig_len_lt b64_two (n := m)
  have h2 : 2 ^ s ≤ B64 := by
    have := Nat.pow_le_pow_right (show 0 < 2 by omega) hs
    have e : B64 = 2 ^ 64 := by decide
    omega
  exact Nat.lt_of_lt_of_le (Nat.mul_lt_mul_of_pos_right h1 (Nat.two_pow_pos s)) (Nat.mul_le_mul_left _ h2)

set_option maxHeartbeats 2000000 in
set_option maxRecDepth 100000 in
theorem divide_lt (a b : Value) (m n : Nat) (w : World) (ha : W64 w a m) (hb : W64 w b n) (hn : (dig B64 n).length ≤ 100000000) (hm : (dig B64 m).length ≤ 100000000) (hlt : m < n) :
    Calls Try.prog 88 #[a, b] w (DivPost w (m / n) (m % n)) := by
  have hcmp := cmp64_call a b m n w ha hb (by omega) (by omega)
  rw [cmpN_lt hlt] at hcmp
  rw [Nat.div_eq_of_lt hlt, Nat.mod_eq_of_lt hlt]
  have HC := Lib.hid hcmp
  have HA := Lib.hid ha
  obtain ⟨A, c, rfl, _⟩ := ha
  obtain ⟨A', c', rfl, _⟩ := hb
  clear hcmp hlt
  generalize (dig B64 m).length = L at *
  generalize (dig B64 n).length = L' at *
  go_enter Try.func88, Try.ntmps88
  go_wp2_with (fail)
  refine HC.out.mono ?_
  rintro e w1 ⟨rfl, hb1⟩
  go_wp2
  go_ret2
  exact ⟨_, _, rfl, w64_nil _, HA.out.keep hb1, hb1⟩

set_option maxHeartbeats 2000000 in
set_option maxRecDepth 100000 in
theorem divide_one (a b : Value) (m n : Nat) (w : World) (ha : W64 w a m) (hb : W64 w b n) (hn : (dig B64 n).length = 1) (hm : (dig B64 m).length ≤ 100000000) (hle : n ≤ m) :
    Calls Try.prog 88 #[a, b] w (DivPost w (m / n) (m % n)) := by
  have hcmp := cmp64_call a b m n w ha hb (by omega) (by omega)
  have hc0 : 0 ≤ cmpN m n := by
    rcases Nat.lt_or_ge n m with h | h
    · rw [cmpN_gt h]; omega
    · obtain rfl : m = n := by omega
      rw [cmpN_eq]; omega
  generalize cmpN m n = cc at *
  have hnl := dig_len_lt b64_two (n := n)
  rw [hn, Nat.pow_one] at hnl
  have hn0 : 0 < n := by
    rcases Nat.eq_zero_or_pos n with h | h
    · rw [h, dig_zero] at hn; simp at hn
    · exact h
  have hdw := fun w' (h : W64 w' a m) => divideWord_call a m n w' h (by omega) hn0 hnl
  have hrem : m % n < B64 := Nat.lt_of_lt_of_le (Nat.mod_lt _ hn0) (Nat.le_of_lt hnl)
  have htr := fun w' => trim_any (some ⟨w'.heap.size, 0, none⟩) 1 1 [m % n] (w'.alloc (.cells #[.int .u64 ((m % n : Nat) : Int)] 24)) (Row.nums0 (row_one w' (m % n)) 1) (Low.cons hrem (Low.nil _)) rfl (Nat.le_refl _) (by omega)
  have hown := fun w' => (own_of_trim b64_two (row_one w' (m % n)) (Low.cons hrem (Low.nil _)) (Nat.le_refl w'.heap.size)).is
  have hv1 : val B64 [m % n] = m % n := by simp [val]
  have hl1 : ([m % n] : List Nat).length = 1 := rfl
  rw [hv1] at htr
  rw [hv1, hl1] at hown
  obtain ⟨A', c', rfl, hc', hB⟩ := hb
  obtain ⟨g, off, v, rfl, hg, hv, hcv⟩ := hB.at_ (i := 0) (by omega)
  have hvn : v = n := by
    have e := dig_getElem? b64_two hv
    rw [Nat.pow_zero, Nat.div_one, Nat.mod_eq_of_lt hnl] at e
    exact e
  subst hvn
  rw [Nat.add_zero] at hcv
  rw [hn] at hcmp hc' ⊢
  have HC := Lib.hid hcmp
  have HDW := Lib.hid hdw
  have HTR := Lib.hid htr
  have HOW := Lib.hid hown
  have HA := Lib.hid ha
  obtain ⟨A, c, rfl, _⟩ := ha
  clear hcmp hdw htr hown hB hv hnl hrem hn hle hv1 hl1
  generalize (dig B64 m).length = L at *
  generalize m % v = R at *
  generalize m / v = Q at *
  go_enter Try.func88, Try.ntmps88
  go_wp2_with (fail)
  refine HC.out.mono ?_
  rintro e w1 ⟨rfl, hb1⟩
  have hcv1 := (hb1.cell (p := ⟨g, off, none⟩) hg).trans hcv
  go_wp2_with (fail)
  refine (HDW.out _ (HA.out.keep hb1)).mono ?_
  rintro e w2 ⟨q, rfl, hq, hb2⟩
  go_wp2_with (fail)
  refine (HTR.out _).mono ?_
  rintro e w3 ⟨rfl, rfl⟩
  go_wp2
  go_ret2
  exact ⟨_, _, rfl, hq.is.keep (below_new _ _), HOW.out _, (below_at hb1 (Nat.le_refl _) hb2).alloc (below_at hb1 (Nat.le_refl _) hb2).size _⟩

set_option maxHeartbeats 2000000 in
set_option maxRecDepth 100000 in
theorem divide_long (a b : Value) (m n : Nat) (w : World) (ha : W64 w a m) (hb : W64 w b n) (hn : 2 ≤ (dig B64 n).length) (hm : (dig B64 m).length ≤ 10000000) (hle : n ≤ m) (hs : (dig B64 n).length < 200 ∨ (dig B64 m).length < 199 + (dig B64 n).length) :
    Calls Try.prog 88 #[a, b] w (DivPost w (m / n) (m % n)) := by
  have hll := lenm hle
  have hcmp := cmp64_call a b m n w ha hb (by omega) (by omega)
  have hc0 : 0 ≤ cmpN m n := by
    rcases Nat.lt_or_ge n m with h | h
    · rw [cmpN_gt h]; omega
    · obtain rfl : m = n := by omega
      rw [cmpN_eq]; omega
  generalize cmpN m n = cc at *
  obtain ⟨A', c', hbe, hc', hB⟩ := id hb
  obtain ⟨g, off, v, hAe, hg, hv, hcv⟩ := hB.at_ (i := (dig B64 n).length - 1) (by omega)
  obtain ⟨hN, hnl, hvl, hv0⟩ := normal_shift hn hv
  have hnb := nbits_ne hv0
  have hlz := fun w => lz_any v hvl w
  have hs64 : 64 - nbits v ≤ 64 := by omega
  generalize 64 - nbits v = s at *
  have hml := shift_len (m := m) (s := s) hs64
  have hge : (dig B64 n).length ≤ (dig B64 (n * 2 ^ s)).length := dig_len_mono (Nat.le_mul_of_pos_right _ (Nat.two_pow_pos s))
  have hsa := fun w' (h : W64 w' a m) => shiftLeft_any a m s w' h (by omega) (by omega)
  have hsb := fun w' (h : W64 w' b n) => shiftLeft_any b n s w' h (by omega) (by omega)
  have hdn := fun x y w' (h : W64 w' x (m * 2 ^ s)) (k : W64 w' y (n * 2 ^ s)) => divideNormal_any x y _ _ w' h k hN (by omega) (by omega) (by omega)
  have e1 : m * 2 ^ s / (n * 2 ^ s) = m / n := Nat.mul_div_mul_right _ _ (Nat.two_pow_pos s)
  have e2 : m * 2 ^ s % (n * 2 ^ s) = m % n * 2 ^ s := Nat.mul_mod_mul_right _ _ _
  rw [e1, e2] at hdn
  have hrl : (dig B64 (m % n * 2 ^ s)).length ≤ 100000000 := by
    have := lenm (show m % n * 2 ^ s ≤ m * 2 ^ s from Nat.mul_le_mul_right _ (Nat.mod_le _ _))
    omega
  have hsr := fun x w' (h : W64 w' x (m % n * 2 ^ s)) => shiftRight_any x _ s w' h (by omega) (by omega)
  rw [Nat.mul_div_cancel _ (Nat.two_pow_pos s)] at hsr
  have HC := Lib.hid hcmp
  have HLZ := Lib.hid hlz
  have HSA := Lib.hid hsa
  have HSB := Lib.hid hsb
  have HDN := Lib.hid hdn
  have HSR := Lib.hid hsr
  have HA := Lib.hid ha
  have HB := Lib.hid hb
  obtain ⟨A, c, rfl, _⟩ := ha
  subst hbe hAe
  clear hcmp hlz hsa hsb hdn hsr hb hB hv hN hnl hml hge hrl e1 e2 hle hs hv0 hvl
  have hx : ((dig B64 n).length : Int) - 1 = (((dig B64 n).length - 1 : Nat) : Int) := by omega
  generalize (dig B64 m).length = L at *
  generalize hL' : (dig B64 n).length = L' at *
  obtain ⟨K, rfl⟩ : ∃ K, L' = K + 1 := ⟨L' - 1, by omega⟩
  rw [Nat.add_sub_cancel] at hcv
  clear hx hL'
  have hne : (((K : Int) + 1) == 1) = false := by simp; omega
  go_enter Try.func88, Try.ntmps88
  go_wp2_with (fail)
  refine HC.out.mono ?_
  rintro e w1 ⟨rfl, hb1⟩
  have hcv1 := (hb1.cell (p := ⟨g, off + K, none⟩) hg).trans hcv
  go_wp2_with (fail)
  refine (HLZ.out _).mono ?_
  rintro e w2 ⟨rfl, rfl⟩
  have ka := HA.out.keep hb1
  have kb := HB.out.keep hb1
  go_wp2_with (fail)
  refine (HSA.out _ ka).mono ?_
  rintro e w3 ⟨x, rfl, hx, hb3⟩
  go_wp2_with (fail)
  refine (HSB.out _ (kb.keep hb3)).mono ?_
  rintro e w4 ⟨y, rfl, hy, hb4⟩
  go_wp2_with (fail)
  refine (HDN.out _ _ _ (hx.is.keep hb4) hy.is).mono ?_
  rintro e w5 ⟨q, r, rfl, hq, hr, hb5⟩
  go_wp2_with (fail)
  refine (HSR.out _ _ hr).mono ?_
  rintro e w6 ⟨z, rfl, hz, hb6⟩
  go_wp2
  go_ret2
  exact ⟨_, _, rfl, hq.keep hb6, hz, below_at (below_at (below_at (below_at hb1 (Nat.le_refl _) hb3) (Nat.le_refl _) hb4) (Nat.le_refl _) hb5) (Nat.le_refl _) hb6⟩

/-- divide: where long division is what is done. -/
theorem divide_any (a b : Value) (m n : Nat) (w : World) (ha : W64 w a m) (hb : W64 w b n) (hn0 : 0 < n) (hn : (dig B64 n).length ≤ 10000000) (hm : (dig B64 m).length ≤ 10000000) (hs : (dig B64 n).length < 200 ∨ (dig B64 m).length < 199 + (dig B64 n).length) :
    Calls Try.prog 88 #[a, b] w (DivPost w (m / n) (m % n)) := by
  rcases Nat.lt_or_ge m n with h | h
  · exact divide_lt a b m n w ha hb (by omega) (by omega) h
  · have h1 := dig_len_pos (n := n) (by omega)
    rcases Nat.lt_or_ge (dig B64 n).length 2 with h2 | h2
    · exact divide_one a b m n w ha hb (by omega) (by omega) h
    · exact divide_long a b m n w ha hb h2 hm h hs
end Go.Proofs.Ytaegkhdkhgemmaa

namespace Go.Proofs.Ytaegkhdkhgemmaa
open Go.RowKit Num

set_option maxHeartbeats 1000000 in
set_option maxRecDepth 100000 in
theorem divMod_bad (a b : Value) (xs ys : List Nat) (w : World) (ha : Limbs w a xs) (hb : Limbs w b ys) (h0 : chk2 xs ys ≠ 0) : Calls Try.prog 47 #[a, b] w fun e w' => e = .returned (.tuple #[.slice none 0 0, .slice none 0 0, .int .i64 (chk2 xs ys)]) ∧ Below w.heap.size w w' := by
  have hc := checkAll_any w.heap.size 2 2 _ _ (nats2 ha hb) rfl (by omega)
  rw [chkAll2] at hc
  generalize chk2 xs ys = r at *
  have hbA := below_new w (.cells #[a, b] 23)
  have hq : (r != 0) = true := by simp [h0]
  have HC := Lib.hid hc
  have H0 := Lib.hid h0
  obtain ⟨A, c, rfl, _⟩ := ha
  obtain ⟨A', c', rfl, _⟩ := hb
  clear hc h0
  generalize xs.length = L at *
  generalize ys.length = L' at *
  go_enter Try.func47, Try.ntmps47
  go_wp2_with (go_at_call 75; refine HC.out.mono ?_; rintro e w1 ⟨rfl, rfl⟩)
  go_ret3
  exact ⟨rfl, hbA⟩

set_option maxHeartbeats 1000000 in
set_option maxRecDepth 100000 in
theorem divMod_zero (a b : Value) (m n : Nat) (w : World) (ha : N32 w a m) (hb : N32 w b n) (hm : (dig B32 m).length ≤ 262144) (hn : (dig B32 n).length ≤ 262144) (h0 : n = 0) : Calls Try.prog 47 #[a, b] w fun e w' => e = .returned (.tuple #[.slice none 0 0, .slice none 0 0, .int .i64 4]) ∧ Below w.heap.size w w' := by
  have hc := checkAll_any w.heap.size 2 2 _ _ (nats2 (Limbs.num ha (by omega)) (Limbs.num hb (by omega))) rfl (by omega)
  rw [chkAll2, chk2, if_pos (chk_dig hm), chk_dig hn] at hc
  have hbA := below_new w (.cells #[a, b] 23)
  have HC := Lib.hid hc
  have hz : (dig B32 n).length = 0 := by rw [h0, dig_zero]; rfl
  obtain ⟨A, c, rfl, _⟩ := ha
  obtain ⟨A', c', rfl, _⟩ := hb
  clear hc h0
  rw [hz] at HC hbA ⊢
  clear hz hn
  generalize (dig B32 m).length = L at *
  go_enter Try.func47, Try.ntmps47
  go_wp2_with (go_at_call 75; refine HC.out.mono ?_; rintro e w1 ⟨rfl, rfl⟩)
  go_ret3
  exact ⟨rfl, hbA⟩

/-- Quotient and remainder come back, both of the call's own. -/
def DivNat (w : World) (q r : Nat) (e : Ending) (w' : World) : Prop := ∃ v u, e = .returned (.tuple #[v, u, .int .i64 0]) ∧ OwnL w.heap.size w' v q ∧ OwnL w.heap.size w' u r ∧ Below w.heap.size w w'

set_option maxHeartbeats 2000000 in
set_option maxRecDepth 100000 in
theorem divMod_ok (a b : Value) (m n : Nat) (w : World) (ha : N32 w a m) (hb : N32 w b n) (hm : (dig B32 m).length ≤ 262144) (hn : (dig B32 n).length ≤ 262144) (h0 : 0 < n) (hs : (dig B64 n).length < 200 ∨ (dig B64 m).length < 199 + (dig B64 n).length) : Calls Try.prog 47 #[a, b] w (DivNat w (m / n) (m % n)) := by
  have hc := checkAll_any w.heap.size 2 2 _ _ (nats2 (Limbs.num ha (by omega)) (Limbs.num hb (by omega))) rfl (by omega)
  rw [chkAll2, chk2, if_pos (chk_dig hm), chk_dig hn] at hc
  have hbA := below_new w (.cells #[a, b] 23)
  have HC := Lib.hid hc
  have ha1 := ha.keep hbA
  have hb1 := hb.keep hbA
  have hf1 := fun w' (h : N32 w' a m) => fromNat_any a m w' h (by omega)
  have hf2 := fun w' (h : N32 w' b n) => fromNat_any b n w' h (by omega)
  have lm := words_le (n := m) (K := 131072) hm
  have ln := words_le (n := n) (K := 131072) hn
  have hdv := fun v u w' (h : W64 w' v m) (k : W64 w' u n) => divide_any v u m n w' h k h0 (by omega) (by omega) hs
  have hlq : (dig B64 (m / n)).length ≤ 131072 := Nat.le_trans (lenm (Nat.div_le_self _ _)) lm
  have hlr : (dig B64 (m % n)).length ≤ 131072 := Nat.le_trans (lenm (Nat.mod_le _ _)) lm
  have hn1 := fun v w' (h : W64 w' v (m / n)) => nat_any v _ w' h (by omega)
  have hn2 := fun v w' (h : W64 w' v (m % n)) => nat_any v _ w' h (by omega)
  have hpos : 0 < (dig B32 n).length := by
    rcases Nat.eq_zero_or_pos (dig B32 n).length with h | h
    · have := (dig_nil_iff b32_two).1 (List.eq_nil_of_length_eq_zero h); omega
    · exact h
  have HA1 := Lib.hid ha1
  have HB1 := Lib.hid hb1
  have HF1 := Lib.hid hf1
  have HF2 := Lib.hid hf2
  have HDV := Lib.hid hdv
  have HN1 := Lib.hid hn1
  have HN2 := Lib.hid hn2
  clear ha1 hb1 hf1 hf2 hdv hn1 hn2
  obtain ⟨A, c, rfl, _⟩ := ha
  obtain ⟨A', c', rfl, _⟩ := hb
  clear hc lm ln hlq hlr hs
  generalize (dig B32 m).length = L at *
  generalize (dig B32 n).length = L' at *
  go_enter Try.func47, Try.ntmps47
  go_wp2_with (fail)
  refine (HC.out).mono ?_
  rintro e w1 ⟨rfl, rfl⟩
  go_wp2_with (fail)
  refine (HF1.out _ HA1.out).mono ?_
  rintro e w2 ⟨v1, rfl, hv1, hb2⟩
  have b2 := below_at hbA (Nat.le_refl _) hb2
  have kb_2 := HB1.out.keep hb2
  have k1_2 := hv1.is
  go_wp2_with (fail)
  refine (HF2.out _ kb_2).mono ?_
  rintro e w3 ⟨v2, rfl, hv2, hb3⟩
  have b3 := below_at b2 (Nat.le_refl _) hb3
  have k1_3 := k1_2.keep hb3
  have k2_3 := hv2.is
  go_wp2_with (fail)
  refine (HDV.out _ _ _ k1_3 k2_3).mono ?_
  rintro e w4 ⟨q, r, rfl, hq, hr, hb4⟩
  have b4 := below_at b3 (Nat.le_refl _) hb4
  have kq_4 := hq
  have kr_4 := hr
  go_wp2_with (fail)
  refine (HN1.out _ _ kq_4).mono ?_
  rintro e w5 ⟨v4, rfl, hv4, hb5⟩
  have b5 := below_at b4 (Nat.le_refl _) hb5
  have kr_5 := kr_4.keep hb5
  go_wp2_with (fail)
  refine (HN2.out _ _ kr_5).mono ?_
  rintro e w6 ⟨v5, rfl, hv5, hb6⟩
  have b6 := below_at b5 (Nat.le_refl _) hb6
  go_wp2
  go_ret3
  exact ⟨_, _, rfl, (hv4.keep hb6).mono b4.size, hv5.mono b5.size, b6⟩

end Go.Proofs.Ytaegkhdkhgemmaa

namespace Go.Proofs.Ytaegkhdkhgemmaa
open Go.RowKit Num

/-- Quotient and remainder come back, both of the call's own, in two blocks. -/
def DivNatA (w : World) (q r : Nat) (e : Ending) (w' : World) : Prop := ∃ v u, e = .returned (.tuple #[v, u, .int .i64 0]) ∧ OwnL w.heap.size w' v q ∧ OwnL w.heap.size w' u r ∧ (∀ g, v.ownBlock = some g → u.ownBlock ≠ some g) ∧ Below w.heap.size w w'

set_option maxHeartbeats 2000000 in
set_option maxRecDepth 100000 in
theorem divMod_apart (a b : Value) (m n : Nat) (w : World) (ha : N32 w a m) (hb : N32 w b n) (hm : (dig B32 m).length ≤ 262144) (hn : (dig B32 n).length ≤ 262144) (h0 : 0 < n) (hs : (dig B64 n).length < 200 ∨ (dig B64 m).length < 199 + (dig B64 n).length) : Calls Try.prog 47 #[a, b] w (DivNatA w (m / n) (m % n)) := by
  have hc := checkAll_any w.heap.size 2 2 _ _ (nats2 (Limbs.num ha (by omega)) (Limbs.num hb (by omega))) rfl (by omega)
  rw [chkAll2, chk2, if_pos (chk_dig hm), chk_dig hn] at hc
  have hbA := below_new w (.cells #[a, b] 23)
  have HC := Lib.hid hc
  have ha1 := ha.keep hbA
  have hb1 := hb.keep hbA
  have hf1 := fun w' (h : N32 w' a m) => fromNat_any a m w' h (by omega)
  have hf2 := fun w' (h : N32 w' b n) => fromNat_any b n w' h (by omega)
  have lm := words_le (n := m) (K := 131072) hm
  have ln := words_le (n := n) (K := 131072) hn
  have hdv := fun v u w' (h : W64 w' v m) (k : W64 w' u n) => divide_any v u m n w' h k h0 (by omega) (by omega) hs
  have hlq : (dig B64 (m / n)).length ≤ 131072 := Nat.le_trans (lenm (Nat.div_le_self _ _)) lm
  have hlr : (dig B64 (m % n)).length ≤ 131072 := Nat.le_trans (lenm (Nat.mod_le _ _)) lm
  have hn1 := fun v w' (h : W64 w' v (m / n)) => nat_any v _ w' h (by omega)
  have hn2 := fun v w' (h : W64 w' v (m % n)) => nat_any v _ w' h (by omega)
  have hpos : 0 < (dig B32 n).length := by
    rcases Nat.eq_zero_or_pos (dig B32 n).length with h | h
    · have := (dig_nil_iff b32_two).1 (List.eq_nil_of_length_eq_zero h); omega
    · exact h
  have HA1 := Lib.hid ha1
  have HB1 := Lib.hid hb1
  have HF1 := Lib.hid hf1
  have HF2 := Lib.hid hf2
  have HDV := Lib.hid hdv
  have HN1 := Lib.hid hn1
  have HN2 := Lib.hid hn2
  clear ha1 hb1 hf1 hf2 hdv hn1 hn2
  obtain ⟨A, c, rfl, _⟩ := ha
  obtain ⟨A', c', rfl, _⟩ := hb
  clear hc lm ln hlq hlr hs
  generalize (dig B32 m).length = L at *
  generalize (dig B32 n).length = L' at *
  go_enter Try.func47, Try.ntmps47
  go_wp2_with (fail)
  refine (HC.out).mono ?_
  rintro e w1 ⟨rfl, rfl⟩
  go_wp2_with (fail)
  refine (HF1.out _ HA1.out).mono ?_
  rintro e w2 ⟨v1, rfl, hv1, hb2⟩
  have b2 := below_at hbA (Nat.le_refl _) hb2
  have kb_2 := HB1.out.keep hb2
  have k1_2 := hv1.is
  go_wp2_with (fail)
  refine (HF2.out _ kb_2).mono ?_
  rintro e w3 ⟨v2, rfl, hv2, hb3⟩
  have b3 := below_at b2 (Nat.le_refl _) hb3
  have k1_3 := k1_2.keep hb3
  have k2_3 := hv2.is
  go_wp2_with (fail)
  refine (HDV.out _ _ _ k1_3 k2_3).mono ?_
  rintro e w4 ⟨q, r, rfl, hq, hr, hb4⟩
  have b4 := below_at b3 (Nat.le_refl _) hb4
  have kq_4 := hq
  have kr_4 := hr
  go_wp2_with (fail)
  refine (HN1.out _ _ kq_4).mono ?_
  rintro e w5 ⟨v4, rfl, hv4, hb5⟩
  have b5 := below_at b4 (Nat.le_refl _) hb5
  have kr_5 := kr_4.keep hb5
  go_wp2_with (fail)
  refine (HN2.out _ _ kr_5).mono ?_
  rintro e w6 ⟨v5, rfl, hv5, hb6⟩
  have b6 := below_at b5 (Nat.le_refl _) hb6
  go_wp2
  go_ret3
  exact ⟨_, _, rfl, (hv4.keep hb6).mono b4.size, hv5.mono b5.size, fun g hg hg' => by have h1 := (World.ownsRow.lt hv4 g hg).2; have h2 := (World.ownsRow.lt hv5 g hg').1; omega, b6⟩

end Go.Proofs.Ytaegkhdkhgemmaa

namespace Go.Proofs.Num

/-- zs holds, in its first k places, the digits of p times X less q times Y (the first k of each), but for o that is carried; the other places still hold those of O. -/
structure ApSt (b : Nat) (X Y O : List Nat) (p q : Nat) (k : Nat) (zs : List Nat) (o : Int) : Prop where
  len : zs.length = O.length
  low : Low b zs
  rest : ∀ i, k ≤ i → zs[i]? = O[i]?
  eq : (val b (zs.take k) : Int) + (b ^ k : Nat) * o = (p : Int) * (val b (X.take k) : Nat) - (q : Int) * (val b (Y.take k) : Nat)

theorem ApSt.start {b : Nat} {X Y O : List Nat} {p q : Nat} (hO : Low b O) : ApSt b X Y O p q 0 O 0 :=
  ⟨rfl, hO, fun _ _ => rfl, by simp [val]⟩

theorem ApSt.step {b : Nat} {X Y O zs : List Nat} {p q k lo v x : Nat} {o o' : Int} (h : ApSt b X Y O p q k zs o) (hv : X[k]? = some v) (hx : Y[k]? = some x) (hk : k < O.length) (hlo : lo < b)
    (he : (p : Int) * v - (q : Int) * x + o = lo + (b : Int) * o') : ApSt b X Y O p q (k + 1) (zs.set k lo) o' := by
  obtain ⟨hX, rfl⟩ := List.getElem?_eq_some_iff.1 hv
  obtain ⟨hY, rfl⟩ := List.getElem?_eq_some_iff.1 hx
  refine ⟨by simp [h.len], h.low.set hlo, fun i hi => ?_, ?_⟩
  · rw [List.getElem?_set_ne (by omega)]; exact h.rest i (by omega)
  · rw [val_take_succ b X k hX, val_take_succ b Y k hY, val_take_succ b (zs.set k lo) k (by simp [h.len]; exact hk), List.getElem_set_self, List.take_set_of_le (Nat.le_refl k)]
    have e := h.eq
    rw [Nat.pow_succ]
    simp only [Int.natCast_add, Int.natCast_mul]
    generalize X[k] = v at *
    generalize Y[k] = x at *
    grind

theorem ApSt.fin {b : Nat} {X Y O zs : List Nat} {p q L t : Nat} {o : Int} (h : ApSt b X Y O p q L zs o) (hO : O.length = L) (hX : X.length = L) (hY : Y.length = L)
    (ht : (t : Int) = (p : Int) * (val b X : Nat) - (q : Int) * (val b Y : Nat)) (htl : t < b ^ L) : val b zs = t := by
  have e := h.eq
  rw [List.take_of_length_le (by rw [h.len]; omega), List.take_of_length_le (by omega), List.take_of_length_le (by omega), ← ht] at e
  have hl := val_lt b zs h.low
  rw [h.len, hO] at hl
  generalize b ^ L = P at *
  generalize val b zs = z at *
  rcases Int.lt_trichotomy o 0 with h1 | h1 | h1
  · have := Int.mul_le_mul_of_nonneg_left (show o ≤ -1 by omega) (show (0 : Int) ≤ (P : Int) by omega)
    omega
  · subst h1; omega
  · have := Int.mul_le_mul_of_nonneg_left (show 1 ≤ o by omega) (show (0 : Int) ≤ (P : Int) by omega)
    omega
end Go.Proofs.Num

namespace Go.Proofs.Ytaegkhdkhgemmaa
open Go.RowKit Num

/-- Block g is a row of the call's own, of cap words; its first are xs, of the others nothing is said. -/
def Hd (w : World) (g cap : Nat) (xs : List Nat) : Prop :=
  ∃ cur : Array Value, w.heap[g]? = some (.cells cur 24 (0, 0)) ∧ xs.length ≤ cap ∧ cap ≤ maxLen ∧ cur.size = cap ∧ cur.toList.take xs.length = ints .u64 xs
namespace Hd
variable {w w' : World} {g cap : Nat} {xs : List Nat}
theorem cell (h : Hd w g cap xs) {i v : Nat} (hv : xs[i]? = some v) : w.cell? ⟨g, i, none⟩ = some (.int .u64 (v : Int)) := by
  obtain ⟨cur, hb, _, _, _, ht⟩ := h
  have hi : i < xs.length := (List.getElem?_eq_some_iff.1 hv).1
  have e : (cur.toList.take xs.length)[i]? = some (.int .u64 (v : Int)) := by rw [ht]; simp [ints, hv]
  rw [List.getElem?_take, if_pos hi] at e
  simpa [World.cell?, hb] using e
theorem frozen (h : Hd w g cap xs) (i : Nat) : w.frozen? ⟨g, i, none⟩ = false := by
  obtain ⟨cur, hb, _⟩ := h
  simp [World.frozen?, hb]
theorem lt (h : Hd w g cap xs) : g < w.heap.size := by
  obtain ⟨cur, hb, _⟩ := h
  exact (Array.getElem?_eq_some_iff.1 hb).1
theorem cap_le (h : Hd w g cap xs) : xs.length ≤ cap := by obtain ⟨_, _, h, _⟩ := h; exact h
theorem of_block (h : Hd w g cap xs) (e : w'.heap[g]? = w.heap[g]?) : Hd w' g cap xs := by
  obtain ⟨cur, hb, r⟩ := h
  exact ⟨cur, e.trans hb, r⟩
theorem keep (h : Hd w g cap xs) (hb : Below w.heap.size w w') : Hd w' g cap xs := h.of_block (hb.block g h.lt)
theorem grown {row : Option Nat} (h : Hd w g cap xs) (hb : w.grownBy w' row) (hg : some g ≠ row) : Hd w' g cap xs := h.of_block (hb.block g h.lt hg)
theorem set (h : Hd w g cap xs) (i v : Nat) (_ : i < xs.length) : Hd (w.setCell ⟨g, i, none⟩ (.int .u64 (v : Int))) g cap (xs.set i v) := by
  obtain ⟨cur, hb, h1, h2, h3, h4⟩ := h
  refine ⟨cur.setIfInBounds i (.int .u64 (v : Int)), ?_, by simpa using h1, h2, by simpa using h3, ?_⟩
  · simp [World.setCell, Array.getElem?_modify, hb]
  · simp only [List.length_set, Array.toList_setIfInBounds]
    rw [List.take_set, h4]
    simp [ints, List.map_set]
theorem setOther (h : Hd w g cap xs) {a : Addr} (ha : g ≠ a.block) (v : Value) : Hd (w.setCell a v) g cap xs := by
  obtain ⟨cur, hb, r⟩ := h
  refine ⟨cur, ?_, r⟩
  simp [World.setCell, Array.getElem?_modify, hb, Ne.symm ha]
theorem nums (h : Hd w g cap xs) (n : Nat) : Nums .u64 w (some ⟨g, 0, none⟩) (xs.take n) := by
  intro hp
  refine ⟨g, 0, rfl, h.lt, fun j x hx => ?_⟩
  rw [List.getElem?_take] at hx
  split at hx
  · have := h.cell hx
    simpa using this
  · cases hx
theorem owns (h : Hd w g cap xs) {B : Nat} (hB : B ≤ g) : w.ownsRow B 24 1 (.slice (some ⟨g, 0, none⟩) xs.length cap) xs.length (ints .u64 xs) := by
  obtain ⟨cur, hb, h1, h2, h3, h4⟩ := h
  exact ⟨by simp [ints], .inr ⟨g, cap, cur, rfl, hB, hb, h1, h2, by simpa using h3, by simpa using h4⟩⟩
theorem of_owns {v : Value} {B n : Nat} (h : w.ownsRow B 24 1 v n (ints .u64 xs)) (hv : v ≠ .slice none 0 0) : ∃ g cap, v = .slice (some ⟨g, 0, none⟩) xs.length cap ∧ B ≤ g ∧ n = xs.length ∧ Hd w g cap xs := by
  have hn : n = xs.length := by have := h.1; simp [ints] at this; omega
  subst hn
  rcases h.2 with ⟨h1, _⟩ | ⟨g, cap, cur, e, h1, h2, h3, h4, h5, h6⟩
  · exact absurd h1 hv
  · exact ⟨g, cap, e, h1, rfl, cur, h2, h3, h4, by simpa using h5, by simpa using h6⟩
end Hd

/-- A number at the head of a row of the call's own. -/
def OwnH (B : Nat) (w : World) (v : Value) (n : Nat) : Prop := ∃ g cap, v = .slice (some ⟨g, 0, none⟩) (dig B64 n).length cap ∧ B ≤ g ∧ Hd w g cap (dig B64 n)
theorem OwnH.is {B : Nat} {w : World} {v : Value} {n : Nat} (h : OwnH B w v n) : W64 w v n := by
  obtain ⟨g, cap, rfl, _, hh⟩ := h
  have := hh.nums (dig B64 n).length
  rw [List.take_length] at this
  exact ⟨_, _, rfl, hh.cap_le, this⟩
theorem OwnH.keep {B : Nat} {w w' : World} {v : Value} {n : Nat} (h : OwnH B w v n) (hb : Below w.heap.size w w') : OwnH B w' v n := by
  obtain ⟨g, cap, rfl, h1, hh⟩ := h
  exact ⟨g, cap, rfl, h1, hh.keep hb⟩
theorem OwnH.of_row {B : Nat} {w : World} {v : Value} {n : Nat} (h : OwnW B w v n) (hl : ∀ g L c, v = .slice (some ⟨g, 0, none⟩) L c → c ≤ maxLen) : OwnH B w v n := by
  obtain ⟨g, c, zs, rfl, h1, h2, h3, h4, h5, h6⟩ := h
  refine ⟨g, c, rfl, h3, _, h4.heap, h1, hl _ _ _ rfl, by simp [ints, h2], ?_⟩
  simp only [ints, ← List.map_take]
  rw [h6]

def HPost (w : World) (n : Nat) (e : Ending) (w' : World) : Prop := ∃ v, e = .returned v ∧ OwnH w.heap.size w' v n ∧ Below w.heap.size w w'

set_option maxHeartbeats 1000000 in
set_option maxRecDepth 100000 in
theorem clone_any (ad : Addr) (c L n : Nat) (w : World) (hA : Nums .u64 w (some ad) (dig B64 n)) (hL : L = (dig B64 n).length) (hl : L ≤ 1000000000) :
    Calls Try.prog 118 #[.slice (some ad) L c] w (HPost w n) := by
  have hA1 := hA.keep (below_new w (.cells #[] 24))
  have ho := own_empty w 24
  have hbA := below_new w (.cells #[] 24)
  obtain ⟨i0, hi, hz0, hz1, hz2⟩ := info_parts info24
  have hnil := fun w1 => Lib.run_eql_slice_nil (P := Try.prog) w1 88 24 (some ad) L c 0 0 Try.underlying88
  simp only [Option.isNone_some] at hnil
  have HL := Lib.hid hL
  have HA := Lib.hid hA1
  have HO := Lib.hid ho
  clear hA hA1 ho hL
  go_enter Try.func118, Try.ntmps118
  go_wp2_with (at_builtin
               refine wpList_append_own _ rfl _ _ 88 rfl w.heap.size 24 i0 (.int .u64 0) 1 8 Try.underlying88 hi hz0 hz1 hz2 rfl (by decide) _ _ _ rfl HO.out ad L _ (ints .u64 (dig B64 n)) rfl ?c1 (nums_cells HA.out) (ints_one _ _) ?c4 ?c5 (by simp) ?_)
  case c1 => rw [ints_len, HL.out]; omega
  case c4 => unfold maxLen; omega
  case c5 => omega
  intro v' w1 hown hgr hne
  have hb1 := hbA.grown hgr hbA.size (by simp [Value.ownBlock])
  go_wp2
  go_ret
  have hv : v' ≠ .slice none 0 0 := by simpa using hne
  obtain ⟨g, cap, rfl, h1, _, h2⟩ := Hd.of_owns hown hv
  exact ⟨_, rfl, ⟨g, cap, rfl, h1, h2⟩, hb1⟩
end Go.Proofs.Ytaegkhdkhgemmaa

namespace Go.Proofs.Ytaegkhdkhgemmaa
open Go.RowKit Num

/-- A word that is read with a sign. -/
structure SgnW (o : Int) (ov : Nat) : Prop where
  lt : ov < B64
  le : -4611686018427387904 ≤ o ∧ o ≤ 4611686018427387904
  is : (0 ≤ o ∧ (ov : Int) = o) ∨ (o < 0 ∧ (ov : Int) = o + 18446744073709551616)
theorem SgnW.zero : SgnW 0 0 := ⟨b64_pos, by omega, .inl ⟨by omega, rfl⟩⟩

def MulSubPost (p v q x : Nat) (o : Int) (w : World) (e : Ending) (w' : World) : Prop :=
  ∃ (lo hi : Nat) (o' : Int), e = .returned (.tuple #[.int .u64 (lo : Int), .int .u64 (hi : Int)]) ∧ lo < B64 ∧ SgnW o' hi ∧ (p : Int) * v - (q : Int) * x + o = lo + 18446744073709551616 * o' ∧ w' = w

theorem mulSub_ex (p v q x : Nat) (o : Int) (ov : Nat) (hp : p ≤ 4611686018427387904) (hq : q ≤ 4611686018427387904) (hv : v < B64) (hx : x < B64) (ho : SgnW o ov) :
    ∃ hi lo hi2 lo2 lo3 b3 h3 c3 lo4 c4 h5 sg h6 : Nat, ∃ si : Int,
    (∀ w, Calls Try.prog 121 #[.int .u64 (p : Int), .int .u64 (v : Int)] w fun e w' => e = .returned (.tuple #[.int .u64 (hi : Int), .int .u64 (lo : Int)]) ∧ w = w') ∧
    (∀ w, Calls Try.prog 121 #[.int .u64 (q : Int), .int .u64 (x : Int)] w fun e w' => e = .returned (.tuple #[.int .u64 (hi2 : Int), .int .u64 (lo2 : Int)]) ∧ w = w') ∧
    (∀ w, (callFunc 126 #[.int .u64 (lo : Int), .int .u64 (lo2 : Int), .int .u64 0]).run Try.prog w = .ok (.value (.tuple #[.int .u64 (lo3 : Int), .int .u64 (b3 : Int)])) w) ∧
    (∀ w, (callFunc 126 #[.int .u64 (hi : Int), .int .u64 (hi2 : Int), .int .u64 (b3 : Int)]).run Try.prog w = .ok (.value (.tuple #[.int .u64 (h3 : Int), .int .u64 (c3 : Int)])) w) ∧
    (∀ w, (callFunc 122 #[.int .u64 (lo3 : Int), .int .u64 (ov : Int), .int .u64 0]).run Try.prog w = .ok (.value (.tuple #[.int .u64 (lo4 : Int), .int .u64 (c4 : Int)])) w) ∧
    IntKind.u64.wrap ((h3 : Int) + (c4 : Int)) = (h5 : Int) ∧
    IntKind.i64.wrap (ov : Int) = o ∧
    o / 9223372036854775808 = si ∧ IntKind.i64.wrap si = si ∧ IntKind.u64.wrap si = (sg : Int) ∧
    IntKind.u64.wrap ((h5 : Int) + (sg : Int)) = (h6 : Int) ∧
    lo4 < B64 ∧ ∃ o' : Int, SgnW o' h6 ∧ (p : Int) * v - (q : Int) * x + o = lo4 + 18446744073709551616 * o' := by
  obtain ⟨hi, lo, m1, e1, l1, _⟩ := mul64_ex p v (by unfold B64; omega) hv
  obtain ⟨hi2, lo2, m2, e2, l2, _⟩ := mul64_ex q x (by unfold B64; omega) hx
  obtain ⟨lo3, b3, m3, e3, l3, g3⟩ := sub64_ex0 lo lo2 l1 l2
  obtain ⟨h3, c3, m4, e4, l4, g4⟩ := sub64_ex hi hi2 b3 (by omega) (by omega) g3
  obtain ⟨lo4, c4, m5, e5, l5, g5⟩ := add64_ex0 lo3 ov l3 ho.lt
  have f1 : p * v ≤ 4611686018427387904 * 18446744073709551615 := Nat.mul_le_mul hp (by unfold B64 at hv; omega)
  have f2 : q * x ≤ 4611686018427387904 * 18446744073709551615 := Nat.mul_le_mul hq (by unfold B64 at hx; omega)
  have n1 : (p : Int) * v = ((p * v : Nat) : Int) := (Int.natCast_mul _ _).symm
  have n2 : (q : Int) * x = ((q * x : Nat) : Int) := (Int.natCast_mul _ _).symm
  obtain ⟨hlt, hle, his⟩ := ho
  rw [n1, n2]
  clear n1 n2
  generalize p * v = P at *
  generalize q * x = Q at *
  obtain ⟨n, hn⟩ : ∃ n : Nat, (n = 0 ∧ 0 ≤ o ∧ (ov : Int) = o) ∨ (n = 1 ∧ o < 0 ∧ (ov : Int) = o + 18446744073709551616) := by
    rcases his with h | h
    · exact ⟨0, .inl ⟨rfl, h⟩⟩
    · exact ⟨1, .inr ⟨rfl, h⟩⟩
  clear his
  refine ⟨hi, lo, hi2, lo2, lo3, b3, h3, c3, lo4, c4, (h3 + c4) % B64, n * 18446744073709551615, ((h3 + c4) % B64 + n * 18446744073709551615) % B64, -(n : Int), m1, m2, m3, m4, m5, ?_, ?_, ?_, ?_, ?_, ?_, l5, (hi : Int) - hi2 - b3 + c4 - n, ⟨Nat.mod_lt _ b64_pos, ?_, ?_⟩, ?_⟩
  all_goals clear m1 m2 m3 m4 m5
  all_goals unfold B64 at *
  · rw [IntKind.wrap_u64]; omega
  · rw [IntKind.wrap_i64]; omega
  · omega
  · rw [IntKind.wrap_i64]; omega
  · rw [IntKind.wrap_u64]; omega
  · rw [IntKind.wrap_u64]; omega
  · omega
  · rcases hn with ⟨rfl, hn, hn'⟩ | ⟨rfl, hn, hn'⟩
    · omega
    · omega
  · omega

set_option maxHeartbeats 1000000 in
set_option maxRecDepth 100000 in
theorem mulSub_any (p v q x : Nat) (o : Int) (ov : Nat) (hp : p ≤ 4611686018427387904) (hq : q ≤ 4611686018427387904) (hv : v < B64) (hx : x < B64) (ho : SgnW o ov) (w : World) :
    Calls Try.prog 137 #[.int .u64 (p : Int), .int .u64 (v : Int), .int .u64 (q : Int), .int .u64 (x : Int), .int .u64 (ov : Int)] w (MulSubPost p v q x o w) := by
  obtain ⟨hi, lo, hi2, lo2, lo3, b3, h3, c3, lo4, c4, h5, sg, h6, si, m1, m2, m3, m4, m5, k5, ki, ks, kj, kg, k6, hl, o', hs, he⟩ := mulSub_ex p v q x o ov hp hq hv hx ho
  have M1 := Lib.hid m1
  have M2 := Lib.hid m2
  have HE := Lib.hid he
  have HS := Lib.hid hs
  clear m1 m2 he hs ho hp hq hv hx
  go_enter Try.func137, Try.ntmps137
  go_wp2_with (fail)
  refine (M1.out _).mono ?_
  rintro e w' ⟨rfl, rfl⟩
  go_wp2_with (fail)
  refine (M2.out _).mono ?_
  rintro e w' ⟨rfl, rfl⟩
  go_wp2
  go_ret2
  exact ⟨lo4, h6, o', by go_num, hl, HS.out, HE.out, rfl⟩
end Go.Proofs.Ytaegkhdkhgemmaa

namespace Go.Proofs.Num

/-- Steps of Euclid that leading places decide: a, b the present pair, (p, q, s, t) how it is made of A, B, and x, y the leading places' own pair;
whatever places follow, a lies between (x+p)F and (x+q)F. M bounds all that is reckoned with. -/
structure Leh (A B : Nat) (F M x y p q s t : Int) (a b : Nat) : Prop where
  F0 : 0 < F
  xp : 0 ≤ x + p ∧ x + p ≤ M
  xq : 0 ≤ x + q ∧ x + q ≤ M
  ys : 0 ≤ y + s ∧ y + s ≤ M
  yt : 0 ≤ y + t ∧ y + t ≤ M
  isA : (a : Int) = p * A + q * B
  isB : (b : Int) = s * A + t * B
  gcd : Nat.gcd a b = Nat.gcd A B
  le : b ≤ a
  aA : a ≤ A
  bB : b ≤ B
  lt : (p = 1 ∧ q = 0 ∧ s = 0 ∧ t = 1) ∨ b < B
  side : (0 ≤ p ∧ q ≤ 0 ∧ s ≤ 0 ∧ 0 ≤ t ∧ (x + q) * F ≤ a ∧ (a : Int) ≤ (x + p) * F ∧ (y + s) * F ≤ b ∧ (b : Int) ≤ (y + t) * F) ∨
    (p ≤ 0 ∧ 0 ≤ q ∧ 0 ≤ s ∧ t ≤ 0 ∧ (x + p) * F ≤ a ∧ (a : Int) ≤ (x + q) * F ∧ (y + t) * F ≤ b ∧ (b : Int) ≤ (y + s) * F)

theorem Leh.start {A B F : Nat} (hF : 0 < F) (h : B ≤ A) : Leh A B F ((A / F : Nat) + 1) (A / F : Nat) (B / F : Nat) 1 0 0 1 A B := by
  have h1 := Nat.div_add_mod A F
  have h2 := Nat.div_add_mod B F
  have h3 := Nat.mod_lt A hF
  have h4 := Nat.mod_lt B hF
  have h5 : B / F ≤ A / F := Nat.div_le_div_right h
  rw [Nat.mul_comm] at h1 h2
  generalize A / F = X at *
  generalize B / F = Y at *
  generalize A % F = u at *
  generalize B % F = v at *
  refine ⟨by omega, by omega, by omega, by omega, by omega, by omega, by omega, rfl, h, Nat.le_refl _, Nat.le_refl _, .inl ⟨rfl, rfl, rfl, rfl⟩, .inl ⟨by omega, by omega, by omega, by omega, ?_, ?_, ?_, ?_⟩⟩
  · rw [Int.add_zero]; omega
  · rw [Int.add_mul]; omega
  · rw [Int.add_zero]; omega
  · rw [Int.add_mul]; omega

/-- One step, where both bounds give the same quotient. -/
theorem Leh.step {A B : Nat} {F M x y p q s t : Int} {a b : Nat} (h : Leh A B F M x y p q s t a b) (h1 : y + s ≠ 0) (h2 : y + t ≠ 0) {d : Int}
    (hd1 : d = (x + p) / (y + s)) (hd2 : d = (x + q) / (y + t)) :
    Leh A B F M y (x - d * y) s t (p - d * s) (q - d * t) b (a % b) ∧ 0 < b ∧ x - d * y < y := by
  obtain ⟨F0, xp, xq, ys, yt, isA, isB, gcd, le, aA, bB, lt, side⟩ := h
  have e1 := Int.emod_add_mul_ediv (x + p) (y + s)
  have e2 := Int.emod_add_mul_ediv (x + q) (y + t)
  rw [← hd1] at e1
  rw [← hd2] at e2
  have m1 := Int.emod_nonneg (x + p) h1
  have m2 := Int.emod_nonneg (x + q) h2
  have m3 := Int.emod_lt_of_pos (x + p) (show 0 < y + s by omega)
  have m4 := Int.emod_lt_of_pos (x + q) (show 0 < y + t by omega)
  have d0 : 0 ≤ d := by rw [hd1]; exact Int.ediv_nonneg xp.1 (by omega)
  generalize (x + p) % (y + s) = r1 at *
  generalize (x + q) % (y + t) = r2 at *
  clear hd1 hd2
  -- the bounds of b, times d
  have hb0 : 0 < b := by
    rcases side with ⟨_, _, _, _, _, _, h7, _⟩ | ⟨_, _, _, _, _, _, h7, _⟩
    · have := Int.mul_le_mul_of_nonneg_right (show 1 ≤ y + s by omega) (Int.le_of_lt F0); omega
    · have := Int.mul_le_mul_of_nonneg_right (show 1 ≤ y + t by omega) (Int.le_of_lt F0); omega
  have hdiv : (a : Int) = d * b + (a % b : Nat) := by
    have key : d * (b : Int) ≤ a ∧ (a : Int) < (d + 1) * b := by
      rcases side with ⟨_, _, _, _, h5, h6, h7, h8⟩ | ⟨_, _, _, _, h5, h6, h7, h8⟩
      · have k1 := Int.mul_le_mul_of_nonneg_left h8 d0
        have k2 := Int.mul_le_mul_of_nonneg_left h7 (show 0 ≤ d + 1 by omega)
        have k3 := Int.mul_le_mul_of_nonneg_right (show d * (y + t) ≤ x + q by rw [Int.mul_comm]; omega) (Int.le_of_lt F0)
        have k4 := Int.mul_lt_mul_of_pos_right (show x + p < (d + 1) * (y + s) by rw [Int.add_mul, Int.mul_comm d]; omega) F0
        rw [Int.mul_assoc] at k3 k4
        omega
      · have k1 := Int.mul_le_mul_of_nonneg_left h8 d0
        have k2 := Int.mul_le_mul_of_nonneg_left h7 (show 0 ≤ d + 1 by omega)
        have k3 := Int.mul_le_mul_of_nonneg_right (show d * (y + s) ≤ x + p by rw [Int.mul_comm]; omega) (Int.le_of_lt F0)
        have k4 := Int.mul_lt_mul_of_pos_right (show x + q < (d + 1) * (y + t) by rw [Int.add_mul, Int.mul_comm d]; omega) F0
        rw [Int.mul_assoc] at k3 k4
        omega
    have hq : (a : Int) / (b : Int) = d := by
      refine Int.le_antisymm ?_ ?_
      · exact Int.le_of_lt_add_one ((Int.ediv_lt_iff_lt_mul (by omega)).2 key.2)
      · exact (Int.le_ediv_iff_mul_le (by omega)).2 key.1
    have := Int.emod_add_mul_ediv (a : Int) (b : Int)
    rw [hq] at this
    rw [Int.natCast_emod]
    rw [Int.mul_comm] at this
    omega
  have hrb : a % b < b := Nat.mod_lt _ hb0
  have hg : Nat.gcd b (a % b) = Nat.gcd A B := by
    rw [← gcd, Nat.gcd_comm b, ← Nat.gcd_rec, Nat.gcd_comm]
  generalize a % b = c at *
  have n1 : (c : Int) = a - d * b := by omega
  have f1 : d * (y + s) = d * y + d * s := by rw [Int.mul_add]
  have f2 : d * (y + t) = d * y + d * t := by rw [Int.mul_add]
  rw [Int.mul_comm] at e1 e2
  refine ⟨⟨F0, ys, yt, by omega, by omega, isB, ?_, hg, by omega, by omega, by omega, .inr (by omega), ?_⟩, hb0, ?_⟩
  · rw [n1, isA, isB]; grind
  · have g1 : (x - d * y + (p - d * s)) = r1 := by omega
    have g2 : (x - d * y + (q - d * t)) = r2 := by omega
    rw [g1, g2]
    have g3 : r1 * F = (x + p) * F - d * ((y + s) * F) := by rw [show r1 = (x + p) - d * (y + s) by omega, Int.sub_mul, Int.mul_assoc]
    have g4 : r2 * F = (x + q) * F - d * ((y + t) * F) := by rw [show r2 = (x + q) - d * (y + t) by omega, Int.sub_mul, Int.mul_assoc]
    rw [g3, g4]
    rcases side with ⟨i1, i2, i3, i4, h5, h6, h7, h8⟩ | ⟨i1, i2, i3, i4, h5, h6, h7, h8⟩
    · have k1 := Int.mul_le_mul_of_nonneg_left h8 d0
      have k2 := Int.mul_le_mul_of_nonneg_left h7 d0
      have z1 : d * s ≤ 0 := Int.mul_nonpos_of_nonneg_of_nonpos d0 i3
      have z2 : 0 ≤ d * t := Int.mul_nonneg d0 i4
      exact .inr ⟨i3, i4, by omega, by omega, h7, h8, by omega, by omega⟩
    · have k1 := Int.mul_le_mul_of_nonneg_left h8 d0
      have k2 := Int.mul_le_mul_of_nonneg_left h7 d0
      have z1 : 0 ≤ d * s := Int.mul_nonneg d0 i3
      have z2 : d * t ≤ 0 := Int.mul_nonpos_of_nonneg_of_nonpos d0 i4
      exact .inl ⟨i3, i4, by omega, by omega, h7, h8, by omega, by omega⟩
  · rcases side with ⟨i1, i2, i3, i4, _⟩ | ⟨i1, i2, i3, i4, _⟩
    · have z1 : d * s ≤ 0 := Int.mul_nonpos_of_nonneg_of_nonpos d0 i3
      omega
    · have z2 : d * t ≤ 0 := Int.mul_nonpos_of_nonneg_of_nonpos d0 i4
      omega

/-- What is reckoned with stays small: with M at most 2^62 nothing leaves the 64 bits. -/
theorem Leh.small {A B : Nat} {F M x y p q s t : Int} {a b : Nat} (h : Leh A B F M x y p q s t a b) :
    (0 ≤ x ∧ x ≤ M) ∧ (0 ≤ y ∧ y ≤ M) ∧ (-M ≤ p ∧ p ≤ M) ∧ (-M ≤ q ∧ q ≤ M) ∧ (-M ≤ s ∧ s ≤ M) ∧ (-M ≤ t ∧ t ≤ M) ∧ ((0 ≤ p ∧ q ≤ 0 ∧ s ≤ 0 ∧ 0 ≤ t) ∨ (p ≤ 0 ∧ 0 ≤ q ∧ 0 ≤ s ∧ t ≤ 0)) := by
  obtain ⟨F0, xp, xq, ys, yt, isA, isB, gcd, le, aA, bB, lt, side⟩ := h
  rcases side with ⟨i1, i2, i3, i4, _⟩ | ⟨i1, i2, i3, i4, _⟩
  · exact ⟨by omega, by omega, by omega, by omega, by omega, by omega, .inl ⟨i1, i2, i3, i4⟩⟩
  · exact ⟨by omega, by omega, by omega, by omega, by omega, by omega, .inr ⟨i1, i2, i3, i4⟩⟩

/-- What some steps of Euclid make of two numbers: what is left of Leh when the leading places are forgotten. -/
structure Steps (A B : Nat) (p q s t : Int) (a b : Nat) : Prop where
  isA : (a : Int) = p * A + q * B
  isB : (b : Int) = s * A + t * B
  gcd : Nat.gcd a b = Nat.gcd A B
  le : b ≤ a
  aA : a ≤ A
  bB : b ≤ B
  lt : q = 0 ∨ b < B
  bp : -4611686018427387904 ≤ p ∧ p ≤ 4611686018427387904
  bq : -4611686018427387904 ≤ q ∧ q ≤ 4611686018427387904
  bs : -4611686018427387904 ≤ s ∧ s ≤ 4611686018427387904
  bt : -4611686018427387904 ≤ t ∧ t ≤ 4611686018427387904
  side : (0 ≤ p ∧ q ≤ 0 ∧ s ≤ 0 ∧ 0 ≤ t) ∨ (p ≤ 0 ∧ 0 ≤ q ∧ 0 ≤ s ∧ t ≤ 0)
theorem Leh.steps {A B : Nat} {F M x y p q s t : Int} {a b : Nat} (h : Leh A B F M x y p q s t a b) (hM : M ≤ 4611686018427387904) : Steps A B p q s t a b := by
  obtain ⟨_, _, h1, h2, h3, h4, h5⟩ := h.small
  refine ⟨h.isA, h.isB, h.gcd, h.le, h.aA, h.bB, ?_, by omega, by omega, by omega, by omega, h5⟩
  rcases h.lt with ⟨_, h6, _⟩ | h6
  · exact .inl h6
  · exact .inr h6
/-- The places that are cut off leave 62. -/
theorem lead_places {m f nb : Nat} (hm : m < 2 ^ nb) (hf : nb ≤ f + 62) : m / 2 ^ f < 4611686018427387904 := by
  rw [Nat.div_lt_iff_lt_mul (Nat.two_pow_pos f)]
  have h1 : 2 ^ nb ≤ 2 ^ (f + 62) := Nat.pow_le_pow_right (by omega) hf
  rw [Nat.pow_add, Nat.mul_comm] at h1
  have h2 : (2 : Nat) ^ 62 = 4611686018427387904 := by decide
  rw [h2] at h1
  omega

end Go.Proofs.Num
