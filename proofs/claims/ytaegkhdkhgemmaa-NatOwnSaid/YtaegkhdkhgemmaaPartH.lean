/- Part of the proof of NatOwn: RefMul, MulsW, RefPow, RefOver, RefSh, RootApi, Shift, OwnPow, OwnCalls, Whole, OwnWh, OwnCp. -/
import Derived.Test.YtaegkhdkhgemmaaPartF
import Derived.Test.YtaegkhdkhgemmaaPartG
import Derived.Test.YtaegkhdkhgemmaaPartC
import Derived.Test.YtaegkhdkhgemmaaPartB
import Derived.Test.YtaegkhdkhgemmaaPartD
import Derived.Test.YtaegkhdkhgemmaaPartE
import Derived.Laws.AppendOwnNone
namespace Go.Proofs.Ytaegkhdkhgemmaa
open Go.RowKit Num
theorem make35 (n : Nat) (h : n ≤ 1000000000000) (w : World) : (Instr.makeSlice 35 (.int .i64 (n : Int)) (.int .i64 (n : Int))).run Try.prog w = .ok (.slice (some ⟨w.heap.size, 0, none⟩) n n) (w.alloc (.cells (madeCells #[.int .u32 0] n) 56)) :=
  run_make_row' 35 56 (.int .u32 0) 4 Try.underlying35 info56 rfl .i64 .i64 n (by omega) (by omega) w
/-- One step: a product, a digit and a carry that stay below 2^64, and the two halves of their sum: as the walk shows them. -/
theorem mac_ex (m x o c : Nat) (hm : m < B32) (hx : x < B32) (ho : o < B32) (hc : c < B32) : ∃ p s1 s lo hi : Nat,
    IntKind.u64.wrap ((m : Int) * (x : Int)) = (p : Int) ∧ IntKind.u64.wrap ((p : Int) + (o : Int)) = (s1 : Int) ∧ IntKind.u64.wrap ((s1 : Int) + (c : Int)) = (s : Int) ∧ (s : Int) % 4294967296 = (lo : Int) ∧ (s : Int) / 4294967296 = (hi : Int) ∧
    IntKind.u32.wrap (lo : Int) = (lo : Int) ∧ (lo : Int) % 4294967296 = (lo : Int) ∧ IntKind.u64.wrap (hi : Int) = (hi : Int) ∧ IntKind.u32.wrap (hi : Int) = (hi : Int) ∧ (hi : Int) % 4294967296 = (hi : Int) ∧ (s : Int).tmod 4294967296 = (lo : Int) ∧ (s : Int).tdiv 4294967296 = (hi : Int) ∧
    IntKind.u64.wrap (m : Int) = (m : Int) ∧ IntKind.u64.wrap (x : Int) = (x : Int) ∧ IntKind.u64.wrap (o : Int) = (o : Int) ∧ lo + B32 * hi = o + x * m + c ∧ lo < B32 ∧ hi < B32 := by
  have hb := word_bound (b := B32) ho hx hm hc (lo := (o + x * m + c) % 4294967296) (hi := (o + x * m + c) / 4294967296) (by unfold B32; omega)
  unfold B32 at *
  have hp : x * m < 4294967296 * 4294967296 := Nat.mul_lt_mul_of_lt_of_lt hx hm
  have hmx : (m : Int) * (x : Int) = ((x * m : Nat) : Int) := by push_cast; exact Int.mul_comm _ _
  generalize x * m = p at *
  refine ⟨p, p + o, p + o + c, (o + p + c) % 4294967296, (o + p + c) / 4294967296, ?_, ?_, ?_, by omega, by omega, ?_, by omega, ?_, ?_, by omega, ?_, ?_, ?_, ?_, ?_, by omega, by omega, by omega⟩
  · rw [IntKind.wrap_u64, hmx]; omega
  · rw [IntKind.wrap_u64]; omega
  · rw [IntKind.wrap_u64]; omega
  · rw [IntKind.wrap_u32']; omega
  · rw [IntKind.wrap_u64]; omega
  · rw [IntKind.wrap_u32']; omega
  · rw [Int.tmod_eq_emod_of_nonneg (by omega)]; omega
  · rw [Int.tdiv_eq_ediv_of_nonneg (by omega)]; omega
  · rw [IntKind.wrap_u64]; omega
  · rw [IntKind.wrap_u64]; omega
  · rw [IntKind.wrap_u64]; omega
set_option maxHeartbeats 2000000 in
set_option maxRecDepth 100000 in
theorem refMul_any (A A' : Option Addr) (c c' L L' : Nat) (xs ys : List Nat) (w : World) (hA : Nums .u32 w A xs) (hA' : Nums .u32 w A' ys) (hx : Low B32 xs) (hy : Low B32 ys) (hL : L = xs.length) (hL' : L' = ys.length)
    (hl : L ≤ 1000000) (hl' : L' ≤ 1000000) : Calls Try.prog 46 #[.slice A L c, .slice A' L' c'] w (LsPost w (dig B32 (val B32 xs * val B32 ys))) := by
  have hmk := make35 (L + L' + 1) (by omega)
  push_cast at hmk
  have hr0 := Row.made w .u32 (L + L' + 1) 56
  have hbA : Below w.heap.size w (w.alloc (.cells (madeCells #[.int .u32 0] (L + L' + 1)) 56)) := (Below.refl _ _).alloc (Nat.le_refl _) _
  have hst0 := MulSt.start b32_two ys (xs ++ [0])
  rw [List.length_append, List.length_singleton, ← hL, ← hL', show L' + (L + 1) = L + L' + 1 by omega] at hst0
  have HR0 := Lib.hid hr0
  have HL := Lib.hid hL
  have HL' := Lib.hid hL'
  clear hL hL' hr0
  go_enter Try.func46, Try.ntmps46
  go_wp2
  go_loopw [6] (fun t wr => ∃ (i : Nat) (zs : List Nat), i ≤ L ∧ t = .int .i64 (i : Int) ∧ MulSt B32 ys (xs ++ [0]) i zs ∧ Row .u32 56 wr w.heap.size zs ∧ Below w.heap.size w wr) (fun t _ => L - (intOf t).toNat)
  case atStart => exact ⟨0, _, Nat.zero_le _, rfl, hst0, HR0.out, hbA⟩
  case round =>
    clear hst0 HR0 hbA hmk
    obtain ⟨i, zs, hi, rfl, hst, hrow, hbl⟩ := hrel
    have hlen := hst.len
    rw [List.length_append, List.length_singleton, ← HL.out, ← HL'.out] at hlen
    have HLEN := Lib.hid hlen
    clear hlen
    by_cases hlt : i < L
    · obtain ⟨q, qo, v, rfl, hq, hv, hcv⟩ := (hA.keep hbl).at_ (i := i) (by have := HL.out; omega)
      have hvl : v < B32 := hx v (List.mem_of_getElem? hv)
      have HV := Lib.hid hv
      clear hv
      go_wp2_with (fail)
      go_loopw [7, 8] (fun q t wr2 => ∃ (k cy : Nat) (zs' : List Nat), k ≤ L' ∧ q = .int .u64 (cy : Int) ∧ t = .int .i64 (k : Int) ∧ ScaleSt B32 zs ys v i k zs' cy ∧ Row .u32 56 wr2 w.heap.size zs' ∧ Below w.heap.size w wr2) (fun _ t _ => L' - (intOf t).toNat)
      case atStart => exact ⟨0, 0, zs, Nat.zero_le _, rfl, rfl, ScaleSt.start b32_two hst.low, hrow, hbl⟩
      case round =>
        obtain ⟨k, cy, zs', hk, rfl, rfl, hsc, hrow2, hbl2⟩ := hrel
        by_cases hlk : k < L'
        · obtain ⟨q2, qo2, x, rfl, hq2, hxv, hcx⟩ := (hA'.keep hbl2).at_ (i := k) (by have := HL'.out; omega)
          have hxl : x < B32 := hy x (List.mem_of_getElem? hxv)
          obtain ⟨g', off', v', e', hq', hv', hcv'⟩ := (hA.keep hbl2).at_ (i := i) (by have := HL.out; omega)
          injection e' with e'
          injection e' with e1 e2
          subst e1 e2
          rw [HV.out] at hv'
          injection hv' with hv'
          subst hv'
          have hzl : i + k < zs'.length := by have h1 := hsc.len; have h2 := HLEN.out; omega
          obtain ⟨o, ho⟩ : ∃ o, zs'[i + k]? = some o := ⟨zs'[i + k], List.getElem?_eq_getElem _⟩
          have hol : o < B32 := hsc.low o (List.mem_of_getElem? ho)
          have hco := hrow2.cell ho
          have hfo := hrow2.frozen (i + k)
          obtain ⟨p, s1, s, lo, hi', w1, w2, w3, w4, w5, w6, w7, w8, w9, wa, wb, wc, wd, we, wf, hs, hlo, hhi⟩ := mac_ex v x o cy hvl hxl hol hsc.le
          have hstep := hsc.step ho hxv hs hlo hhi
          have HST := Lib.hid hstep
          clear hstep hs hlo hhi ho hxv hol hxl hsc hcv
          go_wp2_with (fail)
          go_quiet (fail)
          go_wp2
          go_roundw
          case rel => exact ⟨k + 1, hi', zs'.set (i + k) lo, by omega, rfl, by go_num, HST.out, (Row.of_block hrow2 (by rfl)).set (i + k) lo, below_set (below_drewN hbl2 _) (Nat.le_refl _) _⟩
          case measure => simp [intOf]; omega
        · have hkL : k = L' := by omega
          subst hkL
          have hzl : i + k < zs'.length := by have h1 := hsc.len; have h2 := HLEN.out; omega
          have hcy : IntKind.u32.wrap (cy : Int) = (cy : Int) := by have := hsc.le; unfold B32 at this; rw [IntKind.wrap_u32']; omega
          have hcy2 : (cy : Int) % 4294967296 = (cy : Int) := by have := hsc.le; unfold B32 at this; omega
          have hik : i + k < L + k + 1 := by omega
          obtain ⟨o, ho⟩ : ∃ o, zs'[i + k]? = some o := ⟨zs'[i + k], List.getElem?_eq_getElem _⟩
          have hco := hrow2.cell ho
          have hfo := hrow2.frozen (i + k)
          have HSC := Lib.hid hsc
          clear hsc ho
          go_wp2
          go_roundw
          case rel =>
            refine ⟨i + 1, zs'.set (i + k) cy, by omega, by go_num, ?_, hrow2.set (i + k) cy, below_set hbl2 (Nat.le_refl _) _⟩
            have := hst.step (by rw [List.length_append]; have := HL.out; omega) (by rw [List.getElem?_append_left (by have := HL.out; omega)]; exact HV.out) (by rw [← HL'.out]; exact HSC.out)
            rw [← HL'.out, Nat.add_comm k i] at this
            exact this
          case measure => simp [intOf]; omega
    · have hiL : i = L := by omega
      subst hiL
      have hv := hst.eq
      rw [HL.out, List.take_left, Nat.mul_comm] at hv
      have hn := hrow.nums0 zs.length
      rw [List.take_length] at hn
      have hzl : zs.length = i + L' + 1 := by have := HLEN.out; omega
      have htr := refTrim_l (.slice (some ⟨w.heap.size, 0, none⟩) (i + L' + 1) (i + L' + 1)) zs wr ⟨_, _, by rw [hzl], by omega, by omega, hn⟩ hst.low (by omega)
      rw [hv] at htr
      have HT := Lib.hid htr
      clear htr hv hn hzl hst hx hy hA hA'
      go_wp2_with (go_at_call 80; refine HT.out.mono ?_; rintro e w9 ⟨v9, rfl, hv9, hb9⟩)
      go_ret
      exact ⟨_, rfl, hv9.mono hbl.size, below_at hbl (Nat.le_refl _) hb9⟩
end Go.Proofs.Ytaegkhdkhgemmaa

namespace Go.Proofs.Ytaegkhdkhgemmaa
open Go.RowKit Num

theorem prod_len {m n K J : Nat} (hm : (dig B32 m).length ≤ K) (hn : (dig B32 n).length ≤ J) : (dig B32 (m * n)).length ≤ K + J := by
  have h1 := Nat.lt_of_lt_of_le (dig_len_lt b32_two (n := m)) (Nat.pow_le_pow_right b32_pos hm)
  have h2 := Nat.lt_of_lt_of_le (dig_len_lt b32_two (n := n)) (Nat.pow_le_pow_right b32_pos hn)
  refine dig_len_le b32_two ?_
  rw [Nat.pow_add]
  exact Nat.mul_lt_mul_of_lt_of_lt h1 h2
theorem refMul_call (a b : Value) (m n : Nat) (w : World) (ha : N32 w a m) (hb : N32 w b n) (hm : (dig B32 m).length ≤ 1000) (hn : (dig B32 n).length ≤ 1000) : Calls Try.prog 46 #[a, b] w (LsPost w (dig B32 (m * n))) := by
  obtain ⟨A, c, rfl, _, hA⟩ := ha
  obtain ⟨A', c', rfl, _, hB⟩ := hb
  have := refMul_any A A' c c' _ _ _ _ w hA hB (low_dig b32_two m) (low_dig b32_two n) rfl rfl (by omega) (by omega)
  rw [val_dig b32_two, val_dig b32_two] at this
  exact this

set_option maxHeartbeats 2000000 in
set_option maxRecDepth 100000 in
theorem muls_bad (A A' : Option Addr) (c c' L L' : Nat) (xs ys : List Nat) (w : World) (hA : Nums .u32 w A xs) (hA' : Nums .u32 w A' ys) (hL : L = xs.length) (hL' : L' = ys.length) (hc : L ≤ c) (hc' : L' ≤ c') (hnil : A = none → c = 0) (hnil' : A' = none → c' = 0)
    (hbad : chk2 (xs.take 160) (ys.take 160) ≠ 0) : Calls Try.prog 5 #[.slice A L c, .slice A' L' c'] w (LivesPost w) := by
  have hcut := fun w' (h : Below w.heap.size w w') => cut_any A c L 160 xs w' (hA.keep h) hL hc hnil (by omega)
  have hcut' := fun w' (h : Below w.heap.size w w') => cut_any A' c' L' 160 ys w' (hA'.keep h) hL' hc' hnil' (by omega)
  have l1 : (xs.take 160).length ≤ 160 := by rw [List.length_take]; omega
  have l2 : (ys.take 160).length ≤ 160 := by rw [List.length_take]; omega
  generalize xs.take 160 = us at *
  generalize ys.take 160 = vs at *
  have hlu : ∀ B w' a, OwnLs B w' a us → Limbs w' a us := fun B w' a h => h.limbs (by omega)
  have hlv : ∀ B w' a, OwnLs B w' a vs → Limbs w' a vs := fun B w' a h => h.limbs (by omega)
  have h45 := fun a b w h k => mul_bad a b us vs w h k hbad
  have h40 := fun a b w h k => both_any a b us vs w h k
  generalize chk2 us vs = r at *
  have hq : (r != 0) = true := by simp [hbad]
  have hq0 : (r == r) = true := by simp
  have h41 := fun b w => is_err b r w hbad
  have HC := Lib.hid hcut
  have HC' := Lib.hid hcut'
  have HLU := Lib.hid hlu
  have HLV := Lib.hid hlv
  have H45 := Lib.hid h45
  have H40 := Lib.hid h40
  have H41 := Lib.hid h41
  have HB := Lib.hid hbad
  clear hcut hcut' hlu hlv h45 h40 h41 hbad hA hA' hL hL' hnil hnil' l1 l2
  go_enter Try.func5, Try.ntmps5
  go_wp2_with (fail)
  refine (HC.out _ (Below.refl _ _)).mono ?_
  rintro e w1 ⟨va, rfl, hva, hb1⟩
  have ka := HLU.out _ _ _ hva
  go_wp2_with (fail)
  refine (HC'.out _ hb1).mono ?_
  rintro e w2 ⟨vb, rfl, hvb, hb2⟩
  have kb := HLV.out _ _ _ hvb
  have b2 := below_at hb1 (Nat.le_refl _) hb2
  have ka2 := ka.keep hb2
  go_wp2_with (first
    | (go_at_call 45; refine (H45.out _ _ _ ka2 kb).mono ?_; rintro e w3 ⟨rfl, hb3⟩
       have b3 := below_at b2 (Nat.le_refl _) hb3
       have ka3 := ka2.keep hb3
       have kb3 := kb.keep hb3)
    | (go_at_call 40; refine (H40.out _ _ _ ka3 kb3).mono ?_; rintro e w6 ⟨rfl, rfl⟩))
  refine (H41.out _ _).mono ?_
  rintro e w8 ⟨rfl, hb8⟩
  have b8 := below_at b3 (Nat.le_refl _) hb8
  go_wp2_with (fail)
  refine (lives_any _).mono ?_
  rintro e w9 ⟨rfl, hb9⟩
  have b9 := below_at b8 (Nat.le_refl _) hb9
  go_wp2
  go_ret
  exact ⟨rfl, b9⟩

set_option maxHeartbeats 2000000 in
set_option maxRecDepth 100000 in
theorem muls_ok (A A' : Option Addr) (c c' L L' m n : Nat) (xs ys : List Nat) (w : World) (hA : Nums .u32 w A xs) (hA' : Nums .u32 w A' ys) (hL : L = xs.length) (hL' : L' = ys.length) (hc : L ≤ c) (hc' : L' ≤ c') (hnil : A = none → c = 0) (hnil' : A' = none → c' = 0)
    (hm : xs.take 160 = dig B32 m) (hn : ys.take 160 = dig B32 n) : Calls Try.prog 5 #[.slice A L c, .slice A' L' c'] w (LivesPost w) := by
  have hcut := fun w' (h : Below w.heap.size w w') => cut_any A c L 160 xs w' (hA.keep h) hL hc hnil (by omega)
  have hcut' := fun w' (h : Below w.heap.size w w') => cut_any A' c' L' 160 ys w' (hA'.keep h) hL' hc' hnil' (by omega)
  have l1 : (xs.take 160).length ≤ 160 := by rw [List.length_take]; omega
  have l2 : (ys.take 160).length ≤ 160 := by rw [List.length_take]; omega
  rw [hm] at hcut l1
  rw [hn] at hcut' l2
  have ls : (dig B32 (m * n)).length ≤ 320 := prod_len l1 l2
  have hp : nbits (m * n) ≤ 8388608 := Nat.le_trans (bits_of_len ls) (by omega)
  have w1 := words_le (n := m) (K := 500) (by omega)
  have w2 := words_le (n := n) (K := 500) (by omega)
  have hat : MulAt m n := mulAt_all (by omega) (by omega)
  have hlu : ∀ B w' a, OwnLs B w' a (dig B32 m) → Limbs w' a (dig B32 m) := fun B w' a h => h.limbs (by omega)
  have hlv : ∀ B w' a, OwnLs B w' a (dig B32 n) → Limbs w' a (dig B32 n) := fun B w' a h => h.limbs (by omega)
  have h45 := fun a b w (h : Limbs w a (dig B32 m)) (k : Limbs w b (dig B32 n)) => mul_at (N := 500) a b m n w hat (by omega) h.is k.is (by omega) (by omega) (by omega) (by omega) hp
  have h40 := fun a b w h k => both_any a b (dig B32 m) (dig B32 n) w h k
  have h46 := fun a b w (h : Limbs w a (dig B32 m)) (k : Limbs w b (dig B32 n)) => refMul_call a b m n w h.is k.is (by omega) (by omega)
  have h41b : ∀ B a b w, N32 w a (m * n) → OwnLs B w b (dig B32 (m * n)) → Calls Try.prog 41 #[a, .int .i64 0, b, .int .i64 0] w (LivesPost w) := fun B a b w h k => is_ok a b (m * n) w h (k.limbs (by omega)) (by omega)
  rw [chk2, if_pos (chk_dig (by omega)), chk_dig (by omega)] at h40
  have HC := Lib.hid hcut
  have HC' := Lib.hid hcut'
  have HLU := Lib.hid hlu
  have HLV := Lib.hid hlv
  have H45 := Lib.hid h45
  have H40 := Lib.hid h40
  have H41 := Lib.hid h41b
  have H46 := Lib.hid h46
  clear hcut hcut' hlu hlv h45 h40 h41b h46 hA hA' hL hL' hnil hnil' l1 l2 hp ls hm hn hat w1 w2
  go_enter Try.func5, Try.ntmps5
  go_wp2_with (fail)
  refine (HC.out _ (Below.refl _ _)).mono ?_
  rintro e w1 ⟨va, rfl, hva, hb1⟩
  have ka := HLU.out _ _ _ hva
  go_wp2_with (fail)
  refine (HC'.out _ hb1).mono ?_
  rintro e w2 ⟨vb, rfl, hvb, hb2⟩
  have kb := HLV.out _ _ _ hvb
  have b2 := below_at hb1 (Nat.le_refl _) hb2
  have ka2 := ka.keep hb2
  go_wp2_with (first
    | (go_at_call 45; refine (H45.out _ _ _ ka2 kb).mono ?_; rintro e w3 ⟨vs, rfl, hvs, hb3⟩
       have b3 := below_at b2 (Nat.le_refl _) hb3
       have ka3 := ka2.keep hb3
       have kb3 := kb.keep hb3)
    | (go_at_call 40; refine (H40.out _ _ _ ka3 kb3).mono ?_; rintro e w6 ⟨rfl, rfl⟩)
    | (go_at_call 46; refine (H46.out _ _ _ ka3 kb3).mono ?_; rintro e w9 ⟨v9, rfl, hv9, hb9⟩
       have b9 := below_at b3 (Nat.le_refl _) hb9
       have ks9 := hvs.is.keep hb9))
  refine (H41.out _ _ _ _ ks9 hv9).mono ?_
  rintro e w10 ⟨rfl, hb10⟩
  have b10 := below_at b9 (Nat.le_refl _) hb10
  go_wp2_with (fail)
  refine (lives_any _).mono ?_
  rintro e w11 ⟨rfl, hb11⟩
  have b11 := below_at b10 (Nat.le_refl _) hb11
  go_wp2
  go_ret
  exact ⟨rfl, b11⟩

/-- The law NatMuls, for whatever limbs. -/
theorem muls_walk (A A' : Option Addr) (c c' L L' : Nat) (xs ys : List Nat) (w : World) (hA : Nums .u32 w A xs) (hA' : Nums .u32 w A' ys) (hlow : Low B32 xs) (hlow' : Low B32 ys) (hL : L = xs.length) (hL' : L' = ys.length) (hc : L ≤ c) (hc' : L' ≤ c') (hnil : A = none → c = 0) (hnil' : A' = none → c' = 0) :
    Calls Try.prog 5 #[.slice A L c, .slice A' L' c'] w (LivesPost w) := by
  by_cases h0 : chk2 (xs.take 160) (ys.take 160) = 0
  · have h1 : chk (xs.take 160) = 0 ∧ chk (ys.take 160) = 0 := by
      unfold chk2 at h0
      split at h0
      · rename_i h; exact ⟨h, h0⟩
      · rename_i h; exact absurd h0 h
    have hm := chk_zero (hlow.take 160) h1.1
    have hn := chk_zero (hlow'.take 160) h1.2
    exact muls_ok A A' c c' L L' _ _ xs ys w hA hA' hL hL' hc hc' hnil hnil' hm hn
  · exact muls_bad A A' c c' L L' xs ys w hA hA' hL hL' hc hc' hnil hnil' h0
end Go.Proofs.Ytaegkhdkhgemmaa

namespace Go.Proofs.Ytaegkhdkhgemmaa
open Go.RowKit Num

/-- A number comes back. -/
def N32Post (w : World) (n : Nat) (e : Ending) (w' : World) : Prop := ∃ v, e = .returned v ∧ N32 w' v n ∧ Below w.heap.size w w'

/-- The bits of the exponent from i on are done; p is the next one's weight. -/
structure PowSt (m n i p V : Nat) : Prop where
  wt : p = if i = 0 then 0 else 2 ^ (i - 1)
  eq : V = m ^ (n / 2 ^ i)
theorem PowSt.start {m n : Nat} (hn : n < 2 ^ 41) : PowSt m n 41 1099511627776 1 := ⟨rfl, by rw [Nat.div_eq_of_lt hn]; rfl⟩
theorem PowSt.next {m n i p V : Nat} (h : PowSt m n (i + 1) p V) : ∃ q r : Nat, n / p = q ∧ q % 2 = r ∧ 0 < p ∧ q ≤ n ∧ (r = 0 → V * V = m ^ q ∧ PowSt m n i (p / 2) (V * V)) ∧ (r = 1 → V * V * m = m ^ q ∧ PowSt m n i (p / 2) (V * V * m)) := by
  have hp : p = 2 ^ i := by rw [h.wt, if_neg (by omega)]; rfl
  have hV : V = m ^ (n / 2 ^ i / 2) := by rw [h.eq, Nat.div_div_eq_div_mul, ← Nat.pow_succ]
  have hp2 : p / 2 = if i = 0 then 0 else 2 ^ (i - 1) := by
    rw [hp]
    by_cases h0 : i = 0
    · subst h0; rfl
    · rw [if_neg h0]
      obtain ⟨j, rfl⟩ : ∃ j, i = j + 1 := ⟨i - 1, by omega⟩
      rw [Nat.pow_succ]; simp
  have hd := Nat.div_add_mod (n / 2 ^ i) 2
  refine ⟨_, _, rfl, rfl, by rw [hp]; exact Nat.pow_pos (by omega), Nat.div_le_self _ _, fun h0 => ?_, fun h1 => ?_⟩
  · have e : V * V = m ^ (n / p) := by
      rw [hV, ← Nat.pow_add, hp]; congr 1; rw [hp] at h0; omega
    exact ⟨e, hp2, by rw [e, hp]⟩
  · have e : V * V * m = m ^ (n / p) := by
      rw [hV, ← Nat.pow_add, ← Nat.pow_succ, hp]; congr 1; rw [hp] at h1; omega
    exact ⟨e, hp2, by rw [e, hp]⟩

set_option maxHeartbeats 2000000 in
set_option maxRecDepth 100000 in
theorem refPow_any (a : Value) (m n : Nat) (w : World) (ha : N32 w a m) (hm : (dig B32 m).length ≤ 500) (hn : n ≤ 1000000000) (hp : ∀ j, j ≤ n → (dig B32 (m ^ j)).length ≤ 500) :
    Calls Try.prog 53 #[a, .int .i64 (n : Int)] w (N32Post w (m ^ n)) := by
  have hof := refOf_any 1 (by decide) w
  have hst0 := @PowSt.start m n (by omega)
  have hmul := fun b c x y w' (h : N32 w' b x) (k : N32 w' c y) (h1 : (dig B32 x).length ≤ 1000) (h2 : (dig B32 y).length ≤ 1000) => refMul_call b c x y w' h k h1 h2
  have hl1 : (dig B32 1).length ≤ 1000000 := Nat.le_trans (len_u64 (by decide)) (by omega)
  have HA := Lib.hid ha
  have HOF := Lib.hid hof
  have HST0 := Lib.hid hst0
  have HP := Lib.hid hp
  have HM := Lib.hid hmul
  have HLM := Lib.hid hm
  clear ha hof hst0 hp hmul hm
  go_enter Try.func53, Try.ntmps53
  go_wp2_with (fail)
  refine HOF.out.mono ?_
  rintro e w1 ⟨v1, rfl, hv1, hb1⟩
  have k1 : N32 w1 v1 1 := (hv1.limbs (by omega)).is
  clear hl1
  go_wp2_with (fail)
  go_loopw [5, 6] (fun out t wr => ∃ i p V : Nat, i ≤ 41 ∧ t = .int .i64 (p : Int) ∧ p ≤ 1099511627776 ∧ PowSt m n i p V ∧ N32 wr out V ∧ Below w.heap.size w wr) (fun _ t _ => (intOf t).toNat)
  case atStart => exact ⟨41, _, 1, Nat.le_refl _, rfl, Nat.le_refl _, HST0.out, k1, hb1⟩
  case round =>
    clear hb1 hv1 k1
    obtain ⟨i, p, V, hi, rfl, hple, hst, hV, hbl⟩ := hrel
    by_cases h0 : i = 0
    · have hp0 : p = 0 := by rw [hst.wt, if_pos h0]
      have he := hst.eq
      subst h0
      subst hp0
      rw [Nat.pow_zero, Nat.div_one] at he
      have HE := Lib.hid he
      clear he hst
      go_wp2
      go_ret
      have := HE.out
      subst this
      exact ⟨_, rfl, hV, hbl⟩
    · obtain ⟨i, rfl⟩ : ∃ j, i = j + 1 := ⟨i - 1, by omega⟩
      obtain ⟨q, r, hq, hr, hp0, hqn, c0, c1⟩ := hst.next
      have hVl : (dig B32 V).length ≤ 500 := by rw [hst.eq]; exact HP.out _ (Nat.div_le_self _ _)
      have q1 : (n : Int) / (p : Int) = (q : Int) := by rw [← hq]; exact (Int.natCast_ediv _ _).symm
      have q2 : (n : Int).tdiv (p : Int) = (q : Int) := by rw [Int.tdiv_eq_ediv_of_nonneg (by omega)]; exact q1
      have q3 : (q : Int) % 2 = (r : Int) := by omega
      have q4 : (q : Int).tmod 2 = (r : Int) := by rw [Int.tmod_eq_emod_of_nonneg (by omega)]; exact q3
      have q5 : ((p : Int) == 0) = false := by simp; omega
      obtain ⟨p', hp'⟩ : ∃ p', p / 2 = p' := ⟨_, rfl⟩
      have q6 : (p : Int) / 2 = (p' : Int) := by omega
      have q7 : (p : Int).tdiv 2 = (p' : Int) := by rw [Int.tdiv_eq_ediv_of_nonneg (by omega)]; exact q6
      rw [hp'] at c0 c1
      have hlt : p' < p := by omega
      by_cases hr1 : r = 1
      · obtain ⟨e1, e2⟩ := c1 hr1
        have hVV : (dig B32 (V * V)).length ≤ 1000 := prod_len hVl hVl
        have t1 : ((r : Int) == 1) = true := by simp [hr1]
        have HE1 := Lib.hid e1
        have HE2 := Lib.hid e2
        have HV := Lib.hid hVl
        have HVV := Lib.hid hVV
        clear c0 c1 hr1 hq hr e1 e2 hst hVl hVV hp'
        go_wp2_with (fail)
        refine (HM.out _ _ _ _ _ hV hV (by have := HV.out; omega) (by have := HV.out; omega)).mono ?_
        rintro e w2 ⟨v2, rfl, hv2, hb2⟩
        have b2 := below_at hbl (Nat.le_refl _) hb2
        have k2 := (hv2.limbs (by have := HVV.out; omega)).is
        go_wp2_with (fail)
        refine (HM.out _ _ _ _ _ k2 (HA.out.keep b2) HVV.out (by have := HLM.out; omega)).mono ?_
        rintro e w3 ⟨v3, rfl, hv3, hb3⟩
        have b3 := below_at b2 (Nat.le_refl _) hb3
        have k3 : N32 w3 v3 (V * V * m) := (hv3.limbs (by rw [HE1.out]; have := HP.out q hqn; omega)).is
        go_wp2
        go_roundw
        case rel => exact ⟨i, p', _, by omega, rfl, by omega, HE2.out, k3, b3⟩
        case measure => simp [intOf]; omega
      · have hr0 : r = 0 := by omega
        obtain ⟨e1, e2⟩ := c0 hr0
        have t1 : ((r : Int) == 1) = false := by simp [hr0]
        have hVV : (dig B32 (V * V)).length ≤ 1000 := prod_len hVl hVl
        have HE1 := Lib.hid e1
        have HE2 := Lib.hid e2
        have HV := Lib.hid hVl
        have HVV := Lib.hid hVV
        clear c0 c1 hr1 hr0 hq hr e1 e2 hst hVl hVV hp'
        go_wp2_with (fail)
        refine (HM.out _ _ _ _ _ hV hV (by have := HV.out; omega) (by have := HV.out; omega)).mono ?_
        rintro e w2 ⟨v2, rfl, hv2, hb2⟩
        have b2 := below_at hbl (Nat.le_refl _) hb2
        have k2 := (hv2.limbs (by have := HVV.out; omega)).is
        go_wp2
        go_roundw
        case rel => exact ⟨i, p', _, by omega, rfl, by omega, HE2.out, k2, b2⟩
        case measure => simp [intOf]; omega
end Go.Proofs.Ytaegkhdkhgemmaa

namespace Go.Proofs.Ytaegkhdkhgemmaa
open Go.RowKit Num

/-- Division by a small number from the top down: the limbs from k on are done. -/
structure OverSt (xs zs : List Nat) (v k l : Nat) : Prop where
  len : zs.length = xs.length
  low : Low B32 zs
  lt : l < v
  eq : val B32 (xs.drop k) = v * val B32 (zs.drop k) + l
theorem OverSt.start (xs : List Nat) {v : Nat} (hv : 0 < v) : OverSt xs (List.replicate xs.length 0) v xs.length 0 :=
  ⟨by simp, Low.replicate b32_pos _, hv, by simp [val]⟩
theorem OverSt.step {xs zs : List Nat} {v k l x q r : Nat} (h : OverSt xs zs v (k + 1) l) (hx : xs[k]? = some x) (hs : l * B32 + x = v * q + r) (hq : q < B32) (hr : r < v) : OverSt xs (zs.set k q) v k r := by
  have hk : k < xs.length := (List.getElem?_eq_some_iff.1 hx).1
  have hxe : xs[k] = x := (List.getElem?_eq_some_iff.1 hx).2
  have hkz : k < (zs.set k q).length := by rw [List.length_set, h.len]; exact hk
  refine ⟨by rw [List.length_set]; exact h.len, h.low.set hq, hr, ?_⟩
  rw [List.drop_eq_getElem_cons hk, List.drop_eq_getElem_cons hkz, hxe, List.getElem_set_self, List.drop_set_of_lt (by omega)]
  simp only [val]
  rw [h.eq]
  grind
theorem OverSt.fin {xs zs : List Nat} {v l : Nat} (h : OverSt xs zs v 0 l) : val B32 zs = val B32 xs / v ∧ val B32 xs % v = l := by
  have e := h.eq
  simp only [List.drop_zero] at e
  have hl := h.lt
  rw [e, Nat.mul_add_div (by omega), Nat.div_eq_of_lt hl, Nat.mul_add_mod, Nat.mod_eq_of_lt hl]
  simp

theorem over_ex (l x v : Nat) (hl : l < v) (hx : x < B32) (hv : v < B32) : ∃ p s q r : Nat,
    IntKind.u64.wrap ((l : Int) * 4294967296) = (p : Int) ∧ IntKind.u64.wrap (x : Int) = (x : Int) ∧ IntKind.u64.wrap (v : Int) = (v : Int) ∧ IntKind.u64.wrap ((p : Int) + (x : Int)) = (s : Int) ∧
    (s : Int) / (v : Int) = (q : Int) ∧ (s : Int).tdiv (v : Int) = (q : Int) ∧ (s : Int) % (v : Int) = (r : Int) ∧ (s : Int).tmod (v : Int) = (r : Int) ∧
    IntKind.u64.wrap (q : Int) = (q : Int) ∧ IntKind.u64.wrap (r : Int) = (r : Int) ∧ IntKind.u32.wrap (q : Int) = (q : Int) ∧ (q : Int) % 4294967296 = (q : Int) ∧ IntKind.u32.wrap (r : Int) = (r : Int) ∧ (r : Int) % 4294967296 = (r : Int) ∧
    ((v : Int) == 0) = false ∧ l * B32 + x = v * q + r ∧ q < B32 ∧ r < v := by
  have hlt : l * B32 + x < v * B32 := by
    have : (l + 1) * B32 ≤ v * B32 := Nat.mul_le_mul_right _ hl
    rw [Nat.add_mul] at this
    omega
  have hle : v * B32 ≤ B32 * B32 := Nat.mul_le_mul_right _ (by omega)
  have hq : (l * B32 + x) / v < B32 := Nat.div_lt_of_lt_mul hlt
  have hr : (l * B32 + x) % v < v := Nat.mod_lt _ (by omega)
  have hd := Nat.div_add_mod (l * B32 + x) v
  obtain ⟨q, hqe⟩ : ∃ q, (l * B32 + x) / v = q := ⟨_, rfl⟩
  obtain ⟨r, hre⟩ : ∃ r, (l * B32 + x) % v = r := ⟨_, rfl⟩
  have c1 : ((l * B32 + x : Nat) : Int) / (v : Int) = (q : Int) := by rw [← hqe]; exact (Int.natCast_ediv _ _).symm
  have c2 : ((l * B32 + x : Nat) : Int) % (v : Int) = (r : Int) := by rw [← hre]; exact (Int.natCast_emod _ _).symm
  rw [hqe] at hq hd
  rw [hre] at hr hd
  have hpv : (l : Int) * 4294967296 = ((l * B32 : Nat) : Int) := by unfold B32; omega
  have hp : l * B32 + x < B32 * B32 := by omega
  clear hqe hre
  refine ⟨l * B32, l * B32 + x, q, r, ?_, ?_, ?_, ?_, c1, ?_, c2, ?_, ?_, ?_, ?_, ?_, ?_, ?_, ?_, hd.symm, hq, hr⟩
  · rw [IntKind.wrap_u64]; unfold B32 at *; omega
  · rw [IntKind.wrap_u64]; unfold B32 at *; omega
  · rw [IntKind.wrap_u64]; unfold B32 at *; omega
  · rw [IntKind.wrap_u64]; unfold B32 at *; omega
  · rw [Int.tdiv_eq_ediv_of_nonneg (by omega)]; exact c1
  · rw [Int.tmod_eq_emod_of_nonneg (by omega)]; exact c2
  all_goals clear c1 c2 hd hp hpv hle hlt
  · rw [IntKind.wrap_u64]; unfold B32 at *; omega
  · rw [IntKind.wrap_u64]; unfold B32 at *; omega
  · rw [IntKind.wrap_u32']; unfold B32 at *; omega
  · unfold B32 at *; omega
  · rw [IntKind.wrap_u32']; unfold B32 at *; omega
  · unfold B32 at *; omega
  · simp; omega

def OverPost (w : World) (ys : List Nat) (r : Nat) (e : Ending) (w' : World) : Prop := ∃ v, e = .returned (.tuple #[v, .int .u32 (r : Int)]) ∧ OwnLs w.heap.size w' v ys ∧ Below w.heap.size w w'

set_option maxHeartbeats 2000000 in
set_option maxRecDepth 100000 in
theorem refOver_any (A : Option Addr) (c L v : Nat) (xs : List Nat) (w : World) (hA : Nums .u32 w A xs) (hx : Low B32 xs) (hL : L = xs.length) (hl : L ≤ 1000000) (hv0 : 0 < v) (hv : v < B32) :
    Calls Try.prog 94 #[.slice A L c, .int .u32 (v : Int)] w (OverPost w (dig B32 (val B32 xs / v)) (val B32 xs % v)) := by
  have hmk := make35 L (by omega) w
  have hr0 := Row.made w .u32 L 56
  have hbA : Below w.heap.size w (w.alloc (.cells (madeCells #[.int .u32 0] L) 56)) := (Below.refl _ _).alloc (Nat.le_refl _) _
  have hst0 := OverSt.start xs hv0
  rw [← hL] at hst0
  have HL := Lib.hid hL
  have HR0 := Lib.hid hr0
  have HV := Lib.hid hv
  clear hL hr0 hv
  go_enter Try.func94, Try.ntmps94
  go_wp2
  go_loopw [7, 8] (fun q t wr => ∃ (k l : Nat) (zs : List Nat), k ≤ L ∧ t = .int .i64 ((k : Int) - 1) ∧ q = .int .u64 (l : Int) ∧ OverSt xs zs v k l ∧ Row .u32 56 wr w.heap.size zs ∧ Below w.heap.size w wr) (fun _ t _ => (intOf t + 1).toNat)
  case atStart => exact ⟨L, 0, _, Nat.le_refl _, rfl, rfl, hst0, HR0.out, hbA⟩
  case round =>
    clear hst0 HR0 hbA hmk
    obtain ⟨k, l, zs, hk, rfl, rfl, hst, hrow, hbl⟩ := hrel
    have hlen := hst.len
    rw [← HL.out] at hlen
    have HLEN := Lib.hid hlen
    clear hlen
    by_cases h0 : k = 0
    · subst h0
      obtain ⟨f1, f2⟩ := hst.fin
      have hlt := hst.lt
      have hvv := HV.out
      have w1 : IntKind.u32.wrap (l : Int) = (l : Int) := by unfold B32 at hvv; rw [IntKind.wrap_u32']; omega
      have w2 : (l : Int) % 4294967296 = (l : Int) := by unfold B32 at hvv; omega
      have hn := hrow.nums0 zs.length
      rw [List.take_length] at hn
      have htr := refTrim_l (.slice (some ⟨w.heap.size, 0, none⟩) L L) zs wr ⟨_, _, by rw [HLEN.out], by have := HLEN.out; omega, by have := HLEN.out; omega, hn⟩ hst.low (by have := HLEN.out; omega)
      rw [f1] at htr
      have HT := Lib.hid htr
      have F2 := Lib.hid f2
      clear htr f1 f2 hn hst hx hA hvv
      go_wp2_with (go_at_call 80; refine HT.out.mono ?_; rintro e w9 ⟨v9, rfl, hv9, hb9⟩)
      go_ret2
      rw [F2.out]
      exact ⟨_, rfl, hv9.mono hbl.size, below_at hbl (Nat.le_refl _) hb9⟩
    · obtain ⟨j, rfl⟩ : ∃ j, k = j + 1 := ⟨k - 1, by omega⟩
      obtain ⟨g, off, x, rfl, hg, hxv, hcx⟩ := (hA.keep hbl).at_ (i := j) (by have := HL.out; omega)
      have hxl : x < B32 := hx x (List.mem_of_getElem? hxv)
      obtain ⟨p, s, q, r, w1, w2, w3, w4, w5, w6, w7, w8, w9, wa, wb, wc, wd, we, wf, hs, hq, hr⟩ := over_ex l x v hst.lt hxl HV.out
      have hst' := hst.step hxv hs hq hr
      obtain ⟨o, ho⟩ : ∃ o, zs[j]? = some o := ⟨zs[j]'(by have := HLEN.out; omega), List.getElem?_eq_getElem _⟩
      have hco := hrow.cell ho
      have hfo := hrow.frozen j
      have HST := Lib.hid hst'
      have HX := Lib.hid hxv
      have HO := Lib.hid ho
      clear hst' hxv ho hxl hs hq hr hst hA hx
      go_wp2
      go_roundw
      case rel => exact ⟨j, r, _, by omega, by first | rfl | go_num, rfl, HST.out, hrow.set j q, below_set hbl (Nat.le_refl _) _⟩
      case measure => simp [intOf]
end Go.Proofs.Ytaegkhdkhgemmaa

namespace Go.Proofs.Ytaegkhdkhgemmaa
open Go.RowKit Num

set_option maxHeartbeats 1000000 in
set_option maxRecDepth 100000 in
theorem times_any (a : Value) (m v : Nat) (w : World) (ha : N32 w a m) (hm : (dig B32 m).length ≤ 1000) (hv : v < B32) : Calls Try.prog 89 #[a, .int .u32 (v : Int)] w (LsPost w (dig B32 (m * v))) := by
  have hv64 : v < B64 := by unfold B32 at hv; unfold B64; omega
  have hof := refOf_any v hv64 w
  have w1 : IntKind.u64.wrap (v : Int) = (v : Int) := by unfold B32 at hv; rw [IntKind.wrap_u64]; omega
  have hl2 := len_u64 hv64
  have hmul := fun b w' (h : Below w.heap.size w w') (k : OwnLs w.heap.size w' b (dig B32 v)) => refMul_call a b m v w' (ha.keep h) (k.limbs (by omega)).is (by omega) (by omega)
  have HOF := Lib.hid hof
  have HM := Lib.hid hmul
  clear hof hmul hv hv64 ha hl2
  go_enter Try.func89, Try.ntmps89
  go_wp2_with (first
    | (go_at_call 34; refine HOF.out.mono ?_; rintro e w2 ⟨v2, rfl, hv2, hb2⟩)
    | (go_at_call 46; refine (HM.out _ _ hb2 hv2).mono ?_; rintro e w3 ⟨v3, rfl, hv3, hb3⟩))
  go_ret
  exact ⟨_, rfl, hv3.mono hb2.size, below_at hb2 (Nat.le_refl _) hb3⟩

theorem zeros_snoc (k : Nat) : ints .u32 (List.replicate k 0) ++ [.int .u32 0] = ints .u32 (List.replicate (k + 1) 0) := by
  rw [List.replicate_succ']; simp [ints]
theorem take_snoc_ints {xs : List Nat} {k v : Nat} (zs : List Nat) (h : xs[k]? = some v) : ints .u32 (zs ++ xs.take k) ++ [.int .u32 (v : Int)] = ints .u32 (zs ++ xs.take (k + 1)) := by
  obtain ⟨hk, he⟩ := List.getElem?_eq_some_iff.1 h
  rw [List.take_succ_eq_append_getElem hk, he]; simp [ints]
theorem two_pow_32 {k : Nat} (h : k < 32) : 2 ^ k < B32 := by
  have := Nat.pow_lt_pow_right (a := 2) (by omega) h
  unfold B32; simpa using this
theorem dbl_ex (k : Nat) (h : k + 1 < 32) : ∃ p q : Nat, 2 ^ k = p ∧ 2 ^ (k + 1) = q ∧ IntKind.u32.wrap ((p : Int) * 2) = (q : Int) ∧ ((p : Int) * 2) % 4294967296 = (q : Int) := by
  have h1 := two_pow_32 h
  have h2 : 2 ^ (k + 1) = 2 ^ k * 2 := Nat.pow_succ _ _
  refine ⟨_, _, rfl, rfl, ?_, ?_⟩
  · unfold B32 at h1; rw [IntKind.wrap_u32', h2]; omega
  · unfold B32 at h1; rw [h2]; omega

theorem ownLs_of {B n : Nat} {w : World} {v : Value} {zs : List Nat} (h : w.ownsRow B 56 1 v n (ints .u32 zs)) (hn : zs.length = n) : OwnLs B w v zs := by
  subst hn; exact h

def PowIs (p k : Nat) : Prop := p = 2 ^ k
theorem powIs_step {p k : Nat} (h : PowIs p k) (hk : k + 1 < 32) : ∃ q : Nat, PowIs q (k + 1) ∧ IntKind.u32.wrap ((p : Int) * 2) = (q : Int) ∧ ((p : Int) * 2) % 4294967296 = (q : Int) := by
  obtain ⟨p', q, e1, e2, e3, e4⟩ := dbl_ex k hk
  obtain rfl : p = p' := h.trans e1
  exact ⟨q, e2.symm, e3, e4⟩

set_option maxHeartbeats 4000000 in
set_option maxRecDepth 100000 in
theorem left_any (a : Value) (m n : Nat) (w : World) (ha : N32 w a m) (hm : (dig B32 m).length ≤ 500) (hn : n ≤ 10000) : Calls Try.prog 50 #[a, .int .i64 (n : Int)] w (LsPost w (dig B32 (m * 2 ^ n))) := by
  obtain ⟨wh, s, hs, rfl⟩ : ∃ wh s, s < 32 ∧ n = 32 * wh + s := ⟨n / 32, n % 32, Nat.mod_lt _ (by omega), by omega⟩
  have e1 : ((32 * wh + s : Nat) : Int) / 32 = (wh : Int) := by omega
  have e2 : ((32 * wh + s : Nat) : Int) % 32 = (s : Int) := by omega
  have e3 : ((32 * wh + s : Nat) : Int).tdiv 32 = (wh : Int) := by rw [Int.tdiv_eq_ediv_of_nonneg (by omega)]; exact e1
  have e4 : ((32 * wh + s : Nat) : Int).tmod 32 = (s : Int) := by rw [Int.tmod_eq_emod_of_nonneg (by omega)]; exact e2
  have hwh : wh ≤ 400 := by omega
  generalize hF : ((32 * wh + s : Nat) : Int) = F at *
  have hF0 : 0 ≤ F := by omega
  have hF1 : F ≤ 10000 := by omega
  clear hF hn
  have hfin : m * 2 ^ (32 * wh + s) = val B32 (List.replicate wh 0 ++ dig B32 m) * 2 ^ s := by
    have h32 : B32 ^ wh = 2 ^ (32 * wh) := by rw [Nat.pow_mul]; rfl
    rw [val_append, val_replicate, val_dig b32_two, List.length_replicate, Nat.pow_add, h32, Nat.zero_add, Nat.mul_comm (2 ^ (32 * wh)) m, Nat.mul_assoc]
  obtain ⟨A, c, rfl, _, hA⟩ := ha
  have hlow := low_dig b32_two m
  obtain ⟨xs, hxs⟩ : ∃ xs, dig B32 m = xs := ⟨_, rfl⟩
  rw [hxs] at hlow hfin hm hA ⊢
  obtain ⟨L, hL⟩ : ∃ L, xs.length = L := ⟨_, rfl⟩
  rw [hL] at hm ⊢
  obtain ⟨i0, hi, hz0, hz1, hz2⟩ := info_parts info56
  have ho := own_empty w 56
  have hbA := below_new w (.cells #[] 56)
  have hlowz : Low B32 (List.replicate wh 0 ++ xs) := (Low.replicate b32_pos _).append hlow
  have hlz : (List.replicate wh 0 ++ xs).length = wh + L := by simp [hL]
  have htr := fun (w' : World) a (k : OwnLs w.heap.size w' a (List.replicate wh 0 ++ xs)) => refTrim_l a _ w' (k.limbs (by omega)) hlowz (by omega)
  have htl : (dig B32 (val B32 (List.replicate wh 0 ++ xs))).length ≤ 1000 := Nat.le_trans (trim_le b32_two hlowz) (by omega)
  have htm := fun (w' w'' : World) a (k : OwnLs w'.heap.size w'' a (dig B32 (val B32 (List.replicate wh 0 ++ xs)))) => times_any a _ (2 ^ s) w'' (k.limbs (by omega)).is htl (two_pow_32 hs)
  rw [hfin]
  generalize hV : val B32 (List.replicate wh 0 ++ xs) = V at *
  have HO := Lib.hid ho
  have HL := Lib.hid hL
  have HTR := Lib.hid htr
  have HTM := Lib.hid htm
  clear ho hL htr htm hxs hV hfin hlowz htl hlz hlow
  go_enter Try.func50, Try.ntmps50
  go_wp2
  go_loopw [5, 6] (fun out t wr => ∃ k : Nat, k ≤ wh ∧ t = .int .i64 (k : Int) ∧ wr.ownsRow w.heap.size 56 1 out k (ints .u32 (List.replicate k 0)) ∧ Below w.heap.size w wr) (fun _ t _ => wh - (intOf t).toNat)
  case atStart => exact ⟨0, Nat.zero_le _, rfl, HO.out, hbA⟩
  case round =>
    clear hbA HO
    obtain ⟨k, hk, rfl, hown, hbl⟩ := hrel
    by_cases hlt : k < wh
    · have hzs := zeros_snoc k
      have HZ := Lib.hid hzs
      clear hzs hA
      go_wp2_with (at_builtin
                   refine wpList_append_own _ rfl _ _ 35 rfl w.heap.size 56 i0 (.int .u32 0) 1 4 Try.underlying35 hi hz0 hz1 hz2 rfl (by decide) _ (k) _ rfl (hown.alloc _) ⟨wr.heap.size, 0, none⟩ 1 1 [.int .u32 0] rfl rfl (cell_one_new _ _ _) (ints_one .u32 [0]) ?c4 ?c5 (Nat.le_trans hbl.size (by simp)) ?_)
      case c4 => unfold maxLen; omega
      case c5 => omega
      intro v' w8 hown1 hgr1 _
      have hb1 : Below w.heap.size w w8 := (hbl.alloc hbl.size _).grown hgr1 (Nat.le_trans hbl.size (by simp)) (fun g' hg' => by
        rcases hown.2 with ⟨rfl, _⟩ | ⟨g2, cap, cur, rfl, hg2, _⟩
        · simp [Value.ownBlock] at hg'
        · simp [Value.ownBlock] at hg'; omega)
      rw [HZ.out] at hown1
      have H1 := Lib.hid hown1
      clear hown1 hown
      go_wp2
      go_roundw
      case rel => exact ⟨k + 1, by omega, by go_num, H1.out, hb1⟩
      case measure => simp [intOf]; omega
    · obtain rfl : k = wh := by omega
      clear hlt
      have H0 := Lib.hid hown
      clear hown
      go_wp2
      go_loopw [5, 7] (fun out t wr => ∃ j : Nat, j ≤ L ∧ t = .int .i64 (j : Int) ∧ wr.ownsRow w.heap.size 56 1 out (k + j) (ints .u32 (List.replicate k 0 ++ xs.take j)) ∧ Below w.heap.size w wr) (fun _ t _ => L - (intOf t).toNat)
      case atStart => exact ⟨0, Nat.zero_le _, rfl, by simpa using H0.out, hbl⟩
      case round =>
        clear H0 hbl
        obtain ⟨j, hj, rfl, hown, hbl⟩ := hrel
        by_cases hlt : j < L
        · obtain ⟨g, off, x, rfl, hg, hxv, hcx⟩ := (hA.keep hbl).at_ (i := j) (by have := HL.out; omega)
          have hts := take_snoc_ints (List.replicate k 0) hxv
          have HT := Lib.hid hts
          clear hts hxv
          go_wp2_with (at_builtin
                       refine wpList_append_own _ rfl _ _ 35 rfl w.heap.size 56 i0 (.int .u32 0) 1 4 Try.underlying35 hi hz0 hz1 hz2 rfl (by decide) _ (k + j) _ rfl (hown.alloc _) ⟨wr.heap.size, 0, none⟩ 1 1 [.int .u32 (x : Int)] rfl rfl (cell_one_new _ _ _) (ints_one .u32 [x]) ?c4 ?c5 (Nat.le_trans hbl.size (by simp)) ?_)
          case c4 => unfold maxLen; omega
          case c5 => omega
          intro v' w8 hown1 hgr1 _
          have hb1 : Below w.heap.size w w8 := (hbl.alloc hbl.size _).grown hgr1 (Nat.le_trans hbl.size (by simp)) (fun g' hg' => by
            rcases hown.2 with ⟨rfl, _⟩ | ⟨g2, cap, cur, rfl, hg2, _⟩
            · simp [Value.ownBlock] at hg'
            · simp [Value.ownBlock] at hg'; omega)
          rw [HT.out] at hown1
          have H1 := Lib.hid hown1
          clear hown1 hown
          go_wp2
          go_roundw
          case rel => exact ⟨j + 1, by omega, by go_num, H1.out, hb1⟩
          case measure => simp [intOf]; omega
        · obtain rfl : j = L := by omega
          clear hlt
          rw [List.take_of_length_le (by have := HL.out; omega)] at hown
          have hls := ownLs_of (zs := List.replicate k 0 ++ xs) hown (by simp [HL.out])
          have HOWN := Lib.hid hls
          clear hown hls hA
          go_wp2
          go_loop [8, 9] (fun q t => ∃ i p : Nat, i ≤ s ∧ t = .int .i64 (i : Int) ∧ q = .int .u32 (p : Int) ∧ PowIs p i) (fun _ t => s - (intOf t).toNat)
          case atStart => exact ⟨0, 1, Nat.zero_le _, rfl, rfl, rfl⟩
          case round =>
            obtain ⟨i, p, hi', rfl, rfl, hp⟩ := hrel
            by_cases hlt : i < s
            · obtain ⟨q, hq, w1, w2⟩ := powIs_step hp (by omega)
              have HQ := Lib.hid hq
              clear hq hp
              go_wp2
              go_round
              case rel => exact ⟨i + 1, q, by omega, by go_num, rfl, HQ.out⟩
              case measure => simp [intOf]; omega
            · obtain rfl : i = s := by omega
              clear hlt
              obtain rfl : p = 2 ^ i := hp
              have HTM' : ∀ (w' w'' : World) (a : Value), OwnLs w'.heap.size w'' a (dig B32 V) → Calls Try.prog 89 #[a, .int .u32 ((2 ^ i : Nat) : Int)] w'' (LsPost w'' (dig B32 (V * 2 ^ i))) := HTM.out
              generalize 2 ^ i = P at *
              have HTM2 := Lib.hid HTM'
              clear HTM' HTM
              go_wp2_with (first
                | (go_at_call 80; refine (HTR.out _ _ HOWN.out).mono ?_; rintro e w5 ⟨v5, rfl, hv5, hb5⟩)
                | (go_at_call 89; refine (HTM2.out _ _ _ hv5).mono ?_; rintro e w6 ⟨v6, rfl, hv6, hb6⟩))
              go_ret
              have b5 := below_at hbl (Nat.le_refl _) hb5
              exact ⟨_, rfl, hv6.mono b5.size, below_at b5 (Nat.le_refl _) hb6⟩

theorem right_val (m wh s : Nat) : m / 2 ^ (32 * wh + s) = val B32 ((dig B32 m).drop wh) / 2 ^ s := by
  have h32 : B32 ^ wh = 2 ^ (32 * wh) := by rw [Nat.pow_mul]; rfl
  have hv : val B32 ((dig B32 m).drop wh) = m / B32 ^ wh := by
    by_cases hl : wh ≤ (dig B32 m).length
    · have h1 := val_take_drop B32 (dig B32 m) wh hl
      rw [val_dig b32_two] at h1
      have h2 := val_lt B32 _ ((low_dig b32_two m).take wh)
      rw [List.length_take, Nat.min_eq_left hl] at h2
      rw [h1, Nat.add_mul_div_left _ _ (Nat.pow_pos b32_pos), Nat.div_eq_of_lt h2, Nat.zero_add, ← h1]
    · rw [List.drop_of_length_le (by omega)]
      have h1 := dig_len_lt b32_two (n := m)
      have h2 : B32 ^ (dig B32 m).length ≤ B32 ^ wh := Nat.pow_le_pow_right b32_pos (by omega)
      rw [Nat.div_eq_of_lt (by omega)]; rfl
  rw [hv, Nat.pow_add, h32, Nat.div_div_eq_div_mul]
theorem drop_snoc_ints {xs : List Nat} {wh k v : Nat} (h : xs[wh + k]? = some v) : ints .u32 ((xs.drop wh).take k) ++ [.int .u32 (v : Int)] = ints .u32 ((xs.drop wh).take (k + 1)) := by
  have h2 : (xs.drop wh)[k]? = some v := by rw [List.getElem?_drop]; exact h
  obtain ⟨hk, he⟩ := List.getElem?_eq_some_iff.1 h2
  rw [List.take_succ_eq_append_getElem hk, he]; simp [ints]

set_option maxHeartbeats 4000000 in
set_option maxRecDepth 100000 in
theorem right_any (a : Value) (m n : Nat) (w : World) (ha : N32 w a m) (hm : (dig B32 m).length ≤ 500) (hn : n ≤ 10000) : Calls Try.prog 51 #[a, .int .i64 (n : Int)] w (LsPost w (dig B32 (m / 2 ^ n))) := by
  obtain ⟨wh, s, hs, rfl⟩ : ∃ wh s, s < 32 ∧ n = 32 * wh + s := ⟨n / 32, n % 32, Nat.mod_lt _ (by omega), by omega⟩
  have e1 : ((32 * wh + s : Nat) : Int) / 32 = (wh : Int) := by omega
  have e2 : ((32 * wh + s : Nat) : Int) % 32 = (s : Int) := by omega
  have e3 : ((32 * wh + s : Nat) : Int).tdiv 32 = (wh : Int) := by rw [Int.tdiv_eq_ediv_of_nonneg (by omega)]; exact e1
  have e4 : ((32 * wh + s : Nat) : Int).tmod 32 = (s : Int) := by rw [Int.tmod_eq_emod_of_nonneg (by omega)]; exact e2
  have hwh : wh ≤ 400 := by omega
  have hfin := right_val m wh s
  generalize hF : ((32 * wh + s : Nat) : Int) = F at *
  have hF0 : 0 ≤ F := by omega
  have hF1 : F ≤ 10000 := by omega
  clear hF hn
  obtain ⟨A, c, rfl, _, hA⟩ := ha
  have hlow := low_dig b32_two m
  obtain ⟨xs, hxs⟩ : ∃ xs, dig B32 m = xs := ⟨_, rfl⟩
  rw [hxs] at hlow hfin hm hA ⊢
  obtain ⟨L, hL⟩ : ∃ L, xs.length = L := ⟨_, rfl⟩
  rw [hL] at hm ⊢
  obtain ⟨i0, hi, hz0, hz1, hz2⟩ := info_parts info56
  have ho := own_empty w 56
  have hbA := below_new w (.cells #[] 56)
  have hlowz : Low B32 (xs.drop wh) := hlow.drop wh
  have hlz : (xs.drop wh).length ≤ L := by simp [hL]
  have htr := fun (w' : World) a (k : OwnLs w.heap.size w' a (xs.drop wh)) => refTrim_l a _ w' (k.limbs (by omega)) hlowz (by omega)
  have htl : (dig B32 (val B32 (xs.drop wh))).length ≤ 1000 := Nat.le_trans (trim_le b32_two hlowz) (by omega)
  have htm : ∀ (w' w'' : World) (a : Value), OwnLs w'.heap.size w'' a (dig B32 (val B32 (xs.drop wh))) → Calls Try.prog 94 #[a, .int .u32 ((2 ^ s : Nat) : Int)] w'' (OverPost w'' (dig B32 (val B32 (xs.drop wh) / 2 ^ s)) (val B32 (xs.drop wh) % 2 ^ s)) := fun w' w'' a k => by
    obtain ⟨A', c', rfl, _, hA'⟩ := (k.limbs (by omega)).is
    have := refOver_any A' c' _ (2 ^ s) _ w'' hA' (low_dig b32_two _) rfl (by omega) (Nat.pow_pos (by omega)) (two_pow_32 hs)
    rw [val_dig b32_two] at this
    exact this
  rw [hfin]
  generalize hV : val B32 (xs.drop wh) = V at *
  have HO := Lib.hid ho
  have HL := Lib.hid hL
  have HTR := Lib.hid htr
  have HTM := Lib.hid htm
  clear ho hL htr htm hxs hV hfin hlowz htl hlz hlow
  go_enter Try.func51, Try.ntmps51
  go_wp2
  go_loopw [5, 6] (fun out t wr => ∃ k : Nat, (wh + k ≤ L ∨ k = 0) ∧ t = .int .i64 ((wh + k : Nat) : Int) ∧ wr.ownsRow w.heap.size 56 1 out k (ints .u32 ((xs.drop wh).take k)) ∧ Below w.heap.size w wr) (fun _ t _ => L - (intOf t).toNat)
  case atStart => exact ⟨0, .inr rfl, rfl, by simpa [ints] using HO.out, hbA⟩
  case round =>
    clear hbA HO
    obtain ⟨k, hk, rfl, hown, hbl⟩ := hrel
    by_cases hlt : wh + k < L
    · obtain ⟨g, off, x, rfl, hg, hxv, hcx⟩ := (hA.keep hbl).at_ (i := wh + k) (by have := HL.out; omega)
      have hts := drop_snoc_ints hxv
      have HT := Lib.hid hts
      clear hts hxv
      go_wp2_with (at_builtin
                   refine wpList_append_own _ rfl _ _ 35 rfl w.heap.size 56 i0 (.int .u32 0) 1 4 Try.underlying35 hi hz0 hz1 hz2 rfl (by decide) _ (k) _ rfl (hown.alloc _) ⟨wr.heap.size, 0, none⟩ 1 1 [.int .u32 (x : Int)] rfl rfl (cell_one_new _ _ _) (ints_one .u32 [x]) ?c4 ?c5 (Nat.le_trans hbl.size (by simp)) ?_)
      case c4 => unfold maxLen; omega
      case c5 => omega
      intro v' w8 hown1 hgr1 _
      have hb1 : Below w.heap.size w w8 := (hbl.alloc hbl.size _).grown hgr1 (Nat.le_trans hbl.size (by simp)) (fun g' hg' => by
        rcases hown.2 with ⟨rfl, _⟩ | ⟨g2, cap, cur, rfl, hg2, _⟩
        · simp [Value.ownBlock] at hg'
        · simp [Value.ownBlock] at hg'; omega)
      rw [HT.out] at hown1
      have H1 := Lib.hid hown1
      clear hown1 hown
      go_wp2
      go_roundw
      case rel => exact ⟨k + 1, by omega, by go_num, H1.out, hb1⟩
      case measure => simp [intOf]; omega
    · have hls := ownLs_of (zs := xs.drop wh) (n := k) (by rw [List.take_of_length_le (by rw [List.length_drop, HL.out]; omega)] at hown; exact hown) (by rw [List.length_drop, HL.out]; omega)
      have HOWN := Lib.hid hls
      clear hown hls hA
      go_wp2
      go_loop [7, 8] (fun q t => ∃ i p : Nat, i ≤ s ∧ t = .int .i64 (i : Int) ∧ q = .int .u32 (p : Int) ∧ PowIs p i) (fun _ t => s - (intOf t).toNat)
      case atStart => exact ⟨0, 1, Nat.zero_le _, rfl, rfl, rfl⟩
      case round =>
        obtain ⟨i, p, hi', rfl, rfl, hp⟩ := hrel
        by_cases hlt2 : i < s
        · obtain ⟨q, hq, w1, w2⟩ := powIs_step hp (by omega)
          have HQ := Lib.hid hq
          clear hq hp
          go_wp2
          go_round
          case rel => exact ⟨i + 1, q, by omega, by go_num, rfl, HQ.out⟩
          case measure => simp [intOf]; omega
        · obtain rfl : i = s := by omega
          clear hlt2
          obtain rfl : p = 2 ^ i := hp
          have HTM' : ∀ (w' w'' : World) (a : Value), OwnLs w'.heap.size w'' a (dig B32 V) → Calls Try.prog 94 #[a, .int .u32 ((2 ^ i : Nat) : Int)] w'' (OverPost w'' (dig B32 (V / 2 ^ i)) (V % 2 ^ i)) := HTM.out
          generalize 2 ^ i = P at *
          have HTM2 := Lib.hid HTM'
          clear HTM' HTM
          go_wp2_with (first
            | (go_at_call 80; refine (HTR.out _ _ HOWN.out).mono ?_; rintro e w5 ⟨v5, rfl, hv5, hb5⟩)
            | (go_at_call 94; refine (HTM2.out _ _ _ hv5).mono ?_; rintro e w6 ⟨v6, rfl, hv6, hb6⟩))
          go_ret
          have b5 := below_at hbl (Nat.le_refl _) hb5
          exact ⟨_, rfl, hv6.mono b5.size, below_at b5 (Nat.le_refl _) hb6⟩
end Go.Proofs.Ytaegkhdkhgemmaa

namespace Go.Proofs.Ytaegkhdkhgemmaa
open Go.RowKit Num

set_option maxHeartbeats 1000000 in
set_option maxRecDepth 100000 in
theorem root_bad (a : Value) (n : Int) (xs : List Nat) (w : World) (ha : Limbs w a xs) (h0 : chk xs ≠ 0) : Calls Try.prog 56 #[a, .int .i64 n] w (NatErr w (chk xs)) := by
  have hc := checkAll_any w.heap.size 1 1 _ _ (nats1 ha) rfl (by omega)
  rw [chkAll1] at hc
  generalize chk xs = r at *
  have hbA := below_new w (.cells #[a] 23)
  have hq : (r != 0) = true := by simp [h0]
  have HC := Lib.hid hc
  have H0 := Lib.hid h0
  obtain ⟨A, c, rfl, _⟩ := ha
  clear hc h0
  generalize xs.length = L at *
  go_enter Try.func56, Try.ntmps56
  go_wp2_with (go_at_call 75; refine HC.out.mono ?_; rintro e w1 ⟨rfl, rfl⟩)
  go_ret2
  exact ⟨rfl, hbA⟩

set_option maxHeartbeats 1000000 in
set_option maxRecDepth 100000 in
theorem root_arg (a : Value) (m : Nat) (n : Int) (w : World) (ha : N32 w a m) (hl : (dig B32 m).length ≤ 262144) (hn : n < 1) : Calls Try.prog 56 #[a, .int .i64 n] w (NatErr w 1) := by
  have hc := checkAll_any w.heap.size 1 1 _ _ (nats1 (Limbs.num ha (by omega))) rfl (by omega)
  rw [chkAll1, chk_dig hl] at hc
  have hbA := below_new w (.cells #[a] 23)
  have HC := Lib.hid hc
  obtain ⟨A, c, rfl, _⟩ := ha
  clear hc
  generalize (dig B32 m).length = L at *
  go_enter Try.func56, Try.ntmps56
  go_wp2_with (go_at_call 75; refine HC.out.mono ?_; rintro e w1 ⟨rfl, rfl⟩)
  go_ret2
  exact ⟨rfl, hbA⟩

theorem ownL_nil' (B : Nat) (w : World) : OwnL B w (.slice none 0 0) 0 := by
  unfold OwnL
  rw [dig_zero]
  exact ⟨rfl, .inl ⟨rfl, rfl⟩⟩

set_option maxHeartbeats 1000000 in
set_option maxRecDepth 100000 in
theorem root_zero (a : Value) (m : Nat) (n : Int) (w : World) (ha : N32 w a m) (h0 : m = 0) (hn : 1 ≤ n) : Calls Try.prog 56 #[a, .int .i64 n] w (NatOk w 0) := by
  have hl : (dig B32 m).length ≤ 262144 := by rw [h0, dig_zero]; simp
  have hc := checkAll_any w.heap.size 1 1 _ _ (nats1 (Limbs.num ha (by omega))) rfl (by omega)
  rw [chkAll1, chk_dig hl] at hc
  have hbA := below_new w (.cells #[a] 23)
  have HC := Lib.hid hc
  have hz : (dig B32 m).length = 0 := by rw [h0, dig_zero]; rfl
  obtain ⟨A, c, rfl, _⟩ := ha
  rw [hz] at HC hbA ⊢
  clear hc hz h0 hl
  go_enter Try.func56, Try.ntmps56
  go_wp2_with (go_at_call 75; refine HC.out.mono ?_; rintro e w1 ⟨rfl, rfl⟩)
  go_ret2
  exact ⟨_, rfl, ownL_nil' _ _, hbA⟩

set_option maxHeartbeats 1000000 in
set_option maxRecDepth 100000 in
theorem root_ok (a : Value) (m n r : Nat) (w : World) (ha : N32 w a m) (h0 : 0 < m) (hn : 1 ≤ n) (hb : nbits m ≤ 8000) (hr : IsRoot n m r) : Calls Try.prog 56 #[a, .int .i64 (n : Int)] w (NatOk w r) := by
  have hwl : (dig B64 m).length ≤ 125 := len_of_bits (by omega)
  have hl : (dig B32 m).length ≤ 262144 := by
    have : (dig B32 m).length ≤ 250 := dig_len_le b32_two (by
      have g : ∀ K, nbits m ≤ 32 * K → m < B32 ^ K := fun K hK => by
        have e : B32 ^ K = 2 ^ (32 * K) := by rw [Nat.pow_mul]; rfl
        rw [e]; exact lt_of_nbits hK
      exact g 250 (by omega))
    omega
  have hc := checkAll_any w.heap.size 1 1 _ _ (nats1 (Limbs.num ha (by omega))) rfl (by omega)
  rw [chkAll1, chk_dig hl] at hc
  have hbA := below_new w (.cells #[a] 23)
  have HC := Lib.hid hc
  have hf := fromNat_any a m _ (ha.keep hbA) (by omega)
  have hrt := fun v w' (h : W64 w' v m) => root_any v m n r w' h h0 hn hb hr
  have hrm : r ≤ m := Nat.le_trans (Nat.le_self_pow (by omega) r) hr.1
  have hrl : (dig B64 r).length ≤ 125 := Nat.le_trans (lenm hrm) hwl
  have hnt := fun v w' (h : W64 w' v r) => nat_any v r w' h (by omega)
  have hpos : 0 < (dig B32 m).length := by
    rcases Nat.eq_zero_or_pos (dig B32 m).length with h | h
    · have := (dig_nil_iff b32_two).1 (List.eq_nil_of_length_eq_zero h); omega
    · exact h
  have HF := Lib.hid hf
  have HRT := Lib.hid hrt
  have HNT := Lib.hid hnt
  clear hf hrt hnt
  obtain ⟨A, c, rfl, _⟩ := ha
  clear hc hwl hrm hrl hr
  generalize (dig B32 m).length = L at *
  go_enter Try.func56, Try.ntmps56
  go_wp2_with (fail)
  refine (HC.out).mono ?_
  rintro e w1 ⟨rfl, rfl⟩
  go_wp2_with (fail)
  refine (HF.out).mono ?_
  rintro e w2 ⟨v1, rfl, hv1, hb2⟩
  have b2 := below_at hbA (Nat.le_refl _) hb2
  have k1_2 := hv1.is
  go_wp2_with (fail)
  refine (HRT.out _ _ k1_2).mono ?_
  rintro e w3 ⟨v2, rfl, hv2, hb3⟩
  have b3 := below_at b2 (Nat.le_refl _) hb3
  have k2_3 := hv2
  go_wp2_with (fail)
  refine (HNT.out _ _ k2_3).mono ?_
  rintro e w4 ⟨v3, rfl, hv3, hb4⟩
  have b4 := below_at b3 (Nat.le_refl _) hb4
  go_wp2
  go_ret2
  exact ⟨_, rfl, hv3.mono b3.size, b4⟩

/-- The bits of the root from k on are found. -/
def RtSt (m n k r : Nat) : Prop := ∃ q, r = q * 2 ^ k ∧ r ^ n ≤ m ∧ m < (r + 2 ^ k) ^ n
theorem RtSt.step {m n i r : Nat} (h : RtSt m n (i + 1) r) : ((r + 2 ^ i) ^ n ≤ m → RtSt m n i (r + 2 ^ i)) ∧ (m < (r + 2 ^ i) ^ n → RtSt m n i r) := by
  obtain ⟨q, h1, h2, h3⟩ := h
  have e : r + 2 ^ i + 2 ^ i = r + 2 ^ (i + 1) := by rw [Nat.pow_succ]; omega
  refine ⟨fun h4 => ⟨q * 2 + 1, ?_, h4, by rw [e]; exact h3⟩, fun h4 => ⟨q * 2, ?_, h2, h4⟩⟩
  · rw [h1, Nat.pow_succ]; grind
  · rw [h1, Nat.pow_succ]; grind
theorem RtSt.fin {m n r : Nat} (h : RtSt m n 0 r) : IsRoot n m r := by
  obtain ⟨q, _, h2, h3⟩ := h
  exact ⟨h2, by simpa using h3⟩
theorem len32_bits {n k : Nat} (h : nbits n ≤ 32 * k) : (dig B32 n).length ≤ k := dig_len_le b32_two (by
  have e : B32 ^ k = 2 ^ (32 * k) := by rw [Nat.pow_mul]; rfl
  rw [e]; exact lt_of_nbits h)
theorem n32_empty (w : World) : N32 (w.alloc (.cells #[] 56)) (.slice (some ⟨w.heap.size, 0, none⟩) 0 0) 0 := by
  refine ⟨some ⟨w.heap.size, 0, none⟩, 0, ?_, ?_, ?_⟩ <;> rw [dig_zero]
  · rfl
  · exact Nat.le_refl _
  · exact Nums.nil

set_option maxHeartbeats 1000000 in
set_option maxRecDepth 100000 in
theorem refRoot_zero (a : Value) (m : Nat) (n : Int) (w : World) (ha : N32 w a m) (h0 : m = 0) : Calls Try.prog 57 #[a, .int .i64 n] w (N32Post w 0) := by
  have hz : (dig B32 m).length = 0 := by rw [h0, dig_zero]; rfl
  obtain ⟨A, c, rfl, _⟩ := ha
  rw [hz]
  clear hz h0
  go_enter Try.func57, Try.ntmps57
  go_wp2
  go_ret
  exact ⟨_, rfl, n32_empty w, below_new w _⟩
set_option maxHeartbeats 1000000 in
set_option maxRecDepth 100000 in
theorem refRoot_one (a : Value) (m : Nat) (n : Int) (w : World) (ha : N32 w a m) (h0 : 0 < m) (hl : (dig B32 m).length ≤ 1000) (hn : (nbits m : Int) ≤ n) : Calls Try.prog 57 #[a, .int .i64 n] w (N32Post w 1) := by
  have hb := refBits_any a m w ha (by omega)
  have hof := refOf_any 1 (by decide) w
  have hl1 : (dig B32 1).length ≤ 2 := len_u64 (by decide)
  have hpos : 0 < (dig B32 m).length := by
    rcases Nat.eq_zero_or_pos (dig B32 m).length with h | h
    · have := (dig_nil_iff b32_two).1 (List.eq_nil_of_length_eq_zero h); omega
    · exact h
  have HB := Lib.hid hb
  have HOF := Lib.hid hof
  clear hb hof
  obtain ⟨A, c, rfl, _⟩ := ha
  generalize (dig B32 m).length = L at *
  generalize nbits m = sz at *
  go_enter Try.func57, Try.ntmps57
  go_wp2_with (first
    | (go_at_call 36; refine HB.out.mono ?_; rintro e w1 ⟨rfl, rfl⟩)
    | (go_at_call 34; refine HOF.out.mono ?_; rintro e w2 ⟨v2, rfl, hv2, hb2⟩))
  go_ret
  exact ⟨_, rfl, (hv2.limbs (by omega)).is, hb2⟩
set_option maxHeartbeats 4000000 in
set_option maxRecDepth 100000 in
theorem refRoot_any (a : Value) (m n : Nat) (w : World) (ha : N32 w a m) (h0 : 0 < m) (hb : nbits m ≤ 1600) (hn : 1 ≤ n) (hns : n < nbits m) : Calls Try.prog 57 #[a, .int .i64 (n : Int)] w fun e w' => ∃ r, IsRoot n m r ∧ N32Post w r e w' := by
  have hl : (dig B32 m).length ≤ 50 := len32_bits (by omega)
  have hbits := fun w' (h : N32 w' a m) => refBits_any a m w' h (by omega)
  have hof := fun w' => refOf_any 1 (by decide) w'
  have hl1 : (dig B32 1).length ≤ 2 := len_u64 (by decide)
  have hpos : 0 < (dig B32 m).length := by
    rcases Nat.eq_zero_or_pos (dig B32 m).length with h | h
    · have := (dig_nil_iff b32_two).1 (List.eq_nil_of_length_eq_zero h); omega
    · exact h
  obtain ⟨r0, hr0⟩ := root_exists n m hn
  obtain ⟨D, hD, k1, k2, k3, k4, k5⟩ := root_numbers hr0 hn hns
  have hle := fun v w' (i : Nat) (h : N32 w' v 1) (hi : i ≤ 2000) => left_any v 1 i w' h (by omega) (by omega)
  have had := fun u v w' (x y : Nat) (h : N32 w' u x) (k : N32 w' v y) (h1 : (dig B32 x).length ≤ 1000) (h2 : (dig B32 y).length ≤ 1000) => refAdd_call u v x y w' h k (by omega) (by omega)
  have hpl : ∀ x, x < 2 ^ D → ∀ j, j ≤ n → (dig B32 (x ^ j)).length ≤ 200 := fun x hx j hj => by
    refine len32_bits (Nat.le_trans (nbits_le (k := D * n) ?_) ?_)
    · rw [Nat.pow_mul]
      have h1 : x ^ j ≤ (2 ^ D - 1) ^ n := Nat.le_trans (Nat.pow_le_pow_left (by omega) j) (Nat.pow_le_pow_right (by have := Nat.pow_le_pow_right (n := 2) (by omega) (show 1 ≤ D by omega); omega) hj)
      exact Nat.lt_of_le_of_lt h1 (Nat.pow_lt_pow_left (by have := Nat.two_pow_pos D; omega) (by omega))
    · have : D * n = n * (D - 1) + n := by
        obtain ⟨d, rfl⟩ : ∃ d, D = d + 1 := ⟨D - 1, by omega⟩
        rw [Nat.add_sub_cancel, Nat.add_mul, Nat.one_mul, Nat.mul_comm]
      omega
  have hpw := fun v w' (x : Nat) (h : N32 w' v x) (hx : x < 2 ^ D) => refPow_any v x n w' h (by have := hpl x hx 1 (by omega); rw [Nat.pow_one] at this; omega) (by omega) (fun j hj => Nat.le_trans (hpl x hx j hj) (by omega))
  have hcm := fun v w' (x : Nat) (h : N32 w' v x) (k : N32 w' a m) (h1 : (dig B32 x).length ≤ 1000) => refCmp_call v a x m w' h k (by omega) (by omega)
  have hpli : ∀ i, i < D → (dig B32 (2 ^ i)).length ≤ 200 := fun i hi => by
    have := hpl (2 ^ i) (Nat.pow_lt_pow_right (by omega) hi) 1 (by omega); rwa [Nat.pow_one] at this
  have hst0 : RtSt m n D 0 := by
    refine ⟨0, by simp, by rw [Nat.zero_pow (by omega)]; omega, ?_⟩
    rw [Nat.zero_add]
    exact Nat.lt_of_lt_of_le hr0.2 (Nat.pow_le_pow_left k2 n)
  have hemp := n32_empty w
  have hbA := below_new w (.cells #[] 56)
  have hka := ha.keep hbA
  have HA := Lib.hid ha
  have HBITS := Lib.hid hbits
  have HOF := Lib.hid hof
  have HLE := Lib.hid hle
  have HAD := Lib.hid had
  have HPL := Lib.hid hpl
  have HPW := Lib.hid hpw
  have HCM := Lib.hid hcm
  have HPLI := Lib.hid hpli
  have HST0 := Lib.hid hst0
  have HEMP := Lib.hid hemp
  have HKA := Lib.hid hka
  clear hbits hof hle had hpl hpw hcm hpli hst0 hemp hka
  obtain ⟨A, c, rfl, _⟩ := ha
  obtain ⟨sz, hsz⟩ : ∃ sz, nbits m = sz := ⟨_, rfl⟩
  rw [hsz] at HBITS hD hns hb k5
  have hD1 : ((sz : Int) - 1) / (n : Int) = (D : Int) - 1 := by
    have : ((sz - 1 : Nat) : Int) / (n : Int) = (((sz - 1) / n : Nat) : Int) := (Int.natCast_ediv _ _).symm
    have e : (sz : Int) - 1 = ((sz - 1 : Nat) : Int) := by omega
    rw [e, this]; omega
  obtain ⟨sm, hsm⟩ : ∃ sm, sz - 1 = sm := ⟨_, rfl⟩
  have hsI : (sz : Int) - 1 = (sm : Int) := by omega
  rw [hsI] at hD1
  have hD2 : (sm : Int).tdiv (n : Int) = (D : Int) - 1 := by rw [Int.tdiv_eq_ediv_of_nonneg (by omega)]; exact hD1
  have hn0 : ((n : Int) == 0) = false := by simp; omega
  have hns' : ¬ sz ≤ n := by omega
  clear hsz hsm hD hr0 k1 k2 k3 hl
  generalize (dig B32 m).length = LL at *
  go_enter Try.func57, Try.ntmps57
  go_wp2_with (fail)
  refine (HBITS.out _ HA.out).mono ?_
  rintro e w1 ⟨rfl, rfl⟩
  go_wp2_with (fail)
  refine (HBITS.out _ HKA.out).mono ?_
  rintro e w1 ⟨rfl, rfl⟩
  go_wp2
  go_loopw [5, 6] (fun rv t wr => ∃ (k r : Nat), k ≤ D ∧ t = .int .i64 ((k : Int) - 1) ∧ RtSt m n k r ∧ r + 2 ^ k ≤ 2 ^ D ∧ N32 wr rv r ∧ Below w.heap.size w wr) (fun _ t _ => (intOf t + 1).toNat)
  case atStart => exact ⟨D, 0, Nat.le_refl _, rfl, HST0.out, by omega, HEMP.out, hbA⟩
  case round =>
    clear hbA HKA HEMP HST0 HBITS
    obtain ⟨k, r, hk, rfl, hst, hrD, hr, hbl⟩ := hrel
    by_cases hk0 : k = 0
    · subst hk0
      have hfin := hst.fin
      have HFIN := Lib.hid hfin
      clear hfin hst
      go_wp2
      go_ret
      exact ⟨r, HFIN.out, _, rfl, hr, hbl⟩
    · obtain ⟨i, rfl⟩ : ∃ i, k = i + 1 := ⟨k - 1, by omega⟩
      have hrx : r + 2 ^ i < 2 ^ D := by
        have : 2 ^ (i + 1) = 2 ^ i + 2 ^ i := by rw [Nat.pow_succ]; omega
        have := Nat.two_pow_pos i
        omega
      have hrD2 : r + 2 ^ i + 2 ^ i ≤ 2 ^ D := by
        have : 2 ^ (i + 1) = 2 ^ i + 2 ^ i := by rw [Nat.pow_succ]; omega
        omega
      obtain ⟨s1, s2⟩ := hst.step
      have li := HPLI.out i (by omega)
      have lr : (dig B32 r).length ≤ 200 := by have := HPL.out r (Nat.lt_of_le_of_lt (Nat.le_add_right _ _) hrx) 1 (by omega); rwa [Nat.pow_one] at this
      have lx : (dig B32 (r + 2 ^ i)).length ≤ 200 := by have := HPL.out _ hrx 1 (by omega); rwa [Nat.pow_one] at this
      have lp := HPL.out _ hrx n (Nat.le_refl _)
      have hpw1 := fun v w' (h : N32 w' v (r + 2 ^ i)) => HPW.out v w' _ h hrx
      have hle1 := fun v w' (h : N32 w' v 1) => HLE.out v w' i h (by omega)
      rw [Nat.one_mul] at hle1
      have HRX := Lib.hid hrx
      have HRD := Lib.hid hrD
      have HRD2 := Lib.hid hrD2
      clear hst hrx hrD hrD2
      obtain ⟨p, hp⟩ : ∃ p, 2 ^ i = p := ⟨_, rfl⟩
      rw [hp] at s1 s2 li lx lp hpw1 hle1
      have ka := HA.out.keep hbl
      obtain ⟨x, hx⟩ : ∃ x, r + p = x := ⟨_, rfl⟩
      rw [hx] at s1 s2 lx lp hpw1
      by_cases hc : x ^ n ≤ m
      · have hcc : cmpN (x ^ n) m ≤ 0 := by
          rcases Nat.lt_or_ge (x ^ n) m with h | h
          · rw [cmpN_lt h]; omega
          · rw [show x ^ n = m from Nat.le_antisymm hc h, cmpN_eq]; omega
        have hcm1 := fun v w' (h : N32 w' v (x ^ n)) (k : N32 w' (.slice A LL c) m) => HCM.out v w' _ h k (by omega)
        generalize cmpN (x ^ n) m = cc at *
        have hnew := s1 hc
        have HNEW := Lib.hid hnew
        have HX := Lib.hid hx
        have HP := Lib.hid hp
        have HPW1 := Lib.hid hpw1
        have HLE1 := Lib.hid hle1
        have HCM1 := Lib.hid hcm1
        clear s1 s2 hnew hc hx hp hpw1 hle1 hcm1
        go_wp2_with (fail)
        refine (HOF.out _).mono ?_
        rintro e w1 ⟨v1, rfl, hv1, hb1⟩
        have b1 := below_at hbl (Nat.le_refl _) hb1
        have ka_1 := ka.keep hb1
        have kr_1 := hr.keep hb1
        have k1_1 := (hv1.limbs (by omega)).is
        go_wp2_with (fail)
        refine (HLE1.out _ _ k1_1).mono ?_
        rintro e w2 ⟨v2, rfl, hv2, hb2⟩
        have b2 := below_at b1 (Nat.le_refl _) hb2
        have ka_2 := ka_1.keep hb2
        have kr_2 := kr_1.keep hb2
        have k2_2 := (hv2.limbs (by omega)).is
        go_wp2_with (fail)
        refine (HAD.out _ _ _ _ _ kr_2 k2_2 (by omega) (by omega)).mono ?_
        rintro e w3 ⟨v3, rfl, hv3, hb3⟩
        have b3 := below_at b2 (Nat.le_refl _) hb3
        have ka_3 := ka_2.keep hb3
        have kr_3 := kr_2.keep hb3
        have k3_3 := (by rw [HX.out] at hv3; exact (hv3.limbs (by omega)).is : N32 w3 v3 x)
        go_wp2_with (fail)
        refine (HPW1.out _ _ k3_3).mono ?_
        rintro e w4 ⟨v4, rfl, hv4, hb4⟩
        have b4 := below_at b3 (Nat.le_refl _) hb4
        have ka_4 := ka_3.keep hb4
        have kr_4 := kr_3.keep hb4
        have k3_4 := k3_3.keep hb4
        have k4_4 := hv4
        go_wp2_with (fail)
        refine (HCM1.out _ _ k4_4 ka_4).mono ?_
        rintro e w5 ⟨rfl, hb5⟩
        have b5 := below_at b4 (Nat.le_refl _) hb5
        have kr_5 := kr_4.keep hb5
        have k3_5 := k3_4.keep hb5
        go_wp2
        go_roundw
        case rel => exact ⟨i, x, by omega, by first | rfl | go_num, HNEW.out, by rw [← HX.out, ← HP.out]; exact HRD2.out, k3_5, b5⟩
        case measure => simp [intOf]
      · have hlt : m < x ^ n := by omega
        have hcm1 := fun v w' (h : N32 w' v (x ^ n)) (k : N32 w' (.slice A LL c) m) => HCM.out v w' _ h k (by omega)
        rw [cmpN_gt hlt] at hcm1
        have hnew := s2 hlt
        have HNEW := Lib.hid hnew
        have HX := Lib.hid hx
        have HP := Lib.hid hp
        have HPW1 := Lib.hid hpw1
        have HLE1 := Lib.hid hle1
        have HCM1 := Lib.hid hcm1
        clear s1 s2 hnew hc hx hp hpw1 hle1 hcm1 hlt
        go_wp2_with (fail)
        refine (HOF.out _).mono ?_
        rintro e w1 ⟨v1, rfl, hv1, hb1⟩
        have b1 := below_at hbl (Nat.le_refl _) hb1
        have ka_1 := ka.keep hb1
        have kr_1 := hr.keep hb1
        have k1_1 := (hv1.limbs (by omega)).is
        go_wp2_with (fail)
        refine (HLE1.out _ _ k1_1).mono ?_
        rintro e w2 ⟨v2, rfl, hv2, hb2⟩
        have b2 := below_at b1 (Nat.le_refl _) hb2
        have ka_2 := ka_1.keep hb2
        have kr_2 := kr_1.keep hb2
        have k2_2 := (hv2.limbs (by omega)).is
        go_wp2_with (fail)
        refine (HAD.out _ _ _ _ _ kr_2 k2_2 (by omega) (by omega)).mono ?_
        rintro e w3 ⟨v3, rfl, hv3, hb3⟩
        have b3 := below_at b2 (Nat.le_refl _) hb3
        have ka_3 := ka_2.keep hb3
        have kr_3 := kr_2.keep hb3
        have k3_3 := (by rw [HX.out] at hv3; exact (hv3.limbs (by omega)).is : N32 w3 v3 x)
        go_wp2_with (fail)
        refine (HPW1.out _ _ k3_3).mono ?_
        rintro e w4 ⟨v4, rfl, hv4, hb4⟩
        have b4 := below_at b3 (Nat.le_refl _) hb4
        have ka_4 := ka_3.keep hb4
        have kr_4 := kr_3.keep hb4
        have k3_4 := k3_3.keep hb4
        have k4_4 := hv4
        go_wp2_with (fail)
        refine (HCM1.out _ _ k4_4 ka_4).mono ?_
        rintro e w5 ⟨rfl, hb5⟩
        have b5 := below_at b4 (Nat.le_refl _) hb5
        have kr_5 := kr_4.keep hb5
        have k3_5 := k3_4.keep hb5
        go_wp2
        go_roundw
        case rel => exact ⟨i, r, by omega, by first | rfl | go_num, HNEW.out, by have h1 := HRX.out; have h2 := HP.out; omega, kr_5, b5⟩
        case measure => simp [intOf]
end Go.Proofs.Ytaegkhdkhgemmaa

namespace Go.Proofs.Ytaegkhdkhgemmaa
open Go.RowKit Num

set_option maxHeartbeats 1000000 in
set_option maxRecDepth 100000 in
theorem shift_bad (a : Value) (n : Int) (xs : List Nat) (w : World) (ha : Limbs w a xs) (h0 : chk xs ≠ 0) : Calls Try.prog 49 #[a, .int .i64 n] w (NatErr w (chk xs)) := by
  have hc := checkAll_any w.heap.size 1 1 _ _ (nats1 ha) rfl (by omega)
  rw [chkAll1] at hc
  generalize chk xs = r at *
  have hbA := below_new w (.cells #[a] 23)
  have hq : (r != 0) = true := by simp [h0]
  have HC := Lib.hid hc
  have H0 := Lib.hid h0
  obtain ⟨A, c, rfl, _⟩ := ha
  clear hc h0
  generalize xs.length = L at *
  go_enter Try.func49, Try.ntmps49
  go_wp2_with (go_at_call 75; refine HC.out.mono ?_; rintro e w1 ⟨rfl, rfl⟩)
  go_ret2
  exact ⟨rfl, hbA⟩

theorem ownL_nil (B : Nat) (w : World) : OwnL B w (.slice none 0 0) 0 := by
  unfold OwnL
  rw [dig_zero]
  exact ⟨rfl, .inl ⟨rfl, rfl⟩⟩
set_option maxHeartbeats 1000000 in
set_option maxRecDepth 100000 in
theorem shift_zero (a : Value) (m : Nat) (n : Int) (w : World) (ha : N32 w a m) (hl : (dig B32 m).length ≤ 262144) (h0 : m = 0) : Calls Try.prog 49 #[a, .int .i64 n] w (NatOk w 0) := by
  have hc := checkAll_any w.heap.size 1 1 _ _ (nats1 (Limbs.num ha (by omega))) rfl (by omega)
  rw [chkAll1, chk_dig hl] at hc
  have hbA := below_new w (.cells #[a] 23)
  have hf := fromNat_any a m _ (ha.keep hbA) (by omega)
  have lm := words_le (n := m) (K := 131072) hl
  have hbt := fun v w' (h : W64 w' v m) => bits_call v m w' h (by omega)
  have hz : nbits m = 0 := by rw [h0]; rfl
  rw [hz] at hbt
  have HC := Lib.hid hc
  have HF := Lib.hid hf
  have HBT := Lib.hid hbt
  obtain ⟨A, c, rfl, _⟩ := ha
  clear hc hf hbt lm
  clear h0 hz hl
  generalize (dig B32 m).length = L at *
  go_enter Try.func49, Try.ntmps49
  go_wp2_with (fail)
  refine (HC.out).mono ?_
  rintro e w1 ⟨rfl, rfl⟩
  go_wp2_with (fail)
  refine (HF.out).mono ?_
  rintro e w2 ⟨v1, rfl, hv1, hb2⟩
  have b2 := below_at hbA (Nat.le_refl _) hb2
  have k1_2 := hv1.is
  go_wp2_with (fail)
  refine (HBT.out _ _ k1_2).mono ?_
  rintro e w3 ⟨rfl, rfl⟩
  go_wp2
  go_ret2
  exact ⟨_, rfl, ownL_nil _ _, b2⟩

set_option maxHeartbeats 1000000 in
set_option maxRecDepth 100000 in
theorem shift_low (a : Value) (m : Nat) (n : Int) (w : World) (ha : N32 w a m) (hl : (dig B32 m).length ≤ 262144) (h0 : m ≠ 0) (hn : n ≤ -(nbits m : Int)) : Calls Try.prog 49 #[a, .int .i64 n] w (NatOk w 0) := by
  have hc := checkAll_any w.heap.size 1 1 _ _ (nats1 (Limbs.num ha (by omega))) rfl (by omega)
  rw [chkAll1, chk_dig hl] at hc
  have hbA := below_new w (.cells #[a] 23)
  have hf := fromNat_any a m _ (ha.keep hbA) (by omega)
  have lm := words_le (n := m) (K := 131072) hl
  have hbt := fun v w' (h : W64 w' v m) => bits_call v m w' h (by omega)
  have h1 := nbits_ne h0
  have h2 := len_bits_le (n := m) (k := 131072) (words_le (K := 131072) hl)
  generalize nbits m = r at *
  have hq : ((r : Int) == 0) = false := by simp; omega
  have hd : decide (n ≤ -(r : Int)) = true := by simp [hn]
  have HC := Lib.hid hc
  have HF := Lib.hid hf
  have HBT := Lib.hid hbt
  obtain ⟨A, c, rfl, _⟩ := ha
  clear hc hf hbt lm
  clear h0 hl
  generalize (dig B32 m).length = L at *
  go_enter Try.func49, Try.ntmps49
  go_wp2_with (fail)
  refine (HC.out).mono ?_
  rintro e w1 ⟨rfl, rfl⟩
  go_wp2_with (fail)
  refine (HF.out).mono ?_
  rintro e w2 ⟨v1, rfl, hv1, hb2⟩
  have b2 := below_at hbA (Nat.le_refl _) hb2
  have k1_2 := hv1.is
  go_wp2_with (fail)
  refine (HBT.out _ _ k1_2).mono ?_
  rintro e w3 ⟨rfl, rfl⟩
  go_wp2
  go_ret2
  exact ⟨_, rfl, ownL_nil _ _, b2⟩

set_option maxHeartbeats 1000000 in
set_option maxRecDepth 100000 in
theorem shift_long (a : Value) (m : Nat) (n : Int) (w : World) (ha : N32 w a m) (hl : (dig B32 m).length ≤ 262144) (h0 : m ≠ 0) (hn : 8388608 - (nbits m : Int) < n) : Calls Try.prog 49 #[a, .int .i64 n] w (NatErr w 3) := by
  have hc := checkAll_any w.heap.size 1 1 _ _ (nats1 (Limbs.num ha (by omega))) rfl (by omega)
  rw [chkAll1, chk_dig hl] at hc
  have hbA := below_new w (.cells #[a] 23)
  have hf := fromNat_any a m _ (ha.keep hbA) (by omega)
  have lm := words_le (n := m) (K := 131072) hl
  have hbt := fun v w' (h : W64 w' v m) => bits_call v m w' h (by omega)
  have h1 := nbits_ne h0
  have h2 := len_bits_le (n := m) (k := 131072) (words_le (K := 131072) hl)
  generalize nbits m = r at *
  have hq : ((r : Int) == 0) = false := by simp; omega
  have hd : ¬ n ≤ -(r : Int) := by omega
  have HC := Lib.hid hc
  have HF := Lib.hid hf
  have HBT := Lib.hid hbt
  obtain ⟨A, c, rfl, _⟩ := ha
  clear hc hf hbt lm
  clear h0 hl
  generalize (dig B32 m).length = L at *
  go_enter Try.func49, Try.ntmps49
  go_wp2_with (fail)
  refine (HC.out).mono ?_
  rintro e w1 ⟨rfl, rfl⟩
  go_wp2_with (fail)
  refine (HF.out).mono ?_
  rintro e w2 ⟨v1, rfl, hv1, hb2⟩
  have b2 := below_at hbA (Nat.le_refl _) hb2
  have k1_2 := hv1.is
  go_wp2_with (fail)
  refine (HBT.out _ _ k1_2).mono ?_
  rintro e w3 ⟨rfl, rfl⟩
  go_wp2
  go_ret2
  exact ⟨rfl, b2⟩

set_option maxHeartbeats 1000000 in
set_option maxRecDepth 100000 in
theorem shift_down (a : Value) (m : Nat) (k : Nat) (w : World) (ha : N32 w a m) (hl : (dig B32 m).length ≤ 262144) (h0 : m ≠ 0) (hk : 1 ≤ k) (hn : k < nbits m) : Calls Try.prog 49 #[a, .int .i64 (-(k : Int))] w (NatOk w (m / 2 ^ k)) := by
  have hc := checkAll_any w.heap.size 1 1 _ _ (nats1 (Limbs.num ha (by omega))) rfl (by omega)
  rw [chkAll1, chk_dig hl] at hc
  have hbA := below_new w (.cells #[a] 23)
  have hf := fromNat_any a m _ (ha.keep hbA) (by omega)
  have lm := words_le (n := m) (K := 131072) hl
  have hbt := fun v w' (h : W64 w' v m) => bits_call v m w' h (by omega)
  have h1 := nbits_ne h0
  have h2 := len_bits_le (n := m) (k := 131072) (words_le (K := 131072) hl)
  have hsh := fun v w' (h : W64 w' v m) => shiftRight_any v m k w' h (by omega) (by omega)
  have hlq : (dig B64 (m / 2 ^ k)).length ≤ 131072 := Nat.le_trans (dig_len_mono (Nat.div_le_self _ _)) (by omega)
  have hnt := fun v w' (h : W64 w' v (m / 2 ^ k)) => nat_any v _ w' h (by omega)
  have HSH := Lib.hid hsh
  have HNT := Lib.hid hnt
  generalize nbits m = r at *
  have hq : ((r : Int) == 0) = false := by simp; omega
  have hd : ¬ (-(k : Int)) ≤ -(r : Int) := by omega
  have HC := Lib.hid hc
  have HF := Lib.hid hf
  have HBT := Lib.hid hbt
  obtain ⟨A, c, rfl, _⟩ := ha
  clear hc hf hbt lm
  clear h0 hl hlq hsh hnt
  generalize (dig B32 m).length = L at *
  go_enter Try.func49, Try.ntmps49
  go_wp2_with (fail)
  refine (HC.out).mono ?_
  rintro e w1 ⟨rfl, rfl⟩
  go_wp2_with (fail)
  refine (HF.out).mono ?_
  rintro e w2 ⟨v1, rfl, hv1, hb2⟩
  have b2 := below_at hbA (Nat.le_refl _) hb2
  have k1_2 := hv1.is
  go_wp2_with (fail)
  refine (HBT.out _ _ k1_2).mono ?_
  rintro e w3 ⟨rfl, rfl⟩
  go_wp2_with (fail)
  refine (HSH.out _ _ k1_2).mono ?_
  rintro e w4 ⟨v2, rfl, hv2, hb4⟩
  have b4 := below_at b2 (Nat.le_refl _) hb4
  have k1_4 := k1_2.keep hb4
  have k2_4 := hv2
  go_wp2_with (fail)
  refine (HNT.out _ _ k2_4).mono ?_
  rintro e w5 ⟨v3, rfl, hv3, hb5⟩
  have b5 := below_at b4 (Nat.le_refl _) hb5
  have k1_5 := k1_4.keep hb5
  have k2_5 := k2_4.keep hb5
  go_wp2
  go_ret2
  exact ⟨_, rfl, hv3.mono b4.size, b5⟩

set_option maxHeartbeats 1000000 in
set_option maxRecDepth 100000 in
theorem shift_up (a : Value) (m : Nat) (k : Nat) (w : World) (ha : N32 w a m) (hl : (dig B32 m).length ≤ 262144) (h0 : m ≠ 0) (hn : k + nbits m ≤ 8388608) : Calls Try.prog 49 #[a, .int .i64 (k : Int)] w (NatOk w (m * 2 ^ k)) := by
  have hc := checkAll_any w.heap.size 1 1 _ _ (nats1 (Limbs.num ha (by omega))) rfl (by omega)
  rw [chkAll1, chk_dig hl] at hc
  have hbA := below_new w (.cells #[a] 23)
  have hf := fromNat_any a m _ (ha.keep hbA) (by omega)
  have lm := words_le (n := m) (K := 131072) hl
  have hbt := fun v w' (h : W64 w' v m) => bits_call v m w' h (by omega)
  have h1 := nbits_ne h0
  have h2 := len_bits_le (n := m) (k := 131072) (words_le (K := 131072) hl)
  have hsh := fun v w' (h : W64 w' v m) => shiftLeft_any v m k w' h (by omega) (by omega)
  have hlq : (dig B64 (m * 2 ^ k)).length ≤ 131072 := by
    refine len_of_bits (Nat.le_trans (nbits_le (k := nbits m + k) ?_) (by omega))
    rw [Nat.pow_add]
    exact Nat.mul_lt_mul_of_pos_right (nbits_lt m) (Nat.pow_pos (by omega))
  have hnt := fun v w' (h : W64 w' v (m * 2 ^ k)) => nat_any v _ w' h (by omega)
  have HSH := Lib.hid hsh
  have HNT := Lib.hid hnt
  generalize nbits m = r at *
  have hq : ((r : Int) == 0) = false := by simp; omega
  have hd : ¬ (k : Int) ≤ -(r : Int) := by omega
  have HC := Lib.hid hc
  have HF := Lib.hid hf
  have HBT := Lib.hid hbt
  obtain ⟨A, c, rfl, _⟩ := ha
  clear hc hf hbt lm
  clear h0 hl hlq hsh hnt
  generalize (dig B32 m).length = L at *
  go_enter Try.func49, Try.ntmps49
  go_wp2_with (fail)
  refine (HC.out).mono ?_
  rintro e w1 ⟨rfl, rfl⟩
  go_wp2_with (fail)
  refine (HF.out).mono ?_
  rintro e w2 ⟨v1, rfl, hv1, hb2⟩
  have b2 := below_at hbA (Nat.le_refl _) hb2
  have k1_2 := hv1.is
  go_wp2_with (fail)
  refine (HBT.out _ _ k1_2).mono ?_
  rintro e w3 ⟨rfl, rfl⟩
  go_wp2_with (fail)
  refine (HSH.out _ _ k1_2).mono ?_
  rintro e w4 ⟨v2, rfl, hv2, hb4⟩
  have b4 := below_at b2 (Nat.le_refl _) hb4
  have k1_4 := k1_2.keep hb4
  have k2_4 := hv2.is
  go_wp2_with (fail)
  refine (HNT.out _ _ k2_4).mono ?_
  rintro e w5 ⟨v3, rfl, hv3, hb5⟩
  have b5 := below_at b4 (Nat.le_refl _) hb5
  have k1_5 := k1_4.keep hb5
  have k2_5 := k2_4.keep hb5
  go_wp2
  go_ret2
  exact ⟨_, rfl, hv3.mono b4.size, b5⟩

end Go.Proofs.Ytaegkhdkhgemmaa

namespace Go.Proofs.Ytaegkhdkhgemmaa
open Go.RowKit Num

set_option maxHeartbeats 1000000 in
set_option maxRecDepth 100000 in
theorem pow_bad (a : Value) (n : Int) (xs : List Nat) (w : World) (ha : Limbs w a xs) (h0 : chk xs ≠ 0) : Calls Try.prog 52 #[a, .int .i64 n] w (NatErr w (chk xs)) := by
  have hc := checkAll_any w.heap.size 1 1 _ _ (nats1 ha) rfl (by omega)
  rw [chkAll1] at hc
  generalize chk xs = r at *
  have hbA := below_new w (.cells #[a] 23)
  have hq : (r != 0) = true := by simp [h0]
  have HC := Lib.hid hc
  have H0 := Lib.hid h0
  obtain ⟨A, c, rfl, _⟩ := ha
  clear hc h0
  generalize xs.length = L at *
  go_enter Try.func52, Try.ntmps52
  go_wp2_with (go_at_call 75; refine HC.out.mono ?_; rintro e w1 ⟨rfl, rfl⟩)
  go_ret2
  exact ⟨rfl, hbA⟩

set_option maxHeartbeats 1000000 in
set_option maxRecDepth 100000 in
theorem pow_arg (a : Value) (m : Nat) (n : Int) (w : World) (ha : N32 w a m) (hl : (dig B32 m).length ≤ 262144) (hn : n < 0) : Calls Try.prog 52 #[a, .int .i64 n] w (NatErr w 1) := by
  have hc := checkAll_any w.heap.size 1 1 _ _ (nats1 (Limbs.num ha (by omega))) rfl (by omega)
  rw [chkAll1, chk_dig hl] at hc
  have hbA := below_new w (.cells #[a] 23)
  have HC := Lib.hid hc
  obtain ⟨A, c, rfl, _⟩ := ha
  clear hc
  generalize (dig B32 m).length = L at *
  go_enter Try.func52, Try.ntmps52
  go_wp2_with (go_at_call 75; refine HC.out.mono ?_; rintro e w1 ⟨rfl, rfl⟩)
  go_ret2
  exact ⟨rfl, hbA⟩

set_option maxHeartbeats 1000000 in
set_option maxRecDepth 100000 in
theorem pow_s (a : Value) (m n : Nat) (w : World) (ha : N32 w a m) (hl : (dig B32 m).length ≤ 262144) (hn : n < 9223372036854775808) (hs : nbits m ≤ 1) (hp : ∀ j, j ≤ n → nbits (m ^ j) ≤ 8388608) : Calls Try.prog 52 #[a, .int .i64 (n : Int)] w (NatOk w (m ^ n)) := by
  have hc := checkAll_any w.heap.size 1 1 _ _ (nats1 (Limbs.num ha (by omega))) rfl (by omega)
  rw [chkAll1, chk_dig hl] at hc
  have hbA := below_new w (.cells #[a] 23)
  have HC := Lib.hid hc
  have hf := fromNat_any a m _ (ha.keep hbA) (by omega)
  have lm := words_le (n := m) (K := 131072) hl
  have hbt := fun v w' (h : W64 w' v m) => bits_call v m w' h (by omega)
  have hpw := fun v w' (h : W64 w' v m) => power_any (mulSpec_all 131072 (by omega)) v m n w' h hn lm (fun j hj => len_of_bits (hp j hj))
  have hft := fun v w' (h : W64 w' v (m ^ n)) => fit_ok v (m ^ n) w' h (hp n (Nat.le_refl _))
  have h2 := len_bits_le (n := m) (k := 131072) lm
  have HF := Lib.hid hf
  have HBT := Lib.hid hbt
  have HPW := Lib.hid hpw
  have HFT := Lib.hid hft
  obtain ⟨A, c, rfl, _⟩ := ha
  clear hc hf hbt hpw hft lm hp hn
  generalize nbits m = r at *
  have hle : r ≤ 1 := hs
  clear hs
  generalize (dig B32 m).length = L at *
  go_enter Try.func52, Try.ntmps52
  go_wp2_with (fail)
  refine (HC.out).mono ?_
  rintro e w1 ⟨rfl, rfl⟩
  go_wp2_with (fail)
  refine (HF.out).mono ?_
  rintro e w2 ⟨v1, rfl, hv1, hb2⟩
  have b2 := below_at hbA (Nat.le_refl _) hb2
  have k1_2 := hv1.is
  go_wp2_with (fail)
  refine (HBT.out _ _ k1_2).mono ?_
  rintro e w3 ⟨rfl, rfl⟩
  go_wp2_with (fail)
  refine (HPW.out _ _ k1_2).mono ?_
  rintro e w4 ⟨v2, rfl, hv2, hb4⟩
  have b4 := below_at b2 (Nat.le_refl _) hb4
  have k1_4 := k1_2.keep hb4
  have k2_4 := hv2.is
  go_wp2_with (fail)
  refine (HFT.out _ _ k2_4).mono ?_
  rintro e w5 ⟨v3, rfl, hv3, hb5⟩
  have b5 := below_at b4 (Nat.le_refl _) hb5
  have k1_5 := k1_4.keep hb5
  have k2_5 := k2_4.keep hb5
  go_wp2
  go_ret2
  exact ⟨_, rfl, hv3.mono b4.size, b5⟩

set_option maxHeartbeats 1000000 in
set_option maxRecDepth 100000 in
theorem pow_b (a : Value) (m n : Nat) (w : World) (ha : N32 w a m) (hl : (dig B32 m).length ≤ 262144) (hn : n < 9223372036854775808) (hs : 1 < nbits m) (hs2 : n ≤ 8388607 / (nbits m - 1)) (hp : ∀ j, j ≤ n → nbits (m ^ j) ≤ 8388608) : Calls Try.prog 52 #[a, .int .i64 (n : Int)] w (NatOk w (m ^ n)) := by
  have hc := checkAll_any w.heap.size 1 1 _ _ (nats1 (Limbs.num ha (by omega))) rfl (by omega)
  rw [chkAll1, chk_dig hl] at hc
  have hbA := below_new w (.cells #[a] 23)
  have HC := Lib.hid hc
  have hf := fromNat_any a m _ (ha.keep hbA) (by omega)
  have lm := words_le (n := m) (K := 131072) hl
  have hbt := fun v w' (h : W64 w' v m) => bits_call v m w' h (by omega)
  have hpw := fun v w' (h : W64 w' v m) => power_any (mulSpec_all 131072 (by omega)) v m n w' h hn lm (fun j hj => len_of_bits (hp j hj))
  have hft := fun v w' (h : W64 w' v (m ^ n)) => fit_ok v (m ^ n) w' h (hp n (Nat.le_refl _))
  have h2 := len_bits_le (n := m) (k := 131072) lm
  have HF := Lib.hid hf
  have HBT := Lib.hid hbt
  have HPW := Lib.hid hpw
  have HFT := Lib.hid hft
  obtain ⟨A, c, rfl, _⟩ := ha
  clear hc hf hbt hpw hft lm hp hn
  generalize nbits m = r at *
  obtain ⟨d, hd⟩ : ∃ d, r = d + 1 := ⟨r - 1, by omega⟩
  subst hd
  obtain ⟨q, hq⟩ : ∃ q, 8388607 / (d + 1 - 1) = q := ⟨_, rfl⟩
  rw [hq] at hs2
  rw [Nat.add_sub_cancel] at hq
  have hd1 : ((d + 1 : Nat) : Int) - 1 = (d : Int) := by omega
  have q1 : (8388607 : Int) / (d : Int) = (q : Int) := by rw [← hq]; exact (Int.natCast_ediv _ _).symm
  have q2 : (8388607 : Int).tdiv (d : Int) = (q : Int) := by rw [Int.tdiv_eq_ediv_of_nonneg (by omega)]; exact q1
  have q3 : ((d : Int) == 0) = false := by simp; omega
  have hqb : q ≤ 8388607 := by rw [← hq]; exact Nat.div_le_self _ _
  clear hq
  generalize (dig B32 m).length = L at *
  go_enter Try.func52, Try.ntmps52
  go_wp2_with (fail)
  refine (HC.out).mono ?_
  rintro e w1 ⟨rfl, rfl⟩
  go_wp2_with (fail)
  refine (HF.out).mono ?_
  rintro e w2 ⟨v1, rfl, hv1, hb2⟩
  have b2 := below_at hbA (Nat.le_refl _) hb2
  have k1_2 := hv1.is
  go_wp2_with (fail)
  refine (HBT.out _ _ k1_2).mono ?_
  rintro e w3 ⟨rfl, rfl⟩
  go_wp2_with (fail)
  refine (HPW.out _ _ k1_2).mono ?_
  rintro e w4 ⟨v2, rfl, hv2, hb4⟩
  have b4 := below_at b2 (Nat.le_refl _) hb4
  have k1_4 := k1_2.keep hb4
  have k2_4 := hv2.is
  go_wp2_with (fail)
  refine (HFT.out _ _ k2_4).mono ?_
  rintro e w5 ⟨v3, rfl, hv3, hb5⟩
  have b5 := below_at b4 (Nat.le_refl _) hb5
  have k1_5 := k1_4.keep hb5
  have k2_5 := k2_4.keep hb5
  go_wp2
  go_ret2
  exact ⟨_, rfl, hv3.mono b4.size, b5⟩

theorem nbits_pow_le (m j : Nat) : nbits (m ^ j) ≤ j * nbits m + 1 := by
  refine nbits_le ?_
  have h1 : m ^ j ≤ (2 ^ nbits m) ^ j := Nat.pow_le_pow_left (Nat.le_of_lt (nbits_lt m)) j
  rw [← Nat.pow_mul, Nat.mul_comm] at h1
  exact Nat.lt_of_le_of_lt h1 (Nat.pow_lt_pow_right (by omega) (by omega))
/-- Powers that stay short. -/
theorem pow_ok (a : Value) (m n : Nat) (w : World) (ha : N32 w a m) (hl : (dig B32 m).length ≤ 262144) (hn : n ≤ 1000) (hb : nbits m ≤ 8000) : Calls Try.prog 52 #[a, .int .i64 (n : Int)] w (NatOk w (m ^ n)) := by
  have hp : ∀ j, j ≤ n → nbits (m ^ j) ≤ 8388608 := fun j hj => Nat.le_trans (nbits_pow_le m j) (by have := Nat.mul_le_mul (Nat.le_trans hj hn) hb; omega)
  rcases Nat.lt_or_ge 1 (nbits m) with h | h
  · refine pow_b a m n w ha hl (by omega) h ?_ hp
    refine (Nat.le_div_iff_mul_le (by omega)).2 ?_
    have := Nat.mul_le_mul hn (show nbits m - 1 ≤ 8000 by omega)
    omega
  · exact pow_s a m n w ha hl (by omega) h hp
theorem len32_of_bits {n k : Nat} (h : nbits n ≤ 32 * k) : (dig B32 n).length ≤ k := dig_len_le b32_two (by
  have e : B32 ^ k = 2 ^ (32 * k) := by rw [Nat.pow_mul]; rfl
  rw [e]; exact lt_of_nbits h)
/-- Powers of 0 and of 1. -/
theorem pow_01 (a : Value) (m n : Nat) (w : World) (ha : N32 w a m) (hm : m ≤ 1) (h0 : 0 < n) (hn : n < 9223372036854775808) : Calls Try.prog 52 #[a, .int .i64 (n : Int)] w (NatOk w m) := by
  have e : ∀ j, 0 < j → m ^ j = m := fun j hj => by
    rcases Nat.eq_zero_or_pos m with h | h
    · subst h; exact Nat.zero_pow hj
    · obtain rfl : m = 1 := by omega
      exact Nat.one_pow j
  have hb : nbits m ≤ 1 := nbits_le (by omega)
  have := pow_s a m n w ha (Nat.le_trans (small32 (k := m) (by unfold B32; omega)) (by omega)) hn hb (fun j _ => by
    rcases Nat.eq_zero_or_pos j with hj | hj
    · subst hj; exact Nat.le_trans (nbits_le (k := 1) (by rw [Nat.pow_zero]; omega)) (by omega)
    · rw [e j hj]; omega)
  rw [e n h0] at this
  exact this
end Go.Proofs.Ytaegkhdkhgemmaa

/- What NatOwn's ten calls give: slices of their own. -/
namespace Go.Proofs.Ytaegkhdkhgemmaa
open Go.RowKit Num

theorem nbits_mono {x m : Nat} (h : x ≤ m) : nbits x ≤ nbits m := nbits_le (Nat.lt_of_le_of_lt h (nbits_lt m))
theorem NatOk.gives {w w' : World} {n : Nat} {e : Ending} (h : NatOk w n e w') (hl : nbits n ≤ 32000) : Gives w e w' := by
  obtain ⟨v, rfl, hv, hb⟩ := h
  obtain ⟨A, c, rfl⟩ := own_slice (ys := dig B32 n) hv
  exact ⟨_, _, _, 0, rfl, ⟨_, len32_of_bits (k := 1000) hl, hv⟩, hb⟩
theorem ownLs_nil (B : Nat) (w : World) : OwnLs B w (.slice none 0 0) [] := World.ownsRow_nil w B 56 1
theorem NatErr.gives {w w' : World} {k : Int} {e : Ending} (h : NatErr w k e w') : Gives w e w' := by
  obtain ⟨rfl, hb⟩ := h
  exact ⟨_, _, _, k, rfl, ⟨_, Nat.zero_le _, ownLs_nil _ _⟩, hb⟩

theorem nbits_add {m n K : Nat} (hm : nbits m ≤ K) (hn : nbits n ≤ K) : nbits (m + n) ≤ K + 1 := by
  have h3 := nbits_lt m
  have h4 := nbits_lt n
  have h5 := Nat.pow_le_pow_right (show 0 < 2 by omega) hm
  have h6 := Nat.pow_le_pow_right (show 0 < 2 by omega) hn
  exact nbits_le (by rw [Nat.pow_succ]; omega)

section
variable (a b : Value) (m n : Nat) (w : World) (ha : N32 w a m) (hb : N32 w b n) (hm : (dig B32 m).length ≤ 20) (hn : (dig B32 n).length ≤ 20)
include hm in
theorem bits20 : nbits m ≤ 640 := by
  have := words_le (n := m) (K := 10) (by omega)
  have := len_bits_le this
  omega
include ha hb hm hn
theorem own37 : Calls Try.prog 37 #[a, b] w (Gives w) := by
  have h8 := nbits_add (bits20 m hm) (bits20 n hn)
  exact (add_ok a b m n w ha hb (by omega) (by omega) (by omega)).mono fun e w' h => h.gives (by omega)
theorem own38 : Calls Try.prog 38 #[a, b] w (Gives w) := by
  have h1 := bits20 m hm
  have h2 := nbits_mono (Nat.sub_le m n)
  rcases Nat.lt_or_ge m n with h | h
  · exact (sub_range a b m n w ha hb (by omega) (by omega) h).mono fun e w' h => h.gives
  · exact (sub_ok a b m n w ha hb (by omega) (by omega) h).mono fun e w' h => h.gives (by omega)
theorem own45 : Calls Try.prog 45 #[a, b] w (Gives w) := by
  have h1 := bits20 m hm
  have h2 := bits20 n hn
  have h3 := nbits_mul_le m n
  exact (mul_ok mulSpec_small (by omega) a b m n w ha hb (by omega) (by omega) (by omega) (by omega) (by omega)).mono fun e w' h => h.gives (by omega)
theorem own47 : Calls Try.prog 47 #[a, b] w (Gives2 w) := by
  have h1 := bits20 m hm
  rcases Nat.eq_zero_or_pos n with h | h
  · refine (divMod_zero a b m n w ha hb (by omega) (by omega) h).mono ?_
    rintro e w' ⟨rfl, hbl⟩
    exact ⟨_, _, _, _, _, _, _, rfl, ⟨_, Nat.zero_le _, ownLs_nil _ _⟩, ⟨_, Nat.zero_le _, ownLs_nil _ _⟩, (fun g hg => nomatch hg), hbl⟩
  · refine (divMod_apart a b m n w ha hb (by omega) (by omega) h (.inl ?_)).mono ?_
    · have := words_le (n := n) (K := 10) (by omega)
      omega
    · rintro e w' ⟨v, u, rfl, hv, hu, hvu, hbl⟩
      obtain ⟨A, c, rfl⟩ := own_slice (ys := dig B32 (m / n)) hv
      obtain ⟨A', c', rfl⟩ := own_slice (ys := dig B32 (m % n)) hu
      exact ⟨_, _, _, _, _, _, _, rfl, ⟨_, len32_of_bits (k := 1000) (by have := nbits_mono (Nat.div_le_self m n); omega), hv⟩, ⟨_, len32_of_bits (k := 1000) (by have := nbits_mono (Nat.mod_le m n); omega), hu⟩, hvu, hbl⟩
theorem own58 : Calls Try.prog 58 #[a, b] w (Gives w) := (gcd_ok a b m n w ha hb hm hn).mono fun _ _ h => h.gives (by
  have h1 := bits20 m hm
  have h2 := bits20 n hn
  rcases Nat.eq_zero_or_pos m with h | h
  · rw [h, Nat.gcd_zero_left]; omega
  · have := nbits_mono (Nat.gcd_le_left n h)
    omega)
theorem own59 : Calls Try.prog 59 #[a, b] w (Gives w) := by
  have h1 := bits20 m hm
  have h2 := bits20 n hn
  rcases Nat.eq_zero_or_pos m with h | h
  · exact (lcm_zero a b m n w ha hb hm hn (.inl h)).mono fun _ _ h => h.gives (by have := nbits_mono (Nat.zero_le m); omega)
  · rcases Nat.eq_zero_or_pos n with h' | h'
    · exact (lcm_zero a b m n w ha hb hm hn (.inr h')).mono fun _ _ h => h.gives (by have := nbits_mono (Nat.zero_le m); omega)
    · exact (lcm_ok a b m n w ha hb hm hn h h').mono fun _ _ h => h.gives (by
        have h3 := nbits_mul_le (m / Nat.gcd m n) n
        have h4 := nbits_mono (Nat.div_le_self m (Nat.gcd m n))
        omega)
omit hb hn
theorem own49 (k : Int) (h0 : 0 ≤ k) (h3 : k ≤ 3) : Calls Try.prog 49 #[a, .int .i64 (k - 1)] w (Gives w) := by
  have h1 := bits20 m hm
  by_cases hz : m = 0
  · exact (shift_zero a m (k - 1) w ha (by omega) hz).mono fun _ _ h => h.gives (by have := nbits_mono (Nat.zero_le m); omega)
  · have hp := nbits_ne hz
    by_cases hk : k = 0
    · subst hk
      by_cases h1b : 1 < nbits m
      · exact (shift_down a m 1 w ha (by omega) hz (by omega) h1b).mono fun _ _ h => h.gives (by have := nbits_mono (Nat.div_le_self m (2 ^ 1)); omega)
      · exact (shift_low a m (0 - 1) w ha (by omega) hz (by omega)).mono fun _ _ h => h.gives (by have := nbits_mono (Nat.zero_le m); omega)
    · obtain ⟨j, hj⟩ : ∃ j : Nat, k - 1 = (j : Int) := ⟨(k - 1).toNat, by omega⟩
      rw [hj]
      exact (shift_up a m j w ha (by omega) hz (by omega)).mono fun _ _ h => h.gives (by
        have h4 := nbits_mul_le m (2 ^ j)
        have h5 : nbits (2 ^ j) ≤ j + 1 := nbits_le (by rw [Nat.pow_succ]; have := Nat.pow_pos (n := j) (show 0 < 2 by omega); omega)
        omega)
theorem own52 (k : Int) (h0 : 0 ≤ k) (h3 : k ≤ 3) : Calls Try.prog 52 #[a, .int .i64 k] w (Gives w) := by
  have h1 := bits20 m hm
  obtain ⟨j, rfl⟩ : ∃ j : Nat, k = (j : Int) := ⟨k.toNat, by omega⟩
  exact (pow_ok a m j w ha (by omega) (by omega) (by omega)).mono fun _ _ h => h.gives (by
    have h4 := nbits_pow_le m j
    have h5 := Nat.mul_le_mul (show j ≤ 3 by omega) h1
    omega)
theorem own56 (k : Int) (h0 : 0 ≤ k) (h3 : k ≤ 3) : Calls Try.prog 56 #[a, .int .i64 (k + 1)] w (Gives w) := by
  have h1 := bits20 m hm
  rcases Nat.eq_zero_or_pos m with hz | hz
  · exact (root_zero a m (k + 1) w ha hz (by omega)).mono fun _ _ h => h.gives (by have := nbits_mono (Nat.zero_le m); omega)
  · obtain ⟨j, hj⟩ : ∃ j : Nat, k + 1 = (j : Int) := ⟨(k + 1).toNat, by omega⟩
    obtain ⟨r, hr⟩ := root_exists j m (by omega)
    rw [hj]
    exact (root_ok a m j r w ha hz (by omega) (by omega) hr).mono fun _ _ h => h.gives (by
      have h4 : r ≤ m := by
        rcases Nat.eq_zero_or_pos r with h | h
        · omega
        · have := Nat.pow_le_pow_right h (show 1 ≤ j by omega)
          have := hr.1
          rw [Nat.pow_one] at *
          omega
      have := nbits_mono h4
      omega)
end
end Go.Proofs.Ytaegkhdkhgemmaa

namespace Go.Proofs.Ytaegkhdkhgemmaa
open Go.RowKit Num

/-- The length in a slot: for a loop's measure. -/
def lenOf : Value → Nat | .slice _ n _ => n | _ => 0

theorem limbs_cut {w : World} {A : Option Addr} {c : Nat} {xs : List Nat} (h : Limbs w (.slice A xs.length c) xs) : ∀ i, 0 < xs.length → i < xs.length → ∃ g off v, A = some ⟨g, off, none⟩ ∧ g < w.heap.size ∧ xs[i]? = some v ∧ w.cell? ⟨g, off + i, none⟩ = some (.int .u32 (v : Int)) := by
  intro i _ hi
  obtain ⟨A', c', e, _, _, hn⟩ := h
  injection e with e1 e2 e3
  subst e1
  exact hn.at_ hi

set_option maxHeartbeats 1000000 in
set_option maxRecDepth 100000 in
/-- whole: cut, then without the zeros at the end. -/
theorem whole_any (A : Option Addr) (c L n : Nat) (xs : List Nat) (w : World) (hA : Nums .u32 w A xs) (hlow : Low B32 xs) (hL : L = xs.length) (hc : L ≤ c) (hnil : A = none → c = 0) (hn : n ≤ 1000) :
    Calls Try.prog 69 #[.slice A L c, .int .i64 (n : Int)] w fun e w' => ∃ v, e = .returned v ∧ N32 w' v (val B32 (xs.take n)) ∧ Below w.heap.size w w' := by
  have hcut := cut_any A c L n xs w hA hL hc hnil hn
  have hlow' := hlow.take n
  have hlen : (xs.take n).length ≤ 1000 := by rw [List.length_take]; omega
  generalize xs.take n = ys at *
  obtain ⟨r, hr⟩ : ∃ r, val B32 ys = r := ⟨_, rfl⟩
  have fin : ∀ k, k ≤ ys.length → ZeroFrom ys k → (∀ v, 0 < k → ys[k - 1]? = some v → v ≠ 0) → ys.take k = dig B32 r := fun k hk hz hn => by rw [← hr]; exact trim_val b32_two hlow' hk hz hn
  have FIN := Lib.hid fin
  have HC := Lib.hid hcut
  have HR := Lib.hid hr
  rw [hr]
  clear hcut hA hL hnil fin hr
  go_enter Try.func69, Try.ntmps69
  go_wp2_with (go_at_call 26
               refine HC.out.mono ?_
               rintro e w1 ⟨v1, rfl, hv1, hb1⟩
               obtain ⟨A1, c1, he1, hc1, hn1⟩ := own_reads hv1
               have HV1 := Lib.hid hv1
               clear hv1
               subst he1)
  go_loop [0] (fun t => ∃ k : Nat, k ≤ ys.length ∧ t = .slice A1 k c1 ∧ ZeroFrom ys k) (fun t => lenOf t)
  case atStart => exact ⟨ys.length, Nat.le_refl _, rfl, fun i v hv hi => by have := (List.getElem?_eq_some_iff.1 hv).1; omega⟩
  case round =>
    obtain ⟨k, hk, rfl, hz⟩ := hrel
    have hex : (∃ v, 0 < k ∧ ys[k - 1]? = some v ∧ v = 0) ∨ (∀ v, 0 < k → ys[k - 1]? = some v → v ≠ 0) := by
      by_cases hh : ∃ v, 0 < k ∧ ys[k - 1]? = some v ∧ v = 0
      · exact .inl hh
      · exact .inr fun v h1 h2 h3 => hh ⟨v, h1, h2, h3⟩
    rcases hex with ⟨v, hp, hv, hv0⟩ | hfin
    · obtain ⟨g, off, v', rfl, hg, hv', hc2⟩ := hn1.at_ (i := k - 1) (by omega)
      have e : v' = v := by rw [hv] at hv'; injection hv' with hv'; exact hv'.symm
      subst e
      have hq : ((v' : Int) == 0) = true := by simp [hv0]
      have HV := Lib.hid hv
      have H0 := Lib.hid hv0
      clear hv hv' hv0 hn1
      go_wp2
      go_round
      case rel =>
        refine ⟨k - 1, by omega, rfl, fun i u hu hi => ?_⟩
        by_cases e : i = k - 1
        · have := HV.out; rw [e] at hu; rw [hu] at this; injection this with this; rw [this]; exact H0.out
        · exact hz i u hu (by omega)
      case measure => simp [lenOf]; omega
    · have htk := FIN.out k hk hz hfin
      have hlen2 : (dig B32 r).length = k := by rw [← htk, List.length_take]; omega
      have hnum : Nums .u32 w1 A1 (dig B32 r) := by rw [← htk]; exact hn1.take k
      have hres : N32 w1 (.slice A1 k c1) r := ⟨A1, c1, by rw [hlen2], by rw [hlen2]; omega, hnum⟩
      have HRES := Lib.hid hres
      clear htk hlen2 hnum hres
      by_cases hp : 0 < k
      · obtain ⟨g, off, v, rfl, hg, hv, hc2⟩ := hn1.at_ (i := k - 1) (by omega)
        have hq : ((v : Int) == 0) = false := by have := hfin v hp hv; simp; omega
        have HV := Lib.hid hv
        clear hv hn1 hfin
        go_wp2
        go_ret
        exact ⟨_, rfl, HRES.out, hb1⟩
      · clear hn1 hfin
        go_wp2
        go_ret
        exact ⟨_, rfl, HRES.out, hb1⟩
end Go.Proofs.Ytaegkhdkhgemmaa

namespace Go.Proofs.Ytaegkhdkhgemmaa
open Go.RowKit Num

set_option maxHeartbeats 1000000 in
set_option maxRecDepth 100000 in
/-- whole, and that a nil slice has no room. -/
theorem whole_tight (A : Option Addr) (c L n : Nat) (xs : List Nat) (w : World) (hA : Nums .u32 w A xs) (hlow : Low B32 xs) (hL : L = xs.length) (hc : L ≤ c) (hnil : A = none → c = 0) (hn : n ≤ 1000) :
    Calls Try.prog 69 #[.slice A L c, .int .i64 (n : Int)] w fun e w' => ∃ v, e = .returned v ∧ N32 w' v (val B32 (xs.take n)) ∧ (∀ k c, v = .slice none k c → c = 0) ∧ Below w.heap.size w w' := by
  have hcut := cut_any A c L n xs w hA hL hc hnil hn
  have hlow' := hlow.take n
  have hlen : (xs.take n).length ≤ 1000 := by rw [List.length_take]; omega
  generalize xs.take n = ys at *
  obtain ⟨r, hr⟩ : ∃ r, val B32 ys = r := ⟨_, rfl⟩
  have fin : ∀ k, k ≤ ys.length → ZeroFrom ys k → (∀ v, 0 < k → ys[k - 1]? = some v → v ≠ 0) → ys.take k = dig B32 r := fun k hk hz hn => by rw [← hr]; exact trim_val b32_two hlow' hk hz hn
  have FIN := Lib.hid fin
  have HC := Lib.hid hcut
  have HR := Lib.hid hr
  rw [hr]
  clear hcut hA hL hnil fin hr
  go_enter Try.func69, Try.ntmps69
  go_wp2_with (go_at_call 26
               refine HC.out.mono ?_
               rintro e w1 ⟨v1, rfl, hv1, hb1⟩
               obtain ⟨A1, c1, he1, hc1, hn1⟩ := own_reads hv1
               have hat : A1 = none → c1 = 0 := (by
                 intro ha
                 subst ha
                 rcases hv1.2 with ⟨h, _⟩ | ⟨g, cap, cur, h, hg, _⟩
                 · rw [he1] at h; injection h
                 · rw [he1] at h; injection h with h _ _; cases h)
               have HAT := Lib.hid hat
               clear hat
               have HV1 := Lib.hid hv1
               clear hv1
               subst he1)
  go_loop [0] (fun t => ∃ k : Nat, k ≤ ys.length ∧ t = .slice A1 k c1 ∧ ZeroFrom ys k) (fun t => lenOf t)
  case atStart => exact ⟨ys.length, Nat.le_refl _, rfl, fun i v hv hi => by have := (List.getElem?_eq_some_iff.1 hv).1; omega⟩
  case round =>
    obtain ⟨k, hk, rfl, hz⟩ := hrel
    have hex : (∃ v, 0 < k ∧ ys[k - 1]? = some v ∧ v = 0) ∨ (∀ v, 0 < k → ys[k - 1]? = some v → v ≠ 0) := by
      by_cases hh : ∃ v, 0 < k ∧ ys[k - 1]? = some v ∧ v = 0
      · exact .inl hh
      · exact .inr fun v h1 h2 h3 => hh ⟨v, h1, h2, h3⟩
    rcases hex with ⟨v, hp, hv, hv0⟩ | hfin
    · obtain ⟨g, off, v', rfl, hg, hv', hc2⟩ := hn1.at_ (i := k - 1) (by omega)
      have e : v' = v := by rw [hv] at hv'; injection hv' with hv'; exact hv'.symm
      subst e
      have hq : ((v' : Int) == 0) = true := by simp [hv0]
      have HV := Lib.hid hv
      have H0 := Lib.hid hv0
      clear hv hv' hv0 hn1
      go_wp2
      go_round
      case rel =>
        refine ⟨k - 1, by omega, rfl, fun i u hu hi => ?_⟩
        by_cases e : i = k - 1
        · have := HV.out; rw [e] at hu; rw [hu] at this; injection this with this; rw [this]; exact H0.out
        · exact hz i u hu (by omega)
      case measure => simp [lenOf]; omega
    · have htk := FIN.out k hk hz hfin
      have hlen2 : (dig B32 r).length = k := by rw [← htk, List.length_take]; omega
      have hnum : Nums .u32 w1 A1 (dig B32 r) := by rw [← htk]; exact hn1.take k
      have hres : N32 w1 (.slice A1 k c1) r := ⟨A1, c1, by rw [hlen2], by rw [hlen2]; omega, hnum⟩
      have HRES := Lib.hid hres
      clear htk hlen2 hnum hres
      by_cases hp : 0 < k
      · obtain ⟨g, off, v, rfl, hg, hv, hc2⟩ := hn1.at_ (i := k - 1) (by omega)
        have hq : ((v : Int) == 0) = false := by have := hfin v hp hv; simp; omega
        have HV := Lib.hid hv
        clear hv hn1 hfin
        go_wp2
        go_ret
        exact ⟨_, rfl, HRES.out, fun k c h => by injection h with e1 e2 e3; rw [← e3]; exact HAT.out e1, hb1⟩
      · clear hn1 hfin
        go_wp2
        go_ret
        exact ⟨_, rfl, HRES.out, fun k c h => by injection h with e1 e2 e3; rw [← e3]; exact HAT.out e1, hb1⟩
end Go.Proofs.Ytaegkhdkhgemmaa

/- A copy of limbs: append to an empty slice. -/
namespace Go.Proofs.Ytaegkhdkhgemmaa
open Go.RowKit Num

theorem wp_copy {ops : Array Oper} {rest : List Oper} {o : Oper} {a : Act} {Q : Exit → Act → World → Prop} (hgd : o.guard = none) (s x : Operand) (T : TypeId) (hT : Try.prog.underlying T = some (.slice 56))
    (ho : o.op = .call { callee := .builtin .append, args := #[s, x], argTypes := #[T, T] }) (w : World) (v : Value) (ys : List Nat) (hs : a.eval s = .slice (some ⟨w.heap.size, 0, none⟩) 0 0) (hx : a.eval x = v)
    (hv : Limbs w v ys) (hl : ys.length ≤ 1000000) (hnil : ∀ k c, v = .slice none k c → c = 0)
    (K : ∀ v' w2, OwnLs w.heap.size w2 v' ys → Below w.heap.size w w2 → wpList Try.prog ops Q rest (a.put o.dst v') w2) : wpList Try.prog ops Q (o :: rest) a (w.alloc (.cells #[] 56)) := by
  obtain ⟨i0, hi, hz0, hz1, hz2⟩ := info_parts info56
  have ho' := own_empty w 56
  have hbA := below_new w (.cells #[] 56)
  obtain ⟨A, c, rfl, hc, _, hn⟩ := hv
  rcases A with _ | ad
  · have h0 : ys = [] := by
      rcases Nat.eq_zero_or_pos ys.length with h | h
      · exact List.eq_nil_of_length_eq_zero h
      · obtain ⟨g, off, e, _⟩ := hn h; cases e
    subst h0
    have hc0 := hnil _ _ rfl
    subst hc0
    exact wpList_append_own_none hgd s x T ho w.heap.size 56 i0 1 hT hi _ _ _ hs ho' hx (K _ _ ho' hbA)
  · refine wpList_append_own _ hgd s x T ho w.heap.size 56 i0 (.int .u32 0) 1 4 hT hi hz0 hz1 hz2 rfl (by decide) _ _ _ hs ho' ad ys.length c (ints .u32 ys) hx (by rw [ints_len]; omega) (nums_cells (hn.keep hbA)) (ints_one _ _) (by unfold maxLen; omega) (by omega) (by simp) fun v' w2 hown hgr _ => ?_
    refine K v' w2 ?_ (hbA.grown hgr hbA.size (by simp [Value.ownBlock]))
    rw [Nat.zero_add, List.nil_append] at hown
    exact hown
end Go.Proofs.Ytaegkhdkhgemmaa
