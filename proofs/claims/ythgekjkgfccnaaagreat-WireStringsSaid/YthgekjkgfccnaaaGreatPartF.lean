/- Part of the proof of WireStrings: DivW, RootW, RootApi, DivM, WNat, WStr, WStr2, MulU, Rep, CloneI, CoilF, Place, AddP, Last, CanT. -/
import Derived.Test.YthgekjkgfccnaaaGreatPartE
import Derived.Test.YthgekjkgfccnaaaGreatPartC
import Derived.Test.YthgekjkgfccnaaaGreatPartD
import Derived.Test.YthgekjkgfccnaaaGreatPartB
import Derived.Deep.RegionLaw
import Derived.Lib.SliceRun
import Derived.Laws.AppendOwn
import Derived.IntWalk
import Derived.StillTailTactics
namespace Go.Proofs.YthgekjkgfccnaaaGreat
open Go.RowKit Num

/-- Division by a word from the top down: the words from k on are done. -/
structure WordSt (xs zs : List Nat) (v k l : Nat) : Prop where
  len : zs.length = xs.length
  low : Low B64 zs
  lt : l < v
  eq : val B64 (xs.drop k) = v * val B64 (zs.drop k) + l
theorem WordSt.start (xs : List Nat) {v : Nat} (hv : 0 < v) : WordSt xs (List.replicate xs.length 0) v xs.length 0 :=
  ⟨by simp, Low.replicate b64_pos _, hv, by simp [val]⟩
theorem WordSt.step {xs zs : List Nat} {v k l x q r : Nat} (h : WordSt xs zs v (k + 1) l) (hx : xs[k]? = some x) (hs : l * B64 + x = v * q + r) (hq : q < B64) (hr : r < v) : WordSt xs (zs.set k q) v k r := by
  have hk : k < xs.length := (List.getElem?_eq_some_iff.1 hx).1
  have hxe : xs[k] = x := (List.getElem?_eq_some_iff.1 hx).2
  have hkz : k < (zs.set k q).length := by rw [List.length_set, h.len]; exact hk
  refine ⟨by rw [List.length_set]; exact h.len, h.low.set hq, hr, ?_⟩
  rw [List.drop_eq_getElem_cons hk, List.drop_eq_getElem_cons hkz, hxe, List.getElem_set_self, List.drop_set_of_lt (by omega)]
  simp only [val]
  rw [h.eq]
  grind
theorem WordSt.fin {xs zs : List Nat} {v l : Nat} (h : WordSt xs zs v 0 l) : val B64 zs = val B64 xs / v ∧ val B64 xs % v = l := by
  have e := h.eq
  simp only [List.drop_zero] at e
  have hl := h.lt
  rw [e, Nat.mul_add_div (by omega), Nat.div_eq_of_lt hl, Nat.mul_add_mod, Nat.mod_eq_of_lt hl]
  simp

def DivWPost (w : World) (q r : Nat) (e : Ending) (w' : World) : Prop := ∃ v, e = .returned (.tuple #[v, .int .u64 (r : Int)]) ∧ OwnW w.heap.size w' v q ∧ Below w.heap.size w w'

set_option maxHeartbeats 2000000 in
set_option maxRecDepth 100000 in
theorem divideWord_any (A : Option Addr) (c L d : Nat) (xs : List Nat) (w : World) (hA : Nums .u64 w A xs) (hx : Low B64 xs) (hL : L = xs.length) (hl : L ≤ 100000000000) (hd0 : 0 < d) (hd : d < B64) :
    Calls Tryz.prog 111 #[.slice A L c, .int .u64 (d : Int)] w (DivWPost w (val B64 xs / d) (val B64 xs % d)) := by
  have hmk := make64 L (by omega) w
  have hr0 := Row.made w .u64 L 67
  have hbA : Below w.heap.size w (w.alloc (.cells (madeCells #[.int .u64 0] L) 67)) := (Below.refl _ _).alloc (Nat.le_refl _) _
  have hst0 := WordSt.start xs hd0
  rw [← hL] at hst0
  have HL := Lib.hid hL
  have HR0 := Lib.hid hr0
  clear hL hr0
  go_enter Tryz.func111, Tryz.ntmps111
  go_wp2
  go_loopw [5, 6] (fun q t wr => ∃ (k l : Nat) (zs : List Nat), k ≤ L ∧ t = .int .i64 ((k : Int) - 1) ∧ q = .int .u64 (l : Int) ∧ WordSt xs zs d k l ∧ Row .u64 67 wr w.heap.size zs ∧ Below w.heap.size w wr) (fun _ t _ => (intOf t + 1).toNat)
  case atStart => exact ⟨L, 0, _, Nat.le_refl _, rfl, rfl, hst0, HR0.out, hbA⟩
  case round =>
    clear hst0 HR0 hbA hmk
    obtain ⟨k, l, zs, hk, rfl, rfl, hst, hrow, hbl⟩ := hrel
    have hlen := hst.len
    rw [← HL.out] at hlen
    have HLEN := Lib.hid hlen
    clear hlen
    by_cases h0 : k = 0
    · subst h0
      obtain ⟨f1, f2⟩ := hst.fin
      have hn := hrow.nums0 zs.length
      rw [List.take_length] at hn
      have own := own_of_trim b64_two hrow hst.low (Nat.le_refl w.heap.size)
      rw [f1, HLEN.out] at own
      have htr := trim_any _ L L zs _ hn hst.low HLEN.out.symm (Nat.le_refl _) (by omega)
      rw [f1] at htr
      have HT := Lib.hid htr
      have F2 := Lib.hid f2
      clear htr f1 f2 hn hst hx hA
      go_wp2_with (go_at_call 93; refine HT.out.mono ?_; rintro e w9 ⟨rfl, rfl⟩)
      go_ret2
      rw [F2.out]
      exact ⟨_, rfl, own, hbl⟩
    · obtain ⟨j, rfl⟩ : ∃ j, k = j + 1 := ⟨k - 1, by omega⟩
      obtain ⟨g, off, x, rfl, hg, hxv, hcx⟩ := (hA.keep hbl).at_ (i := j) (by have := HL.out; omega)
      have hxl : x < B64 := hx x (List.mem_of_getElem? hxv)
      have hdv := fun w => div64_any l x d hst.lt hxl hd w
      have hs := Nat.div_add_mod (l * B64 + x) d
      have hr := Nat.mod_lt (l * B64 + x) hd0
      have hq : (l * B64 + x) / d < B64 := by
        refine Nat.div_lt_of_lt_mul ?_
        have := Nat.mul_le_mul_right B64 (show l + 1 ≤ d from hst.lt)
        rw [Nat.add_mul] at this; omega
      generalize (l * B64 + x) / d = q at *
      generalize (l * B64 + x) % d = r at *
      have hst' := hst.step hxv hs.symm hq hr
      obtain ⟨o, ho⟩ : ∃ o, zs[j]? = some o := ⟨zs[j]'(by have := HLEN.out; omega), List.getElem?_eq_getElem _⟩
      have hco := hrow.cell ho
      have hfo := hrow.frozen j
      have HST := Lib.hid hst'
      have HX := Lib.hid hxv
      have HO := Lib.hid ho
      have HDV := Lib.hid hdv
      clear hst' hxv ho hxl hs hq hr hst hA hx hdv
      go_wp2_with (go_at_call 125; refine (HDV.out _).mono ?_; rintro e w1 ⟨rfl, m, rfl⟩)
      go_roundw
      case rel => exact ⟨j, r, _, by omega, by first | rfl | go_num, rfl, HST.out, Row.set (Row.of_block hrow (by rfl)) j q, below_set (below_drewN hbl _) (Nat.le_refl _) _⟩
      case measure => simp [intOf]
theorem divideWord_call (a : Value) (m d : Nat) (w : World) (ha : W64 w a m) (hl : (dig B64 m).length ≤ 100000000000) (hd0 : 0 < d) (hd : d < B64) : Calls Tryz.prog 111 #[a, .int .u64 (d : Int)] w (DivWPost w (m / d) (m % d)) := by
  obtain ⟨A, c, rfl, _, hA⟩ := ha
  have := divideWord_any A c _ d _ w hA (low_dig b64_two m) rfl hl hd0 hd
  rw [val_dig b64_two] at this
  exact this

/-- A divisor whose highest bit is set. -/
def Normal (n : Nat) : Prop := ∃ k, 2 ≤ k ∧ B64 ^ k ≤ 2 * n ∧ n < B64 ^ k
theorem Normal.len {n : Nat} (h : Normal n) : 2 ≤ (dig B64 n).length ∧ B64 ^ (dig B64 n).length ≤ 2 * n ∧ ∀ t, (dig B64 n)[(dig B64 n).length - 1]? = some t → B64 ≤ 2 * t := by
  obtain ⟨k, h2, h1, h3⟩ := h
  have hle := dig_len_le b64_two h3
  have hge : k ≤ (dig B64 n).length := by
    rcases Nat.lt_or_ge (dig B64 n).length k with h4 | h4
    · exfalso
      have h5 := dig_len_lt b64_two (n := n)
      have h6 := Nat.pow_le_pow_right b64_pos (show (dig B64 n).length + 1 ≤ k from h4)
      rw [Nat.pow_succ] at h6
      have h7 : B64 ^ (dig B64 n).length * 2 ≤ B64 ^ (dig B64 n).length * B64 := Nat.mul_le_mul_left _ b64_two
      omega
    · exact h4
  have hk : (dig B64 n).length = k := by omega
  refine ⟨by omega, by rw [hk]; exact h1, fun t ht => ?_⟩
  rw [hk] at ht
  have e := dig_getElem? b64_two ht
  have hd : n / B64 ^ (k - 1) < B64 := by
    refine Nat.div_lt_of_lt_mul ?_
    have : B64 ^ k = B64 ^ (k - 1) * B64 := by rw [← Nat.pow_succ]; congr 1; omega
    omega
  rw [Nat.mod_eq_of_lt hd] at e
  have hp : 0 < B64 ^ (k - 1) := Nat.pow_pos b64_pos
  have h8 := Nat.lt_div_mul_add (a := n) hp
  rw [← e] at h8
  have h9 : B64 ^ k = B64 * B64 ^ (k - 1) := by rw [Nat.mul_comm, ← Nat.pow_succ]; congr 1; omega
  rcases Nat.lt_or_ge (2 * t + 1) B64 with h10 | h10
  · exfalso
    have h11 : (2 * t + 2) * B64 ^ (k - 1) ≤ B64 * B64 ^ (k - 1) := Nat.mul_le_mul_right _ h10
    have h12 : (2 * t + 2) * B64 ^ (k - 1) = 2 * (t * B64 ^ (k - 1) + B64 ^ (k - 1)) := by grind
    omega
  · unfold B64 at *; omega

theorem lenm {m n : Nat} (h : n ≤ m) : (dig B64 n).length ≤ (dig B64 m).length := dig_len_mono h

set_option maxHeartbeats 2000000 in
set_option maxRecDepth 100000 in
theorem divideNormal_lt (a b : Value) (m n : Nat) (w : World) (ha : W64 w a m) (hb : W64 w b n) (hn : (dig B64 n).length ≤ 100000000) (hm : (dig B64 m).length ≤ 100000000) (hlt : m < n) :
    Calls Tryz.prog 113 #[a, b] w (DivPost w (m / n) (m % n)) := by
  have hcmp := cmp64_call a b m n w ha hb (by omega) (by omega)
  rw [cmpN_lt hlt] at hcmp
  rw [Nat.div_eq_of_lt hlt, Nat.mod_eq_of_lt hlt]
  have HC := Lib.hid hcmp
  have HA := Lib.hid ha
  obtain ⟨A, c, rfl, _⟩ := ha
  obtain ⟨A', c', rfl, _⟩ := hb
  clear hcmp hlt
  generalize (dig B64 m).length = L at *
  generalize (dig B64 n).length = L' at *
  go_enter Tryz.func113, Tryz.ntmps113
  go_wp2_with (fail)
  refine HC.out.mono ?_
  rintro e w1 ⟨rfl, hb1⟩
  go_wp2
  go_ret2
  exact ⟨_, _, rfl, w64_nil _, HA.out.keep hb1, hb1⟩

set_option maxHeartbeats 2000000 in
set_option maxRecDepth 100000 in
theorem divideNormal_s (a b : Value) (m n : Nat) (w : World) (ha : W64 w a m) (hb : W64 w b n) (hn : Normal n) (hm : (dig B64 m).length ≤ 100000000) (hle : n ≤ m) (hs : (dig B64 n).length < 200) :
    Calls Tryz.prog 113 #[a, b] w (DivPost w (m / n) (m % n)) := by
  have hll := lenm hle
  have hcmp := cmp64_call a b m n w ha hb (by omega) (by omega)
  have hc0 : 0 ≤ cmpN m n := by
    rcases Nat.lt_or_ge n m with h | h
    · rw [cmpN_gt h]; omega
    · obtain rfl : m = n := by omega
      rw [cmpN_eq]; omega
  generalize cmpN m n = cc at *
  obtain ⟨n1, n2, n3⟩ := hn.len
  have hld : ∀ w', Below w.heap.size w w' → Calls Tryz.prog 126 #[a, b] w' (DivPost w' (m / n) (m % n)) := fun w' h => by
    obtain ⟨A, c, rfl, _, hA⟩ := ha.keep h
    obtain ⟨A', c', rfl, _, hB⟩ := hb.keep h
    have := longDivide_any A A' c c' _ _ _ _ w' hA hB (low_dig b64_two m) (low_dig b64_two n) (neat_dig b64_two n) rfl rfl n1 hll (by omega) n3
    rw [val_dig b64_two, val_dig b64_two] at this
    exact this
  have HC := Lib.hid hcmp
  have HLD := Lib.hid hld
  obtain ⟨A, c, rfl, _⟩ := ha
  obtain ⟨A', c', rfl, _⟩ := hb
  clear hcmp hld n2 n3 hn hle
  generalize (dig B64 m).length = L at *
  generalize (dig B64 n).length = L' at *
  have hs' : L' < 200 := hs
  go_enter Tryz.func113, Tryz.ntmps113
  go_wp2_with (fail)
  refine HC.out.mono ?_
  rintro e w1 ⟨rfl, hb1⟩
  go_wp2_with (fail)
  refine (HLD.out _ hb1).mono ?_
  rintro e w2 ⟨v, u, rfl, hv, hu, hb2⟩
  go_wp2
  go_ret2
  exact ⟨_, _, rfl, hv, hu, below_at hb1 (Nat.le_refl _) hb2⟩

set_option maxHeartbeats 2000000 in
set_option maxRecDepth 100000 in
theorem divideNormal_l (a b : Value) (m n : Nat) (w : World) (ha : W64 w a m) (hb : W64 w b n) (hn : Normal n) (hm : (dig B64 m).length ≤ 100000000) (hle : n ≤ m) (hs0 : 200 ≤ (dig B64 n).length) (hs : (dig B64 m).length < 200 + (dig B64 n).length) :
    Calls Tryz.prog 113 #[a, b] w (DivPost w (m / n) (m % n)) := by
  have hll := lenm hle
  have hcmp := cmp64_call a b m n w ha hb (by omega) (by omega)
  have hc0 : 0 ≤ cmpN m n := by
    rcases Nat.lt_or_ge n m with h | h
    · rw [cmpN_gt h]; omega
    · obtain rfl : m = n := by omega
      rw [cmpN_eq]; omega
  generalize cmpN m n = cc at *
  obtain ⟨n1, n2, n3⟩ := hn.len
  have hld : ∀ w', Below w.heap.size w w' → Calls Tryz.prog 126 #[a, b] w' (DivPost w' (m / n) (m % n)) := fun w' h => by
    obtain ⟨A, c, rfl, _, hA⟩ := ha.keep h
    obtain ⟨A', c', rfl, _, hB⟩ := hb.keep h
    have := longDivide_any A A' c c' _ _ _ _ w' hA hB (low_dig b64_two m) (low_dig b64_two n) (neat_dig b64_two n) rfl rfl n1 hll (by omega) n3
    rw [val_dig b64_two, val_dig b64_two] at this
    exact this
  have HC := Lib.hid hcmp
  have HLD := Lib.hid hld
  obtain ⟨A, c, rfl, _⟩ := ha
  obtain ⟨A', c', rfl, _⟩ := hb
  clear hcmp hld n2 n3 hn hle
  generalize (dig B64 m).length = L at *
  generalize (dig B64 n).length = L' at *
  have hs' : L < 200 + L' := hs
  have hs1 : ¬ L' < 200 := by omega
  go_enter Tryz.func113, Tryz.ntmps113
  go_wp2_with (fail)
  refine HC.out.mono ?_
  rintro e w1 ⟨rfl, hb1⟩
  go_wp2_with (fail)
  refine (HLD.out _ hb1).mono ?_
  rintro e w2 ⟨v, u, rfl, hv, hu, hb2⟩
  go_wp2
  go_ret2
  exact ⟨_, _, rfl, hv, hu, below_at hb1 (Nat.le_refl _) hb2⟩

theorem divideNormal_any (a b : Value) (m n : Nat) (w : World) (ha : W64 w a m) (hb : W64 w b n) (hn : Normal n) (hnl : (dig B64 n).length ≤ 100000000) (hm : (dig B64 m).length ≤ 100000000) (hs : (dig B64 n).length < 200 ∨ (dig B64 m).length < 200 + (dig B64 n).length) :
    Calls Tryz.prog 113 #[a, b] w (DivPost w (m / n) (m % n)) := by
  rcases Nat.lt_or_ge m n with h | h
  · exact divideNormal_lt a b m n w ha hb hnl hm h
  · rcases Nat.lt_or_ge (dig B64 n).length 200 with h2 | h2
    · exact divideNormal_s a b m n w ha hb hn hm h h2
    · exact divideNormal_l a b m n w ha hb hn hm h h2 (by omega)

/-- The shift that makes a divisor normal. -/
theorem normal_shift {n v : Nat} (h2 : 2 ≤ (dig B64 n).length) (hv : (dig B64 n)[(dig B64 n).length - 1]? = some v) : Normal (n * 2 ^ (64 - nbits v)) ∧ (dig B64 (n * 2 ^ (64 - nbits v))).length ≤ (dig B64 n).length ∧ v < B64 ∧ v ≠ 0 := by
  obtain ⟨L, hL⟩ : ∃ L, (dig B64 n).length = L + 1 := ⟨(dig B64 n).length - 1, by omega⟩
  rw [hL, Nat.add_sub_cancel] at hv
  have hb := nbits_words hL hv
  have hvl : v < B64 := low_dig b64_two n v (List.mem_of_getElem? hv)
  have hv64 := nbits_64 hvl
  have hv0 : v ≠ 0 := fun h => by
    have := (neat_iff _).1 (neat_dig b64_two n) (by omega)
    simp only [hL, Nat.add_sub_cancel] at this
    rw [(List.getElem?_eq_some_iff.1 hv).2] at this
    exact this h
  have hn0 : n ≠ 0 := fun h => by rw [h, dig_zero] at hL; simp at hL
  have h1 := nbits_ge hn0
  have h3 := nbits_lt n
  have hp := nbits_ne hv0
  have e : B64 ^ (L + 1) = 2 ^ (64 * L + 64) := by rw [← pow_b64]; congr 1
  have k1 : B64 ^ (L + 1) ≤ 2 * (n * 2 ^ (64 - nbits v)) := by
    have := Nat.mul_le_mul_right (2 ^ (64 - nbits v)) h1
    rw [← Nat.pow_add, show nbits n - 1 + (64 - nbits v) = 64 * L + 63 by omega] at this
    rw [e, show 64 * L + 64 = 64 * L + 63 + 1 by omega, Nat.pow_succ]
    omega
  have k2 : n * 2 ^ (64 - nbits v) < B64 ^ (L + 1) := by
    have := Nat.mul_lt_mul_of_pos_right h3 (Nat.two_pow_pos (64 - nbits v))
    rw [← Nat.pow_add, show nbits n + (64 - nbits v) = 64 * L + 64 by omega] at this
    rw [e]; exact this
  exact ⟨⟨L + 1, by omega, k1, k2⟩, by rw [hL]; exact dig_len_le b64_two k2, hvl, hv0⟩
theorem shift_len {m s : Nat} (hs : s ≤ 64) : (dig B64 (m * 2 ^ s)).length ≤ (dig B64 m).length + 1 := by
  refine dig_len_le b64_two ?_
  rw [Nat.pow_succ]
  have h1 := dig_len_lt b64_two (n := m)
  have h2 : 2 ^ s ≤ B64 := by
    have := Nat.pow_le_pow_right (show 0 < 2 by omega) hs
    have e : B64 = 2 ^ 64 := by decide
    omega
  exact Nat.lt_of_lt_of_le (Nat.mul_lt_mul_of_pos_right h1 (Nat.two_pow_pos s)) (Nat.mul_le_mul_left _ h2)

set_option maxHeartbeats 2000000 in
set_option maxRecDepth 100000 in
theorem divide_lt (a b : Value) (m n : Nat) (w : World) (ha : W64 w a m) (hb : W64 w b n) (hn : (dig B64 n).length ≤ 100000000) (hm : (dig B64 m).length ≤ 100000000) (hlt : m < n) :
    Calls Tryz.prog 89 #[a, b] w (DivPost w (m / n) (m % n)) := by
  have hcmp := cmp64_call a b m n w ha hb (by omega) (by omega)
  rw [cmpN_lt hlt] at hcmp
  rw [Nat.div_eq_of_lt hlt, Nat.mod_eq_of_lt hlt]
  have HC := Lib.hid hcmp
  have HA := Lib.hid ha
  obtain ⟨A, c, rfl, _⟩ := ha
  obtain ⟨A', c', rfl, _⟩ := hb
  clear hcmp hlt
  generalize (dig B64 m).length = L at *
  generalize (dig B64 n).length = L' at *
  go_enter Tryz.func89, Tryz.ntmps89
  go_wp2_with (fail)
  refine HC.out.mono ?_
  rintro e w1 ⟨rfl, hb1⟩
  go_wp2
  go_ret2
  exact ⟨_, _, rfl, w64_nil _, HA.out.keep hb1, hb1⟩

set_option maxHeartbeats 2000000 in
set_option maxRecDepth 100000 in
theorem divide_one (a b : Value) (m n : Nat) (w : World) (ha : W64 w a m) (hb : W64 w b n) (hn : (dig B64 n).length = 1) (hm : (dig B64 m).length ≤ 100000000) (hle : n ≤ m) :
    Calls Tryz.prog 89 #[a, b] w (DivPost w (m / n) (m % n)) := by
  have hcmp := cmp64_call a b m n w ha hb (by omega) (by omega)
  have hc0 : 0 ≤ cmpN m n := by
    rcases Nat.lt_or_ge n m with h | h
    · rw [cmpN_gt h]; omega
    · obtain rfl : m = n := by omega
      rw [cmpN_eq]; omega
  generalize cmpN m n = cc at *
  have hnl := dig_len_lt b64_two (n := n)
  rw [hn, Nat.pow_one] at hnl
  have hn0 : 0 < n := by
    rcases Nat.eq_zero_or_pos n with h | h
    · rw [h, dig_zero] at hn; simp at hn
    · exact h
  have hdw := fun w' (h : W64 w' a m) => divideWord_call a m n w' h (by omega) hn0 hnl
  have hrem : m % n < B64 := Nat.lt_of_lt_of_le (Nat.mod_lt _ hn0) (Nat.le_of_lt hnl)
  have htr := fun w' => trim_any (some ⟨w'.heap.size, 0, none⟩) 1 1 [m % n] (w'.alloc (.cells #[.int .u64 ((m % n : Nat) : Int)] 67)) (Row.nums0 (row_one w' (m % n)) 1) (Low.cons hrem (Low.nil _)) rfl (Nat.le_refl _) (by omega)
  have hown := fun w' => (own_of_trim b64_two (row_one w' (m % n)) (Low.cons hrem (Low.nil _)) (Nat.le_refl w'.heap.size)).is
  have hv1 : val B64 [m % n] = m % n := by simp [val]
  have hl1 : ([m % n] : List Nat).length = 1 := rfl
  rw [hv1] at htr
  rw [hv1, hl1] at hown
  obtain ⟨A', c', rfl, hc', hB⟩ := hb
  obtain ⟨g, off, v, rfl, hg, hv, hcv⟩ := hB.at_ (i := 0) (by omega)
  have hvn : v = n := by
    have e := dig_getElem? b64_two hv
    rw [Nat.pow_zero, Nat.div_one, Nat.mod_eq_of_lt hnl] at e
    exact e
  subst hvn
  rw [Nat.add_zero] at hcv
  rw [hn] at hcmp hc' ⊢
  have HC := Lib.hid hcmp
  have HDW := Lib.hid hdw
  have HTR := Lib.hid htr
  have HOW := Lib.hid hown
  have HA := Lib.hid ha
  obtain ⟨A, c, rfl, _⟩ := ha
  clear hcmp hdw htr hown hB hv hnl hrem hn hle hv1 hl1
  generalize (dig B64 m).length = L at *
  generalize m % v = R at *
  generalize m / v = Q at *
  go_enter Tryz.func89, Tryz.ntmps89
  go_wp2_with (fail)
  refine HC.out.mono ?_
  rintro e w1 ⟨rfl, hb1⟩
  have hcv1 := (hb1.cell (p := ⟨g, off, none⟩) hg).trans hcv
  go_wp2_with (fail)
  refine (HDW.out _ (HA.out.keep hb1)).mono ?_
  rintro e w2 ⟨q, rfl, hq, hb2⟩
  go_wp2_with (fail)
  refine (HTR.out _).mono ?_
  rintro e w3 ⟨rfl, rfl⟩
  go_wp2
  go_ret2
  exact ⟨_, _, rfl, hq.is.keep (below_new _ _), HOW.out _, (below_at hb1 (Nat.le_refl _) hb2).alloc (below_at hb1 (Nat.le_refl _) hb2).size _⟩

set_option maxHeartbeats 2000000 in
set_option maxRecDepth 100000 in
theorem divide_long (a b : Value) (m n : Nat) (w : World) (ha : W64 w a m) (hb : W64 w b n) (hn : 2 ≤ (dig B64 n).length) (hm : (dig B64 m).length ≤ 10000000) (hle : n ≤ m) (hs : (dig B64 n).length < 200 ∨ (dig B64 m).length < 199 + (dig B64 n).length) :
    Calls Tryz.prog 89 #[a, b] w (DivPost w (m / n) (m % n)) := by
  have hll := lenm hle
  have hcmp := cmp64_call a b m n w ha hb (by omega) (by omega)
  have hc0 : 0 ≤ cmpN m n := by
    rcases Nat.lt_or_ge n m with h | h
    · rw [cmpN_gt h]; omega
    · obtain rfl : m = n := by omega
      rw [cmpN_eq]; omega
  generalize cmpN m n = cc at *
  obtain ⟨A', c', hbe, hc', hB⟩ := id hb
  obtain ⟨g, off, v, hAe, hg, hv, hcv⟩ := hB.at_ (i := (dig B64 n).length - 1) (by omega)
  obtain ⟨hN, hnl, hvl, hv0⟩ := normal_shift hn hv
  have hnb := nbits_ne hv0
  have hlz := fun w => lz_any v hvl w
  have hs64 : 64 - nbits v ≤ 64 := by omega
  generalize 64 - nbits v = s at *
  have hml := shift_len (m := m) (s := s) hs64
  have hge : (dig B64 n).length ≤ (dig B64 (n * 2 ^ s)).length := dig_len_mono (Nat.le_mul_of_pos_right _ (Nat.two_pow_pos s))
  have hsa := fun w' (h : W64 w' a m) => shiftLeft_any a m s w' h (by omega) (by omega)
  have hsb := fun w' (h : W64 w' b n) => shiftLeft_any b n s w' h (by omega) (by omega)
  have hdn := fun x y w' (h : W64 w' x (m * 2 ^ s)) (k : W64 w' y (n * 2 ^ s)) => divideNormal_any x y _ _ w' h k hN (by omega) (by omega) (by omega)
  have e1 : m * 2 ^ s / (n * 2 ^ s) = m / n := Nat.mul_div_mul_right _ _ (Nat.two_pow_pos s)
  have e2 : m * 2 ^ s % (n * 2 ^ s) = m % n * 2 ^ s := Nat.mul_mod_mul_right _ _ _
  rw [e1, e2] at hdn
  have hrl : (dig B64 (m % n * 2 ^ s)).length ≤ 100000000 := by
    have := lenm (show m % n * 2 ^ s ≤ m * 2 ^ s from Nat.mul_le_mul_right _ (Nat.mod_le _ _))
    omega
  have hsr := fun x w' (h : W64 w' x (m % n * 2 ^ s)) => shiftRight_any x _ s w' h (by omega) (by omega)
  rw [Nat.mul_div_cancel _ (Nat.two_pow_pos s)] at hsr
  have HC := Lib.hid hcmp
  have HLZ := Lib.hid hlz
  have HSA := Lib.hid hsa
  have HSB := Lib.hid hsb
  have HDN := Lib.hid hdn
  have HSR := Lib.hid hsr
  have HA := Lib.hid ha
  have HB := Lib.hid hb
  obtain ⟨A, c, rfl, _⟩ := ha
  subst hbe hAe
  clear hcmp hlz hsa hsb hdn hsr hb hB hv hN hnl hml hge hrl e1 e2 hle hs hv0 hvl
  have hx : ((dig B64 n).length : Int) - 1 = (((dig B64 n).length - 1 : Nat) : Int) := by omega
  generalize (dig B64 m).length = L at *
  generalize hL' : (dig B64 n).length = L' at *
  obtain ⟨K, rfl⟩ : ∃ K, L' = K + 1 := ⟨L' - 1, by omega⟩
  rw [Nat.add_sub_cancel] at hcv
  clear hx hL'
  have hne : (((K : Int) + 1) == 1) = false := by simp; omega
  go_enter Tryz.func89, Tryz.ntmps89
  go_wp2_with (fail)
  refine HC.out.mono ?_
  rintro e w1 ⟨rfl, hb1⟩
  have hcv1 := (hb1.cell (p := ⟨g, off + K, none⟩) hg).trans hcv
  go_wp2_with (fail)
  refine (HLZ.out _).mono ?_
  rintro e w2 ⟨rfl, rfl⟩
  have ka := HA.out.keep hb1
  have kb := HB.out.keep hb1
  go_wp2_with (fail)
  refine (HSA.out _ ka).mono ?_
  rintro e w3 ⟨x, rfl, hx, hb3⟩
  go_wp2_with (fail)
  refine (HSB.out _ (kb.keep hb3)).mono ?_
  rintro e w4 ⟨y, rfl, hy, hb4⟩
  go_wp2_with (fail)
  refine (HDN.out _ _ _ (hx.is.keep hb4) hy.is).mono ?_
  rintro e w5 ⟨q, r, rfl, hq, hr, hb5⟩
  go_wp2_with (fail)
  refine (HSR.out _ _ hr).mono ?_
  rintro e w6 ⟨z, rfl, hz, hb6⟩
  go_wp2
  go_ret2
  exact ⟨_, _, rfl, hq.keep hb6, hz, below_at (below_at (below_at (below_at hb1 (Nat.le_refl _) hb3) (Nat.le_refl _) hb4) (Nat.le_refl _) hb5) (Nat.le_refl _) hb6⟩

/-- divide: where long division is what is done. -/
theorem divide_any (a b : Value) (m n : Nat) (w : World) (ha : W64 w a m) (hb : W64 w b n) (hn0 : 0 < n) (hn : (dig B64 n).length ≤ 10000000) (hm : (dig B64 m).length ≤ 10000000) (hs : (dig B64 n).length < 200 ∨ (dig B64 m).length < 199 + (dig B64 n).length) :
    Calls Tryz.prog 89 #[a, b] w (DivPost w (m / n) (m % n)) := by
  rcases Nat.lt_or_ge m n with h | h
  · exact divide_lt a b m n w ha hb (by omega) (by omega) h
  · have h1 := dig_len_pos (n := n) (by omega)
    rcases Nat.lt_or_ge (dig B64 n).length 2 with h2 | h2
    · exact divide_one a b m n w ha hb (by omega) (by omega) h
    · exact divide_long a b m n w ha hb h2 hm h hs
end Go.Proofs.YthgekjkgfccnaaaGreat

namespace Go.Proofs.YthgekjkgfccnaaaGreat
open Go.RowKit Num

theorem own_v (v : Nat) (h0 : 0 < v) (hv : v < B64) (w : World) : W64 (w.alloc (.cells #[.int .u64 (v : Int)] 67)) (.slice (some ⟨w.heap.size, 0, none⟩) 1 1) v := by
  have hr := row_one w v
  have hlow : Low B64 [v] := Low.cons hv (Low.nil _)
  have := (own_of_trim b64_two hr hlow (Nat.le_refl w.heap.size)).is
  have hval : val B64 [v] = v := by simp [val]
  have hd : dig B64 v = [v] := dig1 b64_two (by omega) hv
  rw [hval, hd] at this
  exact this
/-- The numbers of a root that is not found at once. -/
theorem root_numbers {n m r : Nat} (h : IsRoot n m r) (hn : 0 < n) (hs : n < nbits m) : ∃ D, (nbits m - 1) / n + 1 = D ∧ 2 ^ (D - 1) ≤ r ∧ r < 2 ^ D ∧ n * (D - 1) ≤ nbits m - 1 ∧ 2 ≤ D ∧ D ≤ nbits m := by
  have hm0 : m ≠ 0 := fun h0 => by rw [h0] at hs; simp [nbits] at hs
  have h1 := nbits_ge hm0
  have h2 := nbits_lt m
  have hd := Nat.div_add_mod (nbits m - 1) n
  have hr := Nat.mod_lt (nbits m - 1) hn
  have hge : 1 ≤ (nbits m - 1) / n := (Nat.le_div_iff_mul_le hn).2 (by omega)
  have hle := Nat.div_le_self (nbits m - 1) n
  refine ⟨_, rfl, ?_, ?_, ?_, by omega, by omega⟩
  all_goals generalize (nbits m - 1) / n = q at *
  · have : 2 ^ q < r + 1 := by
      refine pow_lt_iff (n := n) (Nat.lt_of_le_of_lt ?_ h.2)
      rw [← Nat.pow_mul, Nat.mul_comm]
      exact Nat.le_trans (Nat.pow_le_pow_right (by omega) (by omega)) h1
    rw [Nat.add_sub_cancel]; omega
  · refine pow_lt_iff (n := n) (Nat.lt_of_le_of_lt h.1 (Nat.lt_of_lt_of_le h2 ?_))
    rw [← Nat.pow_mul, Nat.mul_comm]
    refine Nat.pow_le_pow_right (by omega) ?_
    rw [Nat.mul_add]; omega
  · rw [Nat.add_sub_cancel]; omega
theorem pow_len {n m r : Nat} (h : r ^ n ≤ m) (h0 : 0 < r) (hn : n ≤ nbits m) (hb : nbits m ≤ 8000) : ∀ y, y ≤ 2 * r → ∀ j, j ≤ n → (dig B64 (y ^ j)).length ≤ 251 := by
  intro y hy j hj
  refine dig_len_le b64_two ?_
  have h1 : y ^ j ≤ (2 * r) ^ n := Nat.le_trans (Nat.pow_le_pow_left hy j) (Nat.pow_le_pow_right (by omega) hj)
  rw [Nat.mul_pow] at h1
  have h2 := Nat.mul_le_mul_left (2 ^ n) h
  have h3 : 2 ^ n * m < 2 ^ n * 2 ^ nbits m := Nat.mul_lt_mul_of_pos_left (nbits_lt m) (Nat.two_pow_pos n)
  rw [← Nat.pow_add] at h3
  have h4 : ∀ K, n + nbits m ≤ 64 * K → y ^ j < B64 ^ K := fun K hK => by
    rw [← pow_b64]
    exact Nat.lt_of_le_of_lt (Nat.le_trans h1 h2) (Nat.lt_of_lt_of_le h3 (Nat.pow_le_pow_right (by omega) hK))
  exact h4 251 (by omega)
theorem newton_y {D L low n r : Nat} (hn : n + 1 < 2 ^ L) (hl : 2 * low + L ≤ D) (hr : 2 ^ (D - 1) ≤ r) (hD : 1 ≤ D) (X : Nat) (hX : X = (r / 2 ^ low + 1) * 2 ^ low) : r < X ∧ X ≤ r + 2 ^ low ∧ n * ((X - (r + 1)) * (X - (r + 1))) ≤ 2 * (r + 1) := by
  have hp := Nat.two_pow_pos low
  have h1 := Nat.lt_div_mul_add (a := r) hp
  have h2 := Nat.div_mul_le_self r (2 ^ low)
  rw [Nat.add_mul, Nat.one_mul] at hX
  refine ⟨by omega, by omega, ?_⟩
  have h3 : X - (r + 1) ≤ 2 ^ low := by omega
  have h4 : n * ((X - (r + 1)) * (X - (r + 1))) ≤ 2 ^ L * (2 ^ low * 2 ^ low) := Nat.mul_le_mul (by omega) (Nat.mul_le_mul h3 h3)
  rw [← Nat.pow_add, ← Nat.pow_add] at h4
  have h5 : 2 ^ (L + (low + low)) ≤ 2 ^ D := Nat.pow_le_pow_right (by omega) (by omega)
  have h6 : 2 ^ D = 2 * 2 ^ (D - 1) := by rw [← Nat.pow_succ']; congr 1; omega
  omega

end Go.Proofs.YthgekjkgfccnaaaGreat

namespace Go.Proofs.YthgekjkgfccnaaaGreat
open Go.RowKit Num

theorem ownL_nil' (B : Nat) (w : World) : OwnL B w (.slice none 0 0) 0 := by
  unfold OwnL
  rw [dig_zero]
  exact ⟨rfl, .inl ⟨rfl, rfl⟩⟩

/-- The bits of the root from k on are found. -/
def RtSt (m n k r : Nat) : Prop := ∃ q, r = q * 2 ^ k ∧ r ^ n ≤ m ∧ m < (r + 2 ^ k) ^ n
theorem RtSt.step {m n i r : Nat} (h : RtSt m n (i + 1) r) : ((r + 2 ^ i) ^ n ≤ m → RtSt m n i (r + 2 ^ i)) ∧ (m < (r + 2 ^ i) ^ n → RtSt m n i r) := by
  obtain ⟨q, h1, h2, h3⟩ := h
  have e : r + 2 ^ i + 2 ^ i = r + 2 ^ (i + 1) := by rw [Nat.pow_succ]; omega
  refine ⟨fun h4 => ⟨q * 2 + 1, ?_, h4, by rw [e]; exact h3⟩, fun h4 => ⟨q * 2, ?_, h2, h4⟩⟩
  · rw [h1, Nat.pow_succ]; grind
  · rw [h1, Nat.pow_succ]; grind
theorem RtSt.fin {m n r : Nat} (h : RtSt m n 0 r) : IsRoot n m r := by
  obtain ⟨q, _, h2, h3⟩ := h
  exact ⟨h2, by simpa using h3⟩
theorem len32_bits {n k : Nat} (h : nbits n ≤ 32 * k) : (dig B32 n).length ≤ k := dig_len_le b32_two (by
  have e : B32 ^ k = 2 ^ (32 * k) := by rw [Nat.pow_mul]; rfl
  rw [e]; exact lt_of_nbits h)
theorem n32_empty (w : World) : N32 (w.alloc (.cells #[] 106)) (.slice (some ⟨w.heap.size, 0, none⟩) 0 0) 0 := by
  refine ⟨some ⟨w.heap.size, 0, none⟩, 0, ?_, ?_, ?_⟩ <;> rw [dig_zero]
  · rfl
  · exact Nat.le_refl _
  · exact Nums.nil

end Go.Proofs.YthgekjkgfccnaaaGreat

namespace Go.Proofs.YthgekjkgfccnaaaGreat
open Go.RowKit Num

set_option maxHeartbeats 1000000 in
set_option maxRecDepth 100000 in
theorem divMod_bad (a b : Value) (xs ys : List Nat) (w : World) (ha : Limbs w a xs) (hb : Limbs w b ys) (h0 : chk2 xs ys ≠ 0) : Calls Tryz.prog 68 #[a, b] w fun e w' => e = .returned (.tuple #[.slice none 0 0, .slice none 0 0, .int .i64 (chk2 xs ys)]) ∧ Below w.heap.size w w' := by
  have hc := checkAll_any w.heap.size 2 2 _ _ (nats2 ha hb) rfl (by omega)
  rw [chkAll2] at hc
  generalize chk2 xs ys = r at *
  have hbA := below_new w (.cells #[a, b] 57)
  have hq : (r != 0) = true := by simp [h0]
  have HC := Lib.hid hc
  have H0 := Lib.hid h0
  obtain ⟨A, c, rfl, _⟩ := ha
  obtain ⟨A', c', rfl, _⟩ := hb
  clear hc h0
  generalize xs.length = L at *
  generalize ys.length = L' at *
  go_enter Tryz.func68, Tryz.ntmps68
  go_wp2_with (go_at_call 88; refine HC.out.mono ?_; rintro e w1 ⟨rfl, rfl⟩)
  go_ret3
  exact ⟨rfl, hbA⟩

set_option maxHeartbeats 1000000 in
set_option maxRecDepth 100000 in
theorem divMod_zero (a b : Value) (m n : Nat) (w : World) (ha : N32 w a m) (hb : N32 w b n) (hm : (dig B32 m).length ≤ 262144) (hn : (dig B32 n).length ≤ 262144) (h0 : n = 0) : Calls Tryz.prog 68 #[a, b] w fun e w' => e = .returned (.tuple #[.slice none 0 0, .slice none 0 0, .int .i64 4]) ∧ Below w.heap.size w w' := by
  have hc := checkAll_any w.heap.size 2 2 _ _ (nats2 (Limbs.num ha (by omega)) (Limbs.num hb (by omega))) rfl (by omega)
  rw [chkAll2, chk2, if_pos (chk_dig hm), chk_dig hn] at hc
  have hbA := below_new w (.cells #[a, b] 57)
  have HC := Lib.hid hc
  have hz : (dig B32 n).length = 0 := by rw [h0, dig_zero]; rfl
  obtain ⟨A, c, rfl, _⟩ := ha
  obtain ⟨A', c', rfl, _⟩ := hb
  clear hc h0
  rw [hz] at HC hbA ⊢
  clear hz hn
  generalize (dig B32 m).length = L at *
  go_enter Tryz.func68, Tryz.ntmps68
  go_wp2_with (go_at_call 88; refine HC.out.mono ?_; rintro e w1 ⟨rfl, rfl⟩)
  go_ret3
  exact ⟨rfl, hbA⟩

/-- Quotient and remainder come back, both of the call's own. -/
def DivNat (w : World) (q r : Nat) (e : Ending) (w' : World) : Prop := ∃ v u, e = .returned (.tuple #[v, u, .int .i64 0]) ∧ OwnL w.heap.size w' v q ∧ OwnL w.heap.size w' u r ∧ Below w.heap.size w w'

set_option maxHeartbeats 2000000 in
set_option maxRecDepth 100000 in
theorem divMod_ok (a b : Value) (m n : Nat) (w : World) (ha : N32 w a m) (hb : N32 w b n) (hm : (dig B32 m).length ≤ 262144) (hn : (dig B32 n).length ≤ 262144) (h0 : 0 < n) (hs : (dig B64 n).length < 200 ∨ (dig B64 m).length < 199 + (dig B64 n).length) : Calls Tryz.prog 68 #[a, b] w (DivNat w (m / n) (m % n)) := by
  have hc := checkAll_any w.heap.size 2 2 _ _ (nats2 (Limbs.num ha (by omega)) (Limbs.num hb (by omega))) rfl (by omega)
  rw [chkAll2, chk2, if_pos (chk_dig hm), chk_dig hn] at hc
  have hbA := below_new w (.cells #[a, b] 57)
  have HC := Lib.hid hc
  have ha1 := ha.keep hbA
  have hb1 := hb.keep hbA
  have hf1 := fun w' (h : N32 w' a m) => fromNat_any a m w' h (by omega)
  have hf2 := fun w' (h : N32 w' b n) => fromNat_any b n w' h (by omega)
  have lm := words_le (n := m) (K := 131072) hm
  have ln := words_le (n := n) (K := 131072) hn
  have hdv := fun v u w' (h : W64 w' v m) (k : W64 w' u n) => divide_any v u m n w' h k h0 (by omega) (by omega) hs
  have hlq : (dig B64 (m / n)).length ≤ 131072 := Nat.le_trans (lenm (Nat.div_le_self _ _)) lm
  have hlr : (dig B64 (m % n)).length ≤ 131072 := Nat.le_trans (lenm (Nat.mod_le _ _)) lm
  have hn1 := fun v w' (h : W64 w' v (m / n)) => nat_any v _ w' h (by omega)
  have hn2 := fun v w' (h : W64 w' v (m % n)) => nat_any v _ w' h (by omega)
  have hpos : 0 < (dig B32 n).length := by
    rcases Nat.eq_zero_or_pos (dig B32 n).length with h | h
    · have := (dig_nil_iff b32_two).1 (List.eq_nil_of_length_eq_zero h); omega
    · exact h
  have HA1 := Lib.hid ha1
  have HB1 := Lib.hid hb1
  have HF1 := Lib.hid hf1
  have HF2 := Lib.hid hf2
  have HDV := Lib.hid hdv
  have HN1 := Lib.hid hn1
  have HN2 := Lib.hid hn2
  clear ha1 hb1 hf1 hf2 hdv hn1 hn2
  obtain ⟨A, c, rfl, _⟩ := ha
  obtain ⟨A', c', rfl, _⟩ := hb
  clear hc lm ln hlq hlr hs
  generalize (dig B32 m).length = L at *
  generalize (dig B32 n).length = L' at *
  go_enter Tryz.func68, Tryz.ntmps68
  go_wp2_with (fail)
  refine (HC.out).mono ?_
  rintro e w1 ⟨rfl, rfl⟩
  go_wp2_with (fail)
  refine (HF1.out _ HA1.out).mono ?_
  rintro e w2 ⟨v1, rfl, hv1, hb2⟩
  have b2 := below_at hbA (Nat.le_refl _) hb2
  have kb_2 := HB1.out.keep hb2
  have k1_2 := hv1.is
  go_wp2_with (fail)
  refine (HF2.out _ kb_2).mono ?_
  rintro e w3 ⟨v2, rfl, hv2, hb3⟩
  have b3 := below_at b2 (Nat.le_refl _) hb3
  have k1_3 := k1_2.keep hb3
  have k2_3 := hv2.is
  go_wp2_with (fail)
  refine (HDV.out _ _ _ k1_3 k2_3).mono ?_
  rintro e w4 ⟨q, r, rfl, hq, hr, hb4⟩
  have b4 := below_at b3 (Nat.le_refl _) hb4
  have kq_4 := hq
  have kr_4 := hr
  go_wp2_with (fail)
  refine (HN1.out _ _ kq_4).mono ?_
  rintro e w5 ⟨v4, rfl, hv4, hb5⟩
  have b5 := below_at b4 (Nat.le_refl _) hb5
  have kr_5 := kr_4.keep hb5
  go_wp2_with (fail)
  refine (HN2.out _ _ kr_5).mono ?_
  rintro e w6 ⟨v5, rfl, hv5, hb6⟩
  have b6 := below_at b5 (Nat.le_refl _) hb6
  go_wp2
  go_ret3
  exact ⟨_, _, rfl, (hv4.keep hb6).mono b4.size, hv5.mono b5.size, b6⟩

end Go.Proofs.YthgekjkgfccnaaaGreat

namespace Go.Proofs.YthgekjkgfccnaaaGreat
open Go.RowKit Num

/-- Numbers that are small enough for all that follows. -/
def Sml (n : Nat) : Prop := n < B32 ^ 6
theorem b32_6 : B32 ^ 6 = B64 ^ 3 := by unfold B32 B64; decide
theorem b32_bits : B32 ^ 6 = 2 ^ 192 := by unfold B32; decide
theorem Sml.len {n : Nat} (h : Sml n) : (dig B32 n).length ≤ 6 := dig_len_le b32_two h
theorem Sml.len64 {n : Nat} (h : Sml n) : (dig B64 n).length ≤ 3 := dig_len_le b64_two (by unfold Sml at h; rw [b32_6] at h; exact h)
theorem Sml.bits {n : Nat} (h : Sml n) : nbits n ≤ 192 := nbits_le (by unfold Sml at h; rw [b32_bits] at h; exact h)
theorem sml_of {n k : Nat} (h : n < k) (hk : k ≤ 2 ^ 192) : Sml n := by unfold Sml; rw [b32_bits]; exact Nat.lt_of_lt_of_le h hk
theorem sml_i64 {n : Nat} (h : n < 9223372036854775808) : Sml n := sml_of h (by decide)
theorem Sml.le {m n : Nat} (h : Sml n) (hm : m ≤ n) : Sml m := Nat.lt_of_le_of_lt hm h

set_option maxHeartbeats 400000 in
set_option maxRecDepth 100000 in
theorem wtimes_any (a : Value) (m n : Nat) (w : World) (ha : N32 w a m) (hm : Sml m) (hn : n < 9223372036854775808) (hp : Sml (m * n)) : Calls Tryz.prog 67 #[a, .int .i64 (n : Int)] w (NatPost w (m * n)) := by
  have hof := fun w1 => of_any n (by unfold B64; omega) w1
  have hcv : IntKind.u64.wrap (n : Int) = (n : Int) := by rw [IntKind.wrap_u64]; omega
  have hml := fun b w1 (h : N32 w1 a m) (k : N32 w1 b n) => mul_ok mulSpec_small (by omega) a b m n w1 h k (by have := hm.len; omega) (by have := (sml_i64 hn).len; omega) (by have := hm.len; omega) (by have := (sml_i64 hn).len; omega) (by have := hp.bits; omega)
  have HOF := Lib.hid hof
  have HML := Lib.hid hml
  have HA := Lib.hid ha
  clear hof hml ha
  go_enter Tryz.func67, Tryz.ntmps67
  go_wp2_with (fail)
  refine (HOF.out _).mono ?_
  rintro e w1 ⟨v, rfl, hv, hb1⟩
  have HC := HML.out v w1 (HA.out.keep hb1) hv.is
  have HCC := Lib.hid HC
  clear HC
  go_wp2_with (fail)
  refine (HCC.out).mono ?_
  rintro e w2 ⟨u, rfl, hu, hb2⟩
  go_wp2
  go_ret
  exact ⟨_, rfl, hu.mono hb1.size, below_on hb1 hb1.size hb2⟩

theorem pow10_sml {k : Nat} (h : k ≤ 30) : Sml (10 ^ k) := sml_of (k := 10 ^ 31) (Nat.pow_lt_pow_right (by omega) (by omega)) (by decide)
set_option maxHeartbeats 400000 in
set_option maxRecDepth 100000 in
theorem tenTo_any (k : Nat) (w : World) (hk : k ≤ 30) : Calls Tryz.prog 43 #[.int .i64 (k : Int)] w (NatPost w (10 ^ k)) := by
  have hof := fun w1 => of_any 10 (by unfold B64; omega) w1
  have hpw := fun b w1 (h : N32 w1 b 10) => pow_ok b 10 k w1 h (by have := (sml_i64 (n := 10) (by omega)).len; omega) (by omega) (by have := (sml_i64 (n := 10) (by omega)).bits; omega)
  have HOF := Lib.hid hof
  have HPW := Lib.hid hpw
  clear hof hpw
  go_enter Tryz.func43, Tryz.ntmps43
  go_wp2_with (fail)
  refine (HOF.out _).mono ?_
  rintro e w1 ⟨v, rfl, hv, hb1⟩
  have HCC := Lib.hid (HPW.out v w1 hv.is)
  go_wp2_with (fail)
  refine (HCC.out).mono ?_
  rintro e w2 ⟨u, rfl, hu, hb2⟩
  go_wp2
  go_ret
  exact ⟨_, rfl, hu.mono hb1.size, below_on hb1 hb1.size hb2⟩

def IntPost (w : World) (n : Nat) (e : Ending) (w' : World) : Prop := e = .returned (.int .i64 (n : Int)) ∧ Below w.heap.size w w'
set_option maxHeartbeats 400000 in
set_option maxRecDepth 100000 in
theorem quotient_any (a b : Value) (m n : Nat) (w : World) (ha : N32 w a m) (hb : N32 w b n) (hm : Sml m) (hn : Sml n) (h0 : 0 < n) (hq : m / n < 9223372036854775808) : Calls Tryz.prog 41 #[a, b] w (IntPost w (m / n)) := by
  have hdv := divMod_ok a b m n w ha hb (by have := hm.len; omega) (by have := hn.len; omega) h0 (.inl (by have := hn.len64; omega))
  have hq64 : (dig B32 (m / n)).length ≤ 2 := dig_len_le b32_two (by unfold B32; omega)
  have hu := fun v w1 (h : N32 w1 v (m / n)) => uint64_ok v (m / n) w1 h hq64
  generalize m / n = q at *
  have hcv : IntKind.i64.wrap (q : Int) = (q : Int) := by rw [IntKind.wrap_i64]; omega
  have HDV := Lib.hid hdv
  have HU := Lib.hid hu
  clear hdv hu ha hb hq64
  go_enter Tryz.func41, Tryz.ntmps41
  go_wp2_with (fail)
  refine (HDV.out).mono ?_
  rintro e w1 ⟨v, u, rfl, hv, _, hb1⟩
  have HCC := Lib.hid (HU.out v w1 hv.is)
  go_wp2_with (fail)
  refine (HCC.out).mono ?_
  rintro e w2 ⟨rfl, hb2⟩
  go_wp2
  go_ret
  exact ⟨rfl, below_on hb1 hb1.size hb2⟩

/-- The product of some numbers. -/
def prodN (l : List Nat) : Nat := l.foldl (· * ·) 1
theorem prodN_snoc {l : List Nat} {k x : Nat} (h : l[k]? = some x) : prodN (l.take (k + 1)) = prodN (l.take k) * x := by
  unfold prodN
  rw [List.take_add_one, h]
  simp
def numI (l : List Nat) : List Int := l.map fun (x : Nat) => (x : Int)
theorem numI_at {l : List Nat} {k x : Nat} (h : l[k]? = some x) : (numI l)[k]? = some (x : Int) := by simp [numI, h]
set_option maxHeartbeats 1000000 in
set_option maxRecDepth 100000 in
theorem product_any (A : Option Addr) (cp L : Nat) (l : List Nat) (w : World) (hA : Ints w A (numI l)) (hL : L = l.length) (hl : l.length ≤ 100) (hx : ∀ x ∈ l, x < 9223372036854775808) (hs : ∀ k, k ≤ l.length → Sml (prodN (l.take k))) :
    Calls Tryz.prog 42 #[.slice A L cp] w (NatPost w (prodN l)) := by
  have hof := fun w1 => of_any 1 (by unfold B64; omega) w1
  have htm := fun a m n w1 (h : N32 w1 a m) (h1 : Sml m) (h2 : n < 9223372036854775808) (h3 : Sml (m * n)) => wtimes_any a m n w1 h h1 h2 h3
  have HOF := Lib.hid hof
  have HTM := Lib.hid htm
  have HA := Lib.hid hA
  have HL := Lib.hid hL
  have HS := Lib.hid hs
  have HX := Lib.hid hx
  clear hof htm hA hL hs hx
  go_enter Tryz.func42, Tryz.ntmps42
  go_wp2_with (fail)
  refine (HOF.out _).mono ?_
  rintro e w1 ⟨v, rfl, hv, hb1⟩
  go_wp2
  go_loopw [3, 5, 9] (fun p _ t wr => ∃ k : Nat, k ≤ L ∧ t = .int .i64 (k : Int) ∧ OwnL w.heap.size wr p (prodN (l.take k)) ∧ Below w.heap.size w wr) (fun _ _ t _ => L - (intOf t).toNat)
  case atStart => exact ⟨0, Nat.zero_le _, rfl, hv, hb1⟩
  case round =>
    clear hv hb1
    obtain ⟨k, hk, rfl, hp, hbl⟩ := hrel
    by_cases hlt : k < L
    · have hkl : k < l.length := by have := HL.out; omega
      obtain ⟨x, hx⟩ : ∃ x, l[k]? = some x := ⟨l[k], List.getElem?_eq_getElem hkl⟩
      obtain ⟨g, off, y, rfl, hg, hy, hc⟩ := Ints.at_ (HA.out.keep hbl) (i := k) (by simp [numI]; exact hkl)
      have hyx : y = (x : Int) := by rw [numI_at hx] at hy; injection hy with hy; exact hy.symm
      subst hyx
      have hsn := prodN_snoc hx
      have hx1 := HX.out x (List.mem_of_getElem? hx)
      have hs1 := HS.out k (by omega)
      have hs2 := HS.out (k + 1) (by omega)
      rw [hsn] at hs2
      have HSN := Lib.hid hsn
      clear hsn hx hy
      generalize prodN (l.take k) = m at *
      have HC := Lib.hid (HTM.out _ m x wr hp.is hs1 hx1 hs2)
      have hi1 : IntKind.i64.wrap ((k : Int) + 1) = (k : Int) + 1 := wrapI (by omega) (by omega)
      go_wp2_with (fail)
      refine (HC.out).mono ?_
      rintro e w2 ⟨u, rfl, hu, hb2⟩
      go_wp2
      go_roundw
      case rel => exact ⟨k + 1, by omega, by go_num, by rw [HSN.out]; exact hu.mono hbl.size, below_on hbl hbl.size hb2⟩
      case measure => simp [intOf]; omega
    · obtain rfl : k = L := by omega
      have hp2 : OwnL w.heap.size wr u3 (prodN l) := by have := hp; rwa [HL.out, List.take_length] at this
      have HP := Lib.hid hp2
      clear hp hp2
      go_wp2
      go_ret
      exact ⟨_, rfl, HP.out, hbl⟩
end Go.Proofs.YthgekjkgfccnaaaGreat

namespace Go.Proofs.YthgekjkgfccnaaaGreat
open Go.RowKit Num

theorem within_t (v lo hi : Int) (h : lo ≤ v ∧ v ≤ hi) (w : World) : Calls Tryz.prog 39 #[.int .i64 v, .int .i64 lo, .int .i64 hi] w fun e w' => e = .returned (.bool true) ∧ w = w' := by
  have := within_any v lo hi w; rwa [inB_of h] at this
theorem within_f (v lo hi : Int) (h : ¬ (lo ≤ v ∧ v ≤ hi)) (w : World) : Calls Tryz.prog 39 #[.int .i64 v, .int .i64 lo, .int .i64 hi] w fun e w' => e = .returned (.bool false) ∧ w = w' := by
  have := within_any v lo hi w; rwa [inB_not h] at this

def leL : List Nat → List Nat → Prop
  | [], [] => True
  | x :: l, y :: m => x ≤ y ∧ leL l m
  | _, _ => False
theorem fold_mono : ∀ (l m : List Nat) (a b : Nat), leL l m → a ≤ b → l.foldl (· * ·) a ≤ m.foldl (· * ·) b
  | [], [], _, _, _, h => h
  | [], _ :: _, _, _, h, _ => absurd h (by simp [leL])
  | _ :: _, [], _, _, h, _ => absurd h (by simp [leL])
  | x :: l, y :: m, a, b, h, hab => fold_mono l m (a * x) (b * y) h.2 (Nat.mul_le_mul hab h.1)
theorem prodN_mono {l m : List Nat} (h : leL l m) : prodN l ≤ prodN m := fold_mono _ _ _ _ h (Nat.le_refl _)
theorem fold_ge : ∀ {l : List Nat} {a : Nat}, (∀ x ∈ l, 1 ≤ x) → a ≤ l.foldl (· * ·) a
  | [], _, _ => Nat.le_refl _
  | x :: l, a, h => Nat.le_trans (Nat.le_mul_of_pos_right a (h x (by simp))) (fold_ge fun y hy => h y (by simp [hy]))
theorem prodN_take_le {l : List Nat} (h : ∀ x ∈ l, 1 ≤ x) (k : Nat) : prodN (l.take k) ≤ prodN l := by
  have e : prodN l = (l.drop k).foldl (· * ·) (prodN (l.take k)) := by
    unfold prodN
    rw [← List.foldl_append, List.take_append_drop]
  rw [e]
  exact fold_ge fun x hx => h x (List.mem_of_mem_drop hx)
theorem prod_ok (A : Option Addr) (cp L : Nat) (l : List Nat) (w : World) (hA : Ints w A (numI l)) (hL : L = l.length) (hl : l.length ≤ 100) (h1 : ∀ x ∈ l, 1 ≤ x) (hx : ∀ x ∈ l, x < 9223372036854775808) (hs : Sml (prodN l)) :
    Calls Tryz.prog 42 #[.slice A L cp] w (NatPost w (prodN l)) :=
  product_any A cp L l w hA hL hl hx fun k _ => hs.le (prodN_take_le h1 k)

/-- What is pulled, and how much of it is borne. -/
def pullN (d w l f : Nat) : Nat := prodN [355, d, w, w, l, l, f, f] / (10 ^ 23 * 113)
def stressN (d l f : Nat) : Nat := prodN [4, d, l, l, f, f] / 10 ^ 20
def holdN (d s l f sf : Nat) : Bool := decide (prodN [400, d, l, l, f, f] ≤ 10 ^ 20 * (sf * s))
structure InD (d : Nat) : Prop where (lo : 1 ≤ d) (hi : d ≤ 30000)
structure InW (d : Nat) : Prop where (lo : 1 ≤ d) (hi : d ≤ 2000)
structure InL (d : Nat) : Prop where (lo : 1 ≤ d) (hi : d ≤ 100000)
structure InF (d : Nat) : Prop where (lo : 1 ≤ d) (hi : d ≤ 10000000)
structure InS (d : Nat) : Prop where (lo : 1 ≤ d) (hi : d ≤ 100000)
structure InP (d : Nat) : Prop where (lo : 1 ≤ d) (hi : d ≤ 100)

theorem pull_le {d w l f : Nat} (hd : InD d) (hw : InW w) (hl : InL l) (hf : InF f) : prodN [355, d, w, w, l, l, f, f] ≤ 42600000000000000000000000000000000000 :=
  Nat.le_trans (prodN_mono (m := [355, 30000, 2000, 2000, 100000, 100000, 10000000, 10000000]) ⟨Nat.le_refl _, hd.hi, hw.hi, hw.hi, hl.hi, hl.hi, hf.hi, hf.hi, trivial⟩) (by decide)
theorem stress_le {c d l f : Nat} (hc : c ≤ 400) (hd : InD d) (hl : InL l) (hf : InF f) : prodN [c, d, l, l, f, f] ≤ 12000000000000000000000000000000 :=
  Nat.le_trans (prodN_mono (m := [400, 30000, 100000, 100000, 10000000, 10000000]) ⟨hc, hd.hi, hl.hi, hl.hi, hf.hi, hf.hi, trivial⟩) (by decide)
theorem pull_lt {d w l f : Nat} (hd : InD d) (hw : InW w) (hl : InL l) (hf : InF f) : pullN d w l f ≤ 4000000000000 := by
  unfold pullN
  have := pull_le hd hw hl hf
  generalize prodN [355, d, w, w, l, l, f, f] = x at *
  omega
theorem stress_lt {d l f : Nat} (hd : InD d) (hl : InL l) (hf : InF f) : stressN d l f ≤ 4000000000000 := by
  unfold stressN
  have := stress_le (c := 4) (by omega) hd hl hf
  generalize prodN [4, d, l, l, f, f] = x at *
  omega

/-- A list that was just built. -/
theorem ints_new (w : World) (l : List Int) : Ints (w.alloc (.cells (is l).toArray 3)) (some ⟨w.heap.size, 0, none⟩) l := (Blk.new w 3 (is l)).vals0

set_option maxHeartbeats 400000 in
set_option maxRecDepth 100000 in
theorem tension_any (d wd l f : Nat) (w : World) (hd : InD d) (hw : InW wd) (hl : InL l) (hf : InF f) : Calls Tryz.prog 40 #[.int .i64 (d : Int), .int .i64 (wd : Int), .int .i64 (l : Int), .int .i64 (f : Int)] w (IntPost w (pullN d wd l f)) := by
  have hle := pull_le hd hw hl hf
  have hsm : Sml (prodN [355, d, wd, wd, l, l, f, f]) := sml_of (k := 42600000000000000000000000000000000001) (Nat.lt_succ_of_le hle) (by decide)
  have hpr := prod_ok (some ⟨w.heap.size, 0, none⟩) 8 8 [355, d, wd, wd, l, l, f, f] _ (ints_new w _) rfl (by simp) (by simp; have := hd.lo; have := hw.lo; have := hl.lo; have := hf.lo; omega) (by simp; have := hd.hi; have := hw.hi; have := hl.hi; have := hf.hi; omega) hsm
  have hbA := below_new w (.cells (is (numI [355, d, wd, wd, l, l, f, f])).toArray 3)
  have hten := fun w1 => tenTo_any 23 w1 (by omega)
  have htm := fun a w1 (h : N32 w1 a (10 ^ 23)) => wtimes_any a (10 ^ 23) 113 w1 h (pow10_sml (by omega)) (by omega) (sml_of (k := 10 ^ 26) (by decide) (by decide))
  have hq := fun a b w1 (h : N32 w1 a (prodN [355, d, wd, wd, l, l, f, f])) (k : N32 w1 b (10 ^ 23 * 113)) => quotient_any a b _ _ w1 h k hsm (sml_of (k := 10 ^ 26) (by decide) (by decide)) (by decide) (Nat.lt_of_le_of_lt (pull_lt hd hw hl hf) (by decide))
  have HPR := Lib.hid hpr
  have HTE := Lib.hid hten
  have HTM := Lib.hid htm
  have HQ := Lib.hid hq
  have HBA := Lib.hid hbA
  clear hpr hten htm hq hle hsm hbA
  go_enter Tryz.func40, Tryz.ntmps40
  go_wp2_with (fail)
  refine (HPR.out).mono ?_
  rintro e w1 ⟨v, rfl, hv, hb1⟩
  have b1 := below_on HBA.out HBA.out.size hb1
  go_wp2_with (fail)
  refine (HTE.out _).mono ?_
  rintro e w2 ⟨v2, rfl, hv2, hb2⟩
  have b2 := below_on b1 b1.size hb2
  have HC := Lib.hid (HTM.out v2 w2 hv2.is)
  go_wp2_with (fail)
  refine (HC.out).mono ?_
  rintro e w3 ⟨v3, rfl, hv3, hb3⟩
  have b3 := below_on b2 b2.size hb3
  have HD := Lib.hid (HQ.out v v3 w3 ((hv.keep hb2).keep hb3).is hv3.is)
  go_wp2_with (fail)
  refine (HD.out).mono ?_
  rintro e w4 ⟨rfl, hb4⟩
  go_wp2
  go_ret
  exact ⟨rfl, below_on b3 b3.size hb4⟩

def Int2 (w : World) (n : Int) (k : Int) (e : Ending) (w' : World) : Prop := e = .returned (.tuple #[.int .i64 n, .int .i64 k]) ∧ Below w.heap.size w w'
theorem Tension_ok (d wd l f : Nat) (w : World) (hd : InD d) (hw : InW wd) (hl : InL l) (hf : InF f) : Calls Tryz.prog 9 #[.int .i64 (d : Int), .int .i64 (wd : Int), .int .i64 (l : Int), .int .i64 (f : Int)] w (Int2 w (pullN d wd l f : Nat) 0) := by
  have h1 := fun w1 => within_t (d : Int) 1 30000 (by have := hd.lo; have := hd.hi; omega) w1
  have h2 := fun w1 => within_t (wd : Int) 1 2000 (by have := hw.lo; have := hw.hi; omega) w1
  have h3 := fun w1 => within_t (l : Int) 1 100000 (by have := hl.lo; have := hl.hi; omega) w1
  have h4 := fun w1 => within_t (f : Int) 1 10000000 (by have := hf.lo; have := hf.hi; omega) w1
  have h5 := fun w1 => tension_any d wd l f w1 hd hw hl hf
  have H1 := Lib.hid h1
  have H2 := Lib.hid h2
  have H3 := Lib.hid h3
  have H4 := Lib.hid h4
  have H5 := Lib.hid h5
  clear h1 h2 h3 h4 h5
  go_enter Tryz.func9, Tryz.ntmps9
  go_wp2_with (fail)
  refine (H1.out _).mono ?_
  rintro e w1 ⟨rfl, rfl⟩
  go_wp2_with (fail)
  refine (H2.out _).mono ?_
  rintro e w1 ⟨rfl, rfl⟩
  go_wp2_with (fail)
  refine (H3.out _).mono ?_
  rintro e w1 ⟨rfl, rfl⟩
  go_wp2_with (fail)
  refine (H4.out _).mono ?_
  rintro e w1 ⟨rfl, rfl⟩
  go_wp2_with (fail)
  refine (H5.out _).mono ?_
  rintro e w1 ⟨rfl, hb⟩
  go_wp2
  go_ret2
  exact ⟨rfl, hb⟩
end Go.Proofs.YthgekjkgfccnaaaGreat

namespace Go.Proofs.YthgekjkgfccnaaaGreat
open Go.RowKit Num

set_option maxHeartbeats 400000 in
set_option maxRecDepth 100000 in
theorem Stress_ok (d l f : Nat) (w : World) (hd : InD d) (hl : InL l) (hf : InF f) : Calls Tryz.prog 10 #[.int .i64 (d : Int), .int .i64 (l : Int), .int .i64 (f : Int)] w (Int2 w (stressN d l f : Nat) 0) := by
  have h1 := fun w1 => within_t (d : Int) 1 30000 (by have := hd.lo; have := hd.hi; omega) w1
  have h2 := fun w1 => within_t (l : Int) 1 100000 (by have := hl.lo; have := hl.hi; omega) w1
  have h3 := fun w1 => within_t (f : Int) 1 10000000 (by have := hf.lo; have := hf.hi; omega) w1
  have hle := stress_le (c := 4) (by omega) hd hl hf
  have hsm : Sml (prodN [4, d, l, l, f, f]) := sml_of (k := 12000000000000000000000000000000001) (Nat.lt_of_le_of_lt hle (by decide)) (by decide)
  have hpr := prod_ok (some ⟨w.heap.size, 0, none⟩) 6 6 [4, d, l, l, f, f] _ (ints_new w _) rfl (by simp) (by simp; have := hd.lo; have := hl.lo; have := hf.lo; omega) (by simp; have := hd.hi; have := hl.hi; have := hf.hi; omega) hsm
  have hba := below_new w (.cells (is (numI [4, d, l, l, f, f])).toArray 3)
  have hten := fun w1 => tenTo_any 20 w1 (by omega)
  have hq := fun a b w1 (h : N32 w1 a (prodN [4, d, l, l, f, f])) (k : N32 w1 b (10 ^ 20)) => quotient_any a b _ _ w1 h k hsm (pow10_sml (by omega)) (by decide) (Nat.lt_of_le_of_lt (stress_lt hd hl hf) (by decide))
  have H1 := Lib.hid h1
  have H2 := Lib.hid h2
  have H3 := Lib.hid h3
  have Hpr := Lib.hid hpr
  have Hten := Lib.hid hten
  have Hq := Lib.hid hq
  have Hba := Lib.hid hba
  clear h1 h2 h3 hpr hten hq hba
  clear hle hsm
  go_enter Tryz.func10, Tryz.ntmps10
  go_wp2_with (fail)
  refine (H1.out _).mono ?_
  rintro e w1 ⟨rfl, rfl⟩
  go_wp2_with (fail)
  refine (H2.out _).mono ?_
  rintro e w1 ⟨rfl, rfl⟩
  go_wp2_with (fail)
  refine (H3.out _).mono ?_
  rintro e w1 ⟨rfl, rfl⟩
  go_wp2_with (fail)
  refine (Hpr.out).mono ?_
  rintro e w1 ⟨v, rfl, hv, hb1⟩
  have b1 := below_on Hba.out Hba.out.size hb1
  go_wp2_with (fail)
  refine (Hten.out _).mono ?_
  rintro e w2 ⟨v2, rfl, hv2, hb2⟩
  have b2 := below_on b1 b1.size hb2
  have HD := Lib.hid (Hq.out v v2 w2 (hv.keep hb2).is hv2.is)
  go_wp2_with (fail)
  refine (HD.out).mono ?_
  rintro e w3 ⟨rfl, hb3⟩
  go_wp2
  go_ret2
  exact ⟨rfl, below_on b2 b2.size hb3⟩

theorem strength_sml {s sf : Nat} (hs : InS s) (hp : InP sf) : sf * s ≤ 10000000 := Nat.le_trans (Nat.mul_le_mul hp.hi hs.hi) (by decide)
theorem strength_sml2 {x : Nat} (h : x ≤ 10000000) : Sml (10 ^ 20 * x) := sml_of (k := 10 ^ 28) (Nat.lt_of_le_of_lt (Nat.mul_le_mul_left _ h) (by decide)) (by decide)
set_option maxHeartbeats 400000 in
set_option maxRecDepth 100000 in
theorem strengthOf_any (s sf : Nat) (w : World) (hs : InS s) (hp : InP sf) : Calls Tryz.prog 73 #[.int .i64 (s : Int), .int .i64 (sf : Int)] w (NatPost w (10 ^ 20 * (sf * s))) := by
  have hle := strength_sml hs hp
  obtain ⟨p, hpe⟩ : ∃ p, sf * s = p := ⟨_, rfl⟩
  have hw0 : ((sf : Int) * (s : Int)) = (p : Int) := by rw [← hpe]; push_cast; rfl
  rw [hpe] at hle ⊢
  have hw1 : IntKind.i64.wrap ((sf : Int) * (s : Int)) = (p : Int) := by rw [hw0, wrapI (by omega) (by omega)]
  have hten := fun w1 => tenTo_any 20 w1 (by omega)
  have htm := fun a w1 (h : N32 w1 a (10 ^ 20)) => wtimes_any a (10 ^ 20) p w1 h (pow10_sml (by omega)) (by omega) (strength_sml2 hle)
  have hw2 : wrap64 ((sf : Int) * (s : Int)) = (p : Int) := by rw [hw0]; unfold wrap64; omega
  clear hpe hw0
  have Hten := Lib.hid hten
  have Htm := Lib.hid htm
  clear hten htm
  go_enter Tryz.func73, Tryz.ntmps73
  go_wp2_with (fail)
  refine (Hten.out _).mono ?_
  rintro e w1 ⟨v, rfl, hv, hb1⟩
  have HC := Lib.hid (Htm.out v w1 hv.is)
  go_wp2_with (fail)
  refine (HC.out).mono ?_
  rintro e w2 ⟨v2, rfl, hv2, hb2⟩
  go_wp2
  go_ret
  exact ⟨_, rfl, hv2.mono hb1.size, below_on hb1 hb1.size hb2⟩

theorem cmp_le {m n : Nat} : decide (cmpN m n ≤ 0) = decide (m ≤ n) := by
  rcases Nat.lt_trichotomy m n with h | h | h
  · rw [cmpN_lt h]; simp; omega
  · subst h; rw [cmpN_eq]; simp
  · rw [cmpN_gt h]; simp; omega
def BoolPost (w : World) (b : Bool) (e : Ending) (w' : World) : Prop := e = .returned (.bool b) ∧ Below w.heap.size w w'
set_option maxHeartbeats 400000 in
set_option maxRecDepth 100000 in
theorem holds_any (d s l f sf : Nat) (w : World) (hd : InD d) (hs : InS s) (hl : InL l) (hf : InF f) (hp : InP sf) : Calls Tryz.prog 45 #[.int .i64 (d : Int), .int .i64 (s : Int), .int .i64 (l : Int), .int .i64 (f : Int), .int .i64 (sf : Int)] w (BoolPost w (holdN d s l f sf)) := by
  have hle := stress_le (c := 400) (by omega) hd hl hf
  have hsm : Sml (prodN [400, d, l, l, f, f]) := sml_of (k := 12000000000000000000000000000000001) (Nat.lt_of_le_of_lt hle (by decide)) (by decide)
  have hpr := prod_ok (some ⟨w.heap.size, 0, none⟩) 6 6 [400, d, l, l, f, f] _ (ints_new w _) rfl (by simp) (by simp; have := hd.lo; have := hl.lo; have := hf.lo; omega) (by simp; have := hd.hi; have := hl.hi; have := hf.hi; omega) hsm
  have hba := below_new w (.cells (is (numI [400, d, l, l, f, f])).toArray 3)
  have hst := fun w1 => strengthOf_any s sf w1 hs hp
  have hsm2 := strength_sml2 (strength_sml hs hp)
  have hcm := fun a b w1 (h : N32 w1 a (prodN [400, d, l, l, f, f])) (k : N32 w1 b (10 ^ 20 * (sf * s))) => cmp_ok a b _ _ w1 h k (by have := hsm.len; omega) (by have := hsm2.len; omega)
  have hcl : decide (cmpN (prodN [400, d, l, l, f, f]) (10 ^ 20 * (sf * s)) ≤ 0) = holdN d s l f sf := cmp_le
  generalize cmpN (prodN [400, d, l, l, f, f]) (10 ^ 20 * (sf * s)) = c at *
  have Hpr := Lib.hid hpr
  have Hba := Lib.hid hba
  have Hst := Lib.hid hst
  have Hcm := Lib.hid hcm
  have Hcl := Lib.hid hcl
  clear hpr hba hst hcm hcl
  clear hle hsm hsm2
  go_enter Tryz.func45, Tryz.ntmps45
  go_wp2_with (fail)
  refine (Hpr.out).mono ?_
  rintro e w1 ⟨v, rfl, hv, hb1⟩
  have b1 := below_on Hba.out Hba.out.size hb1
  go_wp2_with (fail)
  refine (Hst.out _).mono ?_
  rintro e w2 ⟨v2, rfl, hv2, hb2⟩
  have b2 := below_on b1 b1.size hb2
  have HD := Lib.hid (Hcm.out v v2 w2 (hv.keep hb2).is hv2.is)
  go_wp2_with (fail)
  refine (HD.out).mono ?_
  rintro e w3 ⟨rfl, hb3⟩
  go_wp2
  go_ret
  exact ⟨by rw [← Hcl.out]; rfl, below_on b2 b2.size hb3⟩

/-- The four ranges. -/
def strongB (d s f sf : Int) : Bool := ((inB d 1 30000 && inB s 1 100000) && inB f 1 10000000) && inB sf 1 100
set_option maxHeartbeats 400000 in
set_option maxRecDepth 100000 in
theorem areStrong_any (d s f sf : Int) (w : World) : Calls Tryz.prog 44 #[.int .i64 d, .int .i64 s, .int .i64 f, .int .i64 sf] w fun e w' => e = .returned (.bool (strongB d s f sf)) ∧ w = w' := by
  have h1 := fun w1 => within_any d 1 30000 w1
  have h2 := fun w1 => within_any s 1 100000 w1
  have h3 := fun w1 => within_any f 1 10000000 w1
  have h4 := fun w1 => within_any sf 1 100 w1
  unfold strongB
  generalize inB d 1 30000 = a1 at *
  generalize inB s 1 100000 = a2 at *
  generalize inB f 1 10000000 = a3 at *
  generalize inB sf 1 100 = a4 at *
  have H1 := Lib.hid h1
  have H2 := Lib.hid h2
  have H3 := Lib.hid h3
  have H4 := Lib.hid h4
  clear h1 h2 h3 h4
  cases a1 with
  | false =>
    go_enter Tryz.func44, Tryz.ntmps44
    go_wp2_with (fail)
    refine (H1.out _).mono ?_
    rintro e w1 ⟨rfl, rfl⟩
    go_wp2
    go_ret
    exact ⟨rfl, rfl⟩
  | true =>
    cases a2 with
    | false =>
      go_enter Tryz.func44, Tryz.ntmps44
      go_wp2_with (fail)
      refine (H1.out _).mono ?_
      rintro e w1 ⟨rfl, rfl⟩
      go_wp2_with (fail)
      refine (H2.out _).mono ?_
      rintro e w1 ⟨rfl, rfl⟩
      go_wp2
      go_ret
      exact ⟨rfl, rfl⟩
    | true =>
      cases a3 with
      | false =>
        go_enter Tryz.func44, Tryz.ntmps44
        go_wp2_with (fail)
        refine (H1.out _).mono ?_
        rintro e w1 ⟨rfl, rfl⟩
        go_wp2_with (fail)
        refine (H2.out _).mono ?_
        rintro e w1 ⟨rfl, rfl⟩
        go_wp2_with (fail)
        refine (H3.out _).mono ?_
        rintro e w1 ⟨rfl, rfl⟩
        go_wp2
        go_ret
        exact ⟨rfl, rfl⟩
      | true =>
        cases a4 with
        | false =>
          go_enter Tryz.func44, Tryz.ntmps44
          go_wp2_with (fail)
          refine (H1.out _).mono ?_
          rintro e w1 ⟨rfl, rfl⟩
          go_wp2_with (fail)
          refine (H2.out _).mono ?_
          rintro e w1 ⟨rfl, rfl⟩
          go_wp2_with (fail)
          refine (H3.out _).mono ?_
          rintro e w1 ⟨rfl, rfl⟩
          go_wp2_with (fail)
          refine (H4.out _).mono ?_
          rintro e w1 ⟨rfl, rfl⟩
          go_wp2
          go_ret
          exact ⟨rfl, rfl⟩
        | true =>
          go_enter Tryz.func44, Tryz.ntmps44
          go_wp2_with (fail)
          refine (H1.out _).mono ?_
          rintro e w1 ⟨rfl, rfl⟩
          go_wp2_with (fail)
          refine (H2.out _).mono ?_
          rintro e w1 ⟨rfl, rfl⟩
          go_wp2_with (fail)
          refine (H3.out _).mono ?_
          rintro e w1 ⟨rfl, rfl⟩
          go_wp2_with (fail)
          refine (H4.out _).mono ?_
          rintro e w1 ⟨rfl, rfl⟩
          go_wp2
          go_ret
          exact ⟨rfl, rfl⟩

theorem strongB_t {d s f sf : Nat} (hd : InD d) (hs : InS s) (hf : InF f) (hp : InP sf) : strongB d s f sf = true := by
  unfold strongB
  rw [inB_of (by have := hd.lo; have := hd.hi; omega), inB_of (by have := hs.lo; have := hs.hi; omega), inB_of (by have := hf.lo; have := hf.hi; omega), inB_of (by have := hp.lo; have := hp.hi; omega)]
  rfl
def Bool2 (w : World) (b : Bool) (k : Int) (e : Ending) (w' : World) : Prop := e = .returned (.tuple #[.bool b, .int .i64 k]) ∧ Below w.heap.size w w'
set_option maxHeartbeats 400000 in
set_option maxRecDepth 100000 in
theorem Holds_ok (d s l f sf : Nat) (w : World) (hd : InD d) (hs : InS s) (hl : InL l) (hf : InF f) (hp : InP sf) : Calls Tryz.prog 11 #[.int .i64 (d : Int), .int .i64 (s : Int), .int .i64 (l : Int), .int .i64 (f : Int), .int .i64 (sf : Int)] w (Bool2 w (holdN d s l f sf) 0) := by
  have h1 := fun w1 => areStrong_any d s f sf w1
  rw [strongB_t hd hs hf hp] at h1
  have h2 := fun w1 => within_t (l : Int) 1 100000 (by have := hl.lo; have := hl.hi; omega) w1
  have h3 := fun w1 => holds_any d s l f sf w1 hd hs hl hf hp
  have H1 := Lib.hid h1
  have H2 := Lib.hid h2
  have H3 := Lib.hid h3
  clear h1 h2 h3
  go_enter Tryz.func11, Tryz.ntmps11
  go_wp2_with (fail)
  refine (H1.out _).mono ?_
  rintro e w1 ⟨rfl, rfl⟩
  go_wp2_with (fail)
  refine (H2.out _).mono ?_
  rintro e w1 ⟨rfl, rfl⟩
  go_wp2_with (fail)
  refine (H3.out _).mono ?_
  rintro e w1 ⟨rfl, hb⟩
  go_wp2
  go_ret2
  exact ⟨rfl, hb⟩

/-- The greatest length that is borne, before it is cut at the limit. -/
def IsLong (d s f sf r : Nat) : Prop := IsRoot 2 (10 ^ 20 * (sf * s) / prodN [400, d, f, f]) r
theorem den_le {d f : Nat} (hd : InD d) (hf : InF f) : prodN [400, d, f, f] ≤ 1200000000000000000000 :=
  Nat.le_trans (prodN_mono (m := [400, 30000, 10000000, 10000000]) ⟨Nat.le_refl _, hd.hi, hf.hi, hf.hi, trivial⟩) (by decide)
theorem den_pos {d f : Nat} (hd : InD d) (hf : InF f) : 0 < prodN [400, d, f, f] :=
  Nat.lt_of_lt_of_le (by decide) (prodN_mono (l := [1, 1, 1, 1]) ⟨by omega, hd.lo, hf.lo, hf.lo, trivial⟩)
theorem long_lt {m r : Nat} (h : IsRoot 2 m r) (hm : m ≤ 10 ^ 28) : r ≤ 100000000000000 := by
  rcases Nat.lt_or_ge 100000000000000 r with h1 | h1
  · have h2 := h.1
    have h3 : 100000000000001 ^ 2 ≤ r ^ 2 := Nat.pow_le_pow_left h1 2
    have h4 := Nat.le_trans (Nat.le_trans h3 h2) hm
    exact absurd h4 (by decide)
  · exact h1
end Go.Proofs.YthgekjkgfccnaaaGreat

namespace Go.Proofs.YthgekjkgfccnaaaGreat
open Go.RowKit Num
theorem mul64_1 (n : Nat) (hn : n ≤ 1000000000000) (w : World) : Calls Tryz.prog 123 #[.int .u64 1, .int .u64 (n : Int)] w fun e w' => e = .returned (.tuple #[.int .u64 0, .int .u64 (n : Int)]) ∧ w = w' := by
  obtain ⟨hi, lo, hc, h1, h2, h3⟩ := mul64_ex 1 n (by unfold B64; omega) (by unfold B64; omega)
  have h4 : hi = 0 := by unfold B64 at h1; omega
  subst h4
  have h5 : lo = n := by omega
  subst h5
  exact hc w
set_option maxRecDepth 100000 in
theorem mul64_one (n : Nat) (hn : n ≤ 1000000000000) (w : World) : Calls Tryz.prog 106 #[.int .u64 1, .int .u64 (n : Int)] w fun e w' => e = .returned (.tuple #[.int .u64 0, .int .u64 (n : Int)]) ∧ w = w' := by
  have H := fun w1 => Lib.hid (mul64_1 n hn w1)
  go_enter Tryz.func106, Tryz.ntmps106
  go_wp2_with (go_at_call 123; refine ((H _).out).mono ?_; rintro e w1 ⟨rfl, rfl⟩)
  go_ret2
  exact ⟨rfl, rfl⟩
end Go.Proofs.YthgekjkgfccnaaaGreat

namespace Go.Proofs.YthgekjkgfccnaaaGreat
open Go.RowKit

/-- m copies of some cells, and zeros behind. -/
def repL (cells : List Value) (z : Value) (k m n : Nat) : List Value := (List.replicate m cells).flatten ++ List.replicate ((n - m) * k) z
theorem flat_rep_len (cells : List Value) (m : Nat) : (List.replicate m cells).flatten.length = m * cells.length := by simp
theorem repL_len {cells : List Value} {z : Value} {k m n : Nat} (hk : cells.length = k) (hm : m ≤ n) : (repL cells z k m n).length = n * k := by
  simp only [repL, List.length_append, flat_rep_len, List.length_replicate, hk]
  rw [← Nat.add_mul, Nat.add_sub_cancel' hm]
theorem repL_zero (cells : List Value) (z : Value) (k n : Nat) : repL cells z k 0 n = List.replicate (n * k) z := by simp [repL]
theorem repL_full (cells : List Value) (z : Value) (k n : Nat) : repL cells z k n n = (List.replicate n cells).flatten := by simp [repL]
theorem repL_take {cells : List Value} {z : Value} {k m n j : Nat} (hk : cells.length = k) (hj : j ≤ m) : (repL cells z k m n).take (j * k) = (List.replicate j cells).flatten := by
  unfold repL
  rw [List.take_append_of_le_length (by rw [flat_rep_len, hk]; exact Nat.mul_le_mul_right _ hj)]
  have : List.replicate m cells = List.replicate j cells ++ List.replicate (m - j) cells := by rw [← List.replicate_append_replicate.symm]; congr 1; omega
  rw [this, List.flatten_append, List.take_left' (by rw [flat_rep_len, hk])]
theorem repL_step {cells : List Value} {z : Value} {k m n j : Nat} (hk : cells.length = k) (_hj : m + j ≤ n) :
    (repL cells z k m n).take (m * k) ++ (List.replicate j cells).flatten ++ (repL cells z k m n).drop (m * k + (List.replicate j cells).flatten.length) = repL cells z k (m + j) n := by
  rw [repL_take hk (Nat.le_refl _), flat_rep_len, hk]
  unfold repL
  rw [List.drop_append, List.drop_of_length_le (by rw [flat_rep_len, hk]; omega), flat_rep_len, hk]
  rw [show m * k + j * k - m * k = j * k by omega, List.drop_replicate, ← Nat.sub_mul, show n - m - j = n - (m + j) by omega, ← List.replicate_append_replicate, List.flatten_append]
  simp
def RepPost (T : TypeId) (w : World) (n : Nat) (cells : List Value) (e : Ending) (w' : World) : Prop :=
  ∃ g, e = .returned (.slice (some ⟨g, 0, none⟩) n n) ∧ w.heap.size ≤ g ∧ Blk T w' g (List.replicate n cells).flatten ∧ Below w.heap.size w w'

theorem infoI : (Tryz.prog.info? 3).map (fun i => (i.zero, i.size, i.bytes)) = some (some (.int .i64 0), 1, 8) := by kernel_rfl
theorem infoP : (Tryz.prog.info? 133).map (fun i => (i.zero, i.size, i.bytes)) = some (some (.agg #[.int .i64 0, .int .i64 0]), 2, 16) := by kernel_rfl
theorem sizeI : (Tryz.prog.info? 3).map (·.size) = some 1 := by kernel_rfl
theorem sizeP : (Tryz.prog.info? 133).map (·.size) = some 2 := by kernel_rfl

set_option maxHeartbeats 2000000 in
set_option maxRecDepth 100000 in
theorem repeatI_any (gx ox cx n : Nat) (x : Int) (w : World) (hx : Ints w (some ⟨gx, ox, none⟩) [x]) (h1 : 1 ≤ n) (hn : n ≤ 1048576) :
    Calls Tryz.prog 80 #[.slice (some ⟨gx, ox, none⟩) 1 cx, .int .i64 (n : Int)] w (RepPost 3 w n (is [x])) := by
  have hmk := fun w1 => run_make_same (P := Tryz.prog) 38 3 (.int .i64 0) (.int .i64 0) 1 8 Tryz.underlying38 infoI rfl (by omega) n (n) (by omega) (by omega) (by omega) w1
  have hml := fun w1 => mul64_one n (by omega) w1
  have hb0 : Blk 3 (w.alloc (.cells (Array.replicate (n) (.int .i64 0)) 3)) w.heap.size (repL (is [x]) (.int .i64 0) 1 0 n) := by
    rw [repL_zero]
    have := Blk.new w 3 (List.replicate (n * 1) (.int .i64 0))
    simpa using this
  have hbA := below_new w (.cells (Array.replicate (n) (.int .i64 0)) 3)
  have hx1 := Vals.alloc hx (.cells (Array.replicate (n) (.int .i64 0)) 3)
  have hst : (repL (is [x]) (.int .i64 0) 1 0 n).take 0 ++ is [x] ++ (repL (is [x]) (.int .i64 0) 1 0 n).drop (0 + (is [x]).length) = repL (is [x]) (.int .i64 0) 1 1 n := by
    have := repL_step (cells := is [x]) (z := .int .i64 0) (k := 1) (m := 0) (j := 1) (n := n) rfl (by omega)
    simpa using this
  have hfit0 : 0 + (is [x]).length ≤ (repL (is [x]) (.int .i64 0) 1 0 n).length := by
    rw [repL_len (k := 1) rfl (Nat.zero_le n)]
    show _ ≤ _
    have : (is [x]).length = 1 := rfl
    omega
  have  HX := Lib.hid hx1
  have HML := Lib.hid hml
  have HST := Lib.hid hst
  clear hml hx hx1 hst
  have d1 : decide ((9223372036854775807 : Int) < (n : Int)) = false := by simp; omega
  have d2 : decide ((n : Int) < 0) = false := by simp
  have cv : IntKind.u64.wrap (n : Int) = (n : Int) := by rw [IntKind.wrap_u64]; omega
  have cv2 : IntKind.i64.wrap (n : Int) = (n : Int) := wrapI (by omega) (by omega)
  go_enter Tryz.func80, Tryz.ntmps80
  go_wp2_with (first
    | (go_at_call 106; refine (HML.out _).mono ?_; rintro e w1 ⟨rfl, rfl⟩)
    | (refine wpList_copyN rfl (.tmp 31) (.tmp 32) 38 38 rfl 3 Tryz.underlying38 1 sizeI w.heap.size 0 n n gx ox 1 cx 1 rfl rfl _ 3 hb0 (is [x]) (Nat.min_eq_left h1).symm rfl HX.out hfit0 (is_one _) ?_
       intro w2 hb2 hg2
       have hbB := hbA.grown hg2 hbA.size (fun k hk => by injection hk with hk; omega)))
  rw [HST.out] at hb2
  clear hmk
  go_loopw [8] (fun t wr => ∃ m : Nat, 1 ≤ m ∧ m ≤ n ∧ t = .int .i64 (m : Int) ∧ Blk 3 wr w.heap.size (repL (is [x]) (.int .i64 0) 1 m n) ∧ Below w.heap.size w wr) (fun t _ => n - (intOf t).toNat)
  case atStart => exact ⟨1, Nat.le_refl _, h1, rfl, hb2, hbB⟩
  case round =>
    clear hb2 hb0 hbA hbB hg2
    obtain ⟨m, hm1, hm, rfl, hb, hbl⟩ := hrel
    by_cases hlt : m < n
    · obtain ⟨j, hj⟩ : ∃ j, j = Nat.min m (n - m) := ⟨_, rfl⟩
      have hj1 : m + j ≤ n := by
        have h2 : j ≤ n - m := by rw [hj]; exact Nat.min_le_right _ _
        omega
      have hj2 : j ≤ m := by rw [hj]; exact Nat.min_le_left _ _
      have hj3 : 1 ≤ j := by rw [hj]; exact Nat.le_min.2 ⟨hm1, Nat.sub_pos_of_lt hlt⟩
      have hs : IntKind.i64.wrap ((m : Int) + (j : Int)) = (m : Int) + (j : Int) := wrapI (by omega) (by omega)
      have hne : ¬ n = m := by omega
      have hv := hb.drew.vals 0 (j * 1)
      rw [List.drop_zero, repL_take (by rfl) hj2] at hv
      have hst := repL_step (cells := is [x]) (z := .int .i64 0) (k := 1) rfl hj1
      have hln : (List.replicate j (is [x])).flatten.length = j * 1 := by rw [flat_rep_len]; rfl
      have hone : ∀ v ∈ (List.replicate j (is [x])).flatten, v.oneCell' = true := by
        intro v hv
        obtain ⟨l, hl, hv⟩ := List.mem_flatten.1 hv
        rw [List.eq_of_mem_replicate hl] at hv
        exact is_one _ v hv
      have hfit : m * 1 + (List.replicate j (is [x])).flatten.length ≤ (repL (is [x]) (.int .i64 0) 1 m n).length := by rw [repL_len (k := 1) rfl hm, hln, ← Nat.add_mul]; exact Nat.mul_le_mul_right _ hj1
      have HJ := Lib.hid hj
      have HV := Lib.hid hv
      have HST := Lib.hid hst
      have HLN := Lib.hid hln
      have HO := Lib.hid hone
      clear hj hv hst hln hone
      go_wp2_with (fail)
      go_region_law (refine step_copyN rfl (.tmp 41) (.tmp 44) 38 38 rfl 3 Tryz.underlying38 1 sizeI w.heap.size (m * 1) (n - m) (n - m) w.heap.size 0 m n j (by simp [Act.eval, Act.put]) (by simp [Act.eval, Act.put]) _ 3 hb.drew _ HJ.out HLN.out HV.out hfit HO.out ?_
                     intro w2 hb2 hg2)
      rw [HST.out] at hb2
      go_simp
      go_roundw
      case rel => exact ⟨.int .i64 ((m : Int) + (j : Int)), _, _, _, _, _, _, _, _, _, _, _, _, _, ⟨m + j, by omega, hj1, by go_num, hb2, hbl.drew.grown hg2 hbl.size (fun k hk => by injection hk with hk; omega)⟩, rfl⟩
      case measure => simp [intOf]; omega
    · obtain rfl : m = n := by omega
      go_wp2
      go_ret
      rw [repL_full] at hb
      exact ⟨_, rfl, Nat.le_refl _, hb, hbl⟩
set_option maxHeartbeats 2000000 in
set_option maxRecDepth 100000 in
theorem repeatP_any (gx ox cx n : Nat) (x y : Int) (w : World) (hx : Ints w (some ⟨gx, ox, none⟩) [x, y]) (h1 : 1 ≤ n) (hn : n ≤ 1048576) :
    Calls Tryz.prog 103 #[.slice (some ⟨gx, ox, none⟩) 1 cx, .int .i64 (n : Int)] w (RepPost 133 w n (is [x, y])) := by
  have hmk := fun w1 => run_make_same (P := Tryz.prog) 130 133 (.agg #[.int .i64 0, .int .i64 0]) (.int .i64 0) 2 16 Tryz.underlying130 infoP rfl (by omega) n (n * 2) (by omega) (by omega) (by omega) w1
  have hml := fun w1 => mul64_one n (by omega) w1
  have hb0 : Blk 133 (w.alloc (.cells (Array.replicate (n * 2) (.int .i64 0)) 133)) w.heap.size (repL (is [x, y]) (.int .i64 0) 2 0 n) := by
    rw [repL_zero]
    have := Blk.new w 133 (List.replicate (n * 2) (.int .i64 0))
    simpa using this
  have hbA := below_new w (.cells (Array.replicate (n * 2) (.int .i64 0)) 133)
  have hx1 := Vals.alloc hx (.cells (Array.replicate (n * 2) (.int .i64 0)) 133)
  have hst : (repL (is [x, y]) (.int .i64 0) 2 0 n).take 0 ++ is [x, y] ++ (repL (is [x, y]) (.int .i64 0) 2 0 n).drop (0 + (is [x, y]).length) = repL (is [x, y]) (.int .i64 0) 2 1 n := by
    have := repL_step (cells := is [x, y]) (z := .int .i64 0) (k := 2) (m := 0) (j := 1) (n := n) rfl (by omega)
    simpa using this
  have hfit0 : 0 + (is [x, y]).length ≤ (repL (is [x, y]) (.int .i64 0) 2 0 n).length := by
    rw [repL_len (k := 2) rfl (Nat.zero_le n)]
    show _ ≤ _
    have : (is [x, y]).length = 2 := rfl
    omega
  have  HX := Lib.hid hx1
  have HML := Lib.hid hml
  have HST := Lib.hid hst
  clear hml hx hx1 hst
  have d1 : decide ((9223372036854775807 : Int) < (n : Int)) = false := by simp; omega
  have d2 : decide ((n : Int) < 0) = false := by simp
  have cv : IntKind.u64.wrap (n : Int) = (n : Int) := by rw [IntKind.wrap_u64]; omega
  have cv2 : IntKind.i64.wrap (n : Int) = (n : Int) := wrapI (by omega) (by omega)
  go_enter Tryz.func103, Tryz.ntmps103
  go_wp2_with (first
    | (go_at_call 106; refine (HML.out _).mono ?_; rintro e w1 ⟨rfl, rfl⟩)
    | (refine wpList_copyN rfl (.tmp 31) (.tmp 32) 130 130 rfl 133 Tryz.underlying130 2 sizeP w.heap.size 0 n n gx ox 1 cx 1 rfl rfl _ 133 hb0 (is [x, y]) (Nat.min_eq_left h1).symm rfl HX.out hfit0 (is_one _) ?_
       intro w2 hb2 hg2
       have hbB := hbA.grown hg2 hbA.size (fun k hk => by injection hk with hk; omega)))
  rw [HST.out] at hb2
  clear hmk
  go_loopw [8] (fun t wr => ∃ m : Nat, 1 ≤ m ∧ m ≤ n ∧ t = .int .i64 (m : Int) ∧ Blk 133 wr w.heap.size (repL (is [x, y]) (.int .i64 0) 2 m n) ∧ Below w.heap.size w wr) (fun t _ => n - (intOf t).toNat)
  case atStart => exact ⟨1, Nat.le_refl _, h1, rfl, hb2, hbB⟩
  case round =>
    clear hb2 hb0 hbA hbB hg2
    obtain ⟨m, hm1, hm, rfl, hb, hbl⟩ := hrel
    by_cases hlt : m < n
    · obtain ⟨j, hj⟩ : ∃ j, j = Nat.min m (n - m) := ⟨_, rfl⟩
      have hj1 : m + j ≤ n := by
        have h2 : j ≤ n - m := by rw [hj]; exact Nat.min_le_right _ _
        omega
      have hj2 : j ≤ m := by rw [hj]; exact Nat.min_le_left _ _
      have hj3 : 1 ≤ j := by rw [hj]; exact Nat.le_min.2 ⟨hm1, Nat.sub_pos_of_lt hlt⟩
      have hs : IntKind.i64.wrap ((m : Int) + (j : Int)) = (m : Int) + (j : Int) := wrapI (by omega) (by omega)
      have hne : ¬ n = m := by omega
      have hv := hb.drew.vals 0 (j * 2)
      rw [List.drop_zero, repL_take (by rfl) hj2] at hv
      have hst := repL_step (cells := is [x, y]) (z := .int .i64 0) (k := 2) rfl hj1
      have hln : (List.replicate j (is [x, y])).flatten.length = j * 2 := by rw [flat_rep_len]; rfl
      have hone : ∀ v ∈ (List.replicate j (is [x, y])).flatten, v.oneCell' = true := by
        intro v hv
        obtain ⟨l, hl, hv⟩ := List.mem_flatten.1 hv
        rw [List.eq_of_mem_replicate hl] at hv
        exact is_one _ v hv
      have hfit : m * 2 + (List.replicate j (is [x, y])).flatten.length ≤ (repL (is [x, y]) (.int .i64 0) 2 m n).length := by rw [repL_len (k := 2) rfl hm, hln, ← Nat.add_mul]; exact Nat.mul_le_mul_right _ hj1
      have HJ := Lib.hid hj
      have HV := Lib.hid hv
      have HST := Lib.hid hst
      have HLN := Lib.hid hln
      have HO := Lib.hid hone
      clear hj hv hst hln hone
      go_wp2_with (fail)
      go_region_law (refine step_copyN rfl (.tmp 41) (.tmp 44) 130 130 rfl 133 Tryz.underlying130 2 sizeP w.heap.size (m * 2) (n - m) (n - m) w.heap.size 0 m n j (by simp [Act.eval, Act.put]) (by simp [Act.eval, Act.put]) _ 133 hb.drew _ HJ.out HLN.out HV.out hfit HO.out ?_
                     intro w2 hb2 hg2)
      rw [HST.out] at hb2
      go_simp
      go_roundw
      case rel => exact ⟨.int .i64 ((m : Int) + (j : Int)), _, _, _, _, _, _, _, _, _, _, _, _, _, ⟨m + j, by omega, hj1, by go_num, hb2, hbl.drew.grown hg2 hbl.size (fun k hk => by injection hk with hk; omega)⟩, rfl⟩
      case measure => simp [intOf]; omega
    · obtain rfl : m = n := by omega
      go_wp2
      go_ret
      rw [repL_full] at hb
      exact ⟨_, rfl, Nat.le_refl _, hb, hbl⟩
end Go.Proofs.YthgekjkgfccnaaaGreat

namespace Go.Proofs.YthgekjkgfccnaaaGreat
open Go.RowKit
/-- A row of the call's own, whose head are these ints. -/
def OwnI (w : World) (l : List Int) (e : Ending) (w' : World) : Prop := ∃ g cap, e = .returned (.slice (some ⟨g, 0, none⟩) l.length cap) ∧ w.heap.size ≤ g ∧ Hd 3 w' g cap (is l) ∧ Below w.heap.size w w'
set_option maxHeartbeats 1000000 in
set_option maxRecDepth 100000 in
theorem clone_any (ad : Addr) (c L : Nat) (l : List Int) (w : World) (hA : Ints w (some ad) l) (hL : L = l.length) (hl : L ≤ 1000000000) :
    Calls Tryz.prog 107 #[.slice (some ad) L c] w (OwnI w l) := by
  have hA1 := hA.keep (below_new w (.cells #[] 3))
  have ho := own_empty w 3
  have hbA := below_new w (.cells #[] 3)
  obtain ⟨i0, hi, hz0, hz1, hz2⟩ := info_parts infoI
  have hnil := fun w1 => Lib.run_eql_slice_nil (P := Tryz.prog) w1 38 3 (some ad) L c 0 0 Tryz.underlying38
  simp only [Option.isNone_some] at hnil
  have HL := Lib.hid hL
  have HA := Lib.hid hA1
  have HO := Lib.hid ho
  clear hA hA1 ho hL
  go_enter Tryz.func107, Tryz.ntmps107
  go_wp2_with (at_builtin
               refine wpList_append_own _ rfl _ _ 38 rfl w.heap.size 3 i0 (.int .i64 0) 1 8 Tryz.underlying38 hi hz0 hz1 hz2 rfl (by decide) _ _ _ rfl HO.out ad L _ (is l) rfl ?c1 (vals_cells HA.out) (is_one _) ?c4 ?c5 (by simp) ?_)
  case c1 => rw [is_len, HL.out]; omega
  case c4 => unfold maxLen; omega
  case c5 => omega
  intro v' w1 hown hgr hne
  have hb1 := hbA.grown hgr hbA.size (by simp [Value.ownBlock])
  go_wp2
  go_ret
  have hv : v' ≠ .slice none 0 0 := by simpa using hne
  obtain ⟨g, cap, he, h1, _, h2⟩ := Hd.of_owns hown hv
  rw [is_len] at he
  subst he
  exact ⟨g, cap, rfl, h1, h2, hb1⟩
end Go.Proofs.YthgekjkgfccnaaaGreat

/- Plain: how the coils are found (lists and numbers only). -/
namespace Go.Proofs.YthgekjkgfccnaaaGreat

/-- A piece goes into the first coil from there on that has room. -/
def fitF (piece : Int) : List Int → Nat → Int → Nat × Int
  | [], c, u => (c, u + piece)
  | r :: rs, c, u => if r < u + piece then fitF piece rs (c + 1) 0 else (c, u + piece)
def addF (rooms : List Int) (p : Nat × Int) (piece : Int) : Nat × Int := fitF piece (rooms.drop p.1) p.1 p.2
def befF (p q : Nat × Int) : Bool := decide (p.1 < q.1) || (decide (p.1 = q.1) && decide (p.2 < q.2))
def stepF (pieces rooms : List Int) (set : Nat) (t : List (Nat × Int)) (i : Nat) : List (Nat × Int) :=
  if set ||| 1 <<< i = set then t else
    if befF (addF rooms (t.getD set (0, 0)) (pieces.getD i 0)) (t.getD (set ||| 1 <<< i) (0, 0)) then t.set (set ||| 1 <<< i) (addF rooms (t.getD set (0, 0)) (pieces.getD i 0)) else t
def innF (pieces rooms : List Int) (set : Nat) (t : List (Nat × Int)) (k : Nat) : List (Nat × Int) := (List.range k).foldl (stepF pieces rooms set) t
def outF (pieces rooms : List Int) (t : List (Nat × Int)) (k : Nat) : List (Nat × Int) := (List.range k).foldl (fun t set => innF pieces rooms set t pieces.length) t
def tabF (pieces rooms : List Int) : List (Nat × Int) := (List.replicate (2 ^ pieces.length) (rooms.length, 0)).set 0 (0, 0)
def lastF (pieces rooms : List Int) : Nat := ((outF pieces rooms (tabF pieces rooms) (2 ^ pieces.length)).getD (2 ^ pieces.length - 1) (0, 0)).1
def canF (k : Nat) (piece : Int) (others rooms : List Int) : Bool := decide (piece ≤ rooms.getD k 0) && decide (lastF others (rooms.set k (rooms.getD k 0 - piece)) < rooms.length)
/-- The numbers that the search finds, piece by piece. -/
def Greedy : List Int → List Int → List Nat → Prop
  | [], _, [] => True
  | p :: ps, rooms, k :: ks => (k < rooms.length ∧ canF k p ps rooms = true ∧ ∀ j, j < k → canF j p ps rooms = false) ∧ Greedy ps (rooms.set k (rooms.getD k 0 - p)) ks
  | _, _, _ => False
def greedyB : List Int → List Int → List Nat → Bool
  | [], _, [] => true
  | p :: ps, rooms, k :: ks => (decide (k < rooms.length) && (canF k p ps rooms && (List.range k).all fun j => !canF j p ps rooms)) && greedyB ps (rooms.set k (rooms.getD k 0 - p)) ks
  | _, _, _ => false
theorem greedy_of : ∀ {ps rooms : List Int} {ks : List Nat}, greedyB ps rooms ks = true → Greedy ps rooms ks
  | [], _, [], _ => trivial
  | [], _, _ :: _, h => by simp [greedyB] at h
  | _ :: _, _, [], h => by simp [greedyB] at h
  | p :: ps, rooms, k :: ks, h => by
    simp only [greedyB, Bool.and_eq_true, decide_eq_true_eq, List.all_eq_true, List.mem_range, Bool.not_eq_true'] at h
    obtain ⟨⟨h1, h2, h3⟩, h4⟩ := h
    exact ⟨⟨h1, h2, h3⟩, greedy_of h4⟩

theorem innF_zero (pieces rooms : List Int) (set : Nat) (t : List (Nat × Int)) : innF pieces rooms set t 0 = t := rfl
theorem innF_succ (pieces rooms : List Int) (set : Nat) (t : List (Nat × Int)) (k : Nat) : innF pieces rooms set t (k + 1) = stepF pieces rooms set (innF pieces rooms set t k) k := by
  simp [innF, List.range_succ]
theorem outF_zero (pieces rooms : List Int) (t : List (Nat × Int)) : outF pieces rooms t 0 = t := rfl
theorem outF_succ (pieces rooms : List Int) (t : List (Nat × Int)) (k : Nat) : outF pieces rooms t (k + 1) = innF pieces rooms k (outF pieces rooms t k) pieces.length := by
  simp [outF, List.range_succ]

/-- Places that are in range. -/
structure PlacesOk (n K : Nat) (t : List (Nat × Int)) : Prop where
  len : t.length = n
  ok : ∀ e ∈ t, e.1 ≤ K ∧ 0 ≤ e.2 ∧ e.2 ≤ 1000000000
def RoomsOk (rooms : List Int) : Prop := ∀ r ∈ rooms, 0 ≤ r ∧ r ≤ 1000000000
def PiecesOk (pieces : List Int) : Prop := ∀ p ∈ pieces, 1 ≤ p ∧ p ≤ 1000000000

theorem PlacesOk.getD {n len : Nat} {t : List (Nat × Int)} (h : PlacesOk n len t) (i : Nat) : (t.getD i (0, 0)).1 ≤ len ∧ 0 ≤ (t.getD i (0, 0)).2 ∧ (t.getD i (0, 0)).2 ≤ 1000000000 := by
  by_cases hi : i < t.length
  · have := h.ok t[i] (List.getElem_mem hi)
    simpa [hi] using this
  · simp [List.getElem?_eq_none (Nat.le_of_not_lt hi)]
theorem fitF_ok (piece : Int) (hp : 1 ≤ piece ∧ piece ≤ 1000000000) : ∀ (rs : List Int) (c : Nat) (u : Int), RoomsOk rs → 0 ≤ u → u ≤ 1000000000 →
    (fitF piece rs c u).1 ≤ c + rs.length ∧ c ≤ (fitF piece rs c u).1 ∧ 0 ≤ (fitF piece rs c u).2 ∧ (fitF piece rs c u).2 ≤ 2000000000 ∧ ((fitF piece rs c u).1 < c + rs.length → (fitF piece rs c u).2 ≤ 1000000000)
  | [], c, u, _, h0, h1 => by simp only [fitF, List.length_nil]; omega
  | r :: rs, c, u, hr, h0, h1 => by
    have h := hr r (by simp)
    simp only [fitF, List.length_cons]
    split
    · have := fitF_ok piece hp rs (c + 1) 0 (fun x hx => hr x (by simp [hx])) (by omega) (by omega)
      omega
    · simp only
      omega
theorem addF_ok {rooms : List Int} {p : Nat × Int} {piece : Int} (hp : 1 ≤ piece ∧ piece ≤ 1000000000) (hr : RoomsOk rooms) (h1 : p.1 ≤ rooms.length) (h2 : 0 ≤ p.2) (h3 : p.2 ≤ 1000000000) :
    (addF rooms p piece).1 ≤ rooms.length ∧ 0 ≤ (addF rooms p piece).2 ∧ (addF rooms p piece).2 ≤ 2000000000 ∧ ((addF rooms p piece).1 < rooms.length → (addF rooms p piece).2 ≤ 1000000000) := by
  have := fitF_ok piece hp (rooms.drop p.1) p.1 p.2 (fun x hx => hr x (List.mem_of_mem_drop hx)) h2 h3
  rw [List.length_drop] at this
  unfold addF
  omega
theorem stepF_ok {pieces rooms : List Int} {n set i : Nat} {t : List (Nat × Int)} (hp : PiecesOk pieces) (hr : RoomsOk rooms) (hi : i < pieces.length) (h : PlacesOk n rooms.length t) : PlacesOk n rooms.length (stepF pieces rooms set t i) := by
  unfold stepF
  split
  · exact h
  · split
    · rename_i hb
      refine ⟨by rw [List.length_set]; exact h.len, fun e he => ?_⟩
      rcases List.mem_or_eq_of_mem_set he with he | he
      · exact h.ok e he
      · subst he
        have hs := h.getD set
        have hm := h.getD (set ||| 1 <<< i)
        have hpi : 1 ≤ pieces.getD i 0 ∧ pieces.getD i 0 ≤ 1000000000 := by
          have := hp pieces[i] (List.getElem_mem hi)
          simpa [hi] using this
        have := addF_ok hpi hr hs.1 hs.2.1 hs.2.2
        simp only [befF, Bool.or_eq_true, Bool.and_eq_true, decide_eq_true_eq] at hb
        omega
    · exact h
theorem innF_ok {pieces rooms : List Int} {n set : Nat} {t : List (Nat × Int)} (hp : PiecesOk pieces) (hr : RoomsOk rooms) (h : PlacesOk n rooms.length t) : ∀ k, k ≤ pieces.length → PlacesOk n rooms.length (innF pieces rooms set t k)
  | 0, _ => h
  | k + 1, hk => by rw [innF_succ]; exact stepF_ok hp hr (by omega) (innF_ok hp hr h k (by omega))
theorem outF_ok {pieces rooms : List Int} {n : Nat} {t : List (Nat × Int)} (hp : PiecesOk pieces) (hr : RoomsOk rooms) (h : PlacesOk n rooms.length t) : ∀ k, PlacesOk n rooms.length (outF pieces rooms t k)
  | 0 => h
  | k + 1 => by rw [outF_succ]; exact innF_ok hp hr (outF_ok hp hr h k) _ (Nat.le_refl _)
theorem tabF_ok (pieces rooms : List Int) : PlacesOk (2 ^ pieces.length) rooms.length (tabF pieces rooms) := by
  refine ⟨by simp [tabF], fun e he => ?_⟩
  rcases List.mem_or_eq_of_mem_set he with he | he
  · rw [List.eq_of_mem_replicate he]; simp
  · subst he; simp
theorem lastF_le (pieces rooms : List Int) (hp : PiecesOk pieces) (hr : RoomsOk rooms) : lastF pieces rooms ≤ rooms.length := ((outF_ok hp hr (tabF_ok pieces rooms) _).getD _).1
/-- More bits are as few as the pieces. -/
theorem or_lt {set i n : Nat} (h : set < 2 ^ n) (hi : i < n) : set ||| 1 <<< i < 2 ^ n :=
  Nat.or_lt_two_pow h (by rw [Nat.one_shiftLeft]; exact Nat.pow_lt_pow_right (by omega) hi)
/-- The places as cells. -/
def flat : List (Nat × Int) → List Int
  | [] => []
  | e :: t => (e.1 : Int) :: e.2 :: flat t
theorem flat_len (t : List (Nat × Int)) : (flat t).length = 2 * t.length := by induction t with | nil => rfl | cons e t ih => simp [flat, ih]; omega
theorem flat_0 : ∀ {t : List (Nat × Int)} {i : Nat}, i < t.length → (flat t)[i * 2]? = some ((t.getD i (0, 0)).1 : Int)
  | e :: t, 0, _ => by simp [flat]
  | e :: t, i + 1, h => by
    have := flat_0 (t := t) (i := i) (by simpa using h)
    simpa [flat, show (i + 1) * 2 = i * 2 + 1 + 1 by omega] using this
theorem flat_1 : ∀ {t : List (Nat × Int)} {i : Nat}, i < t.length → (flat t)[i * 2 + 1]? = some (t.getD i (0, 0)).2
  | e :: t, 0, _ => by simp [flat]
  | e :: t, i + 1, h => by
    have := flat_1 (t := t) (i := i) (by simpa using h)
    simpa [flat, show (i + 1) * 2 + 1 = i * 2 + 1 + 1 + 1 by omega] using this
theorem flat_set : ∀ (t : List (Nat × Int)) (i : Nat) (e : Nat × Int), ((flat t).set (i * 2) (e.1 : Int)).set (i * 2 + 1) e.2 = flat (t.set i e)
  | [], _, _ => by simp [flat]
  | d :: t, 0, e => by simp [flat]
  | d :: t, i + 1, e => by
    have := flat_set t i e
    simp [flat, show (i + 1) * 2 = i * 2 + 1 + 1 by omega, this]
theorem flat_replicate (n : Nat) (e : Nat × Int) : flat (List.replicate n e) = (List.replicate n [(e.1 : Int), e.2]).flatten := by
  induction n with
  | zero => rfl
  | succ n ih => simp [List.replicate_succ, flat, ih]
theorem lives_greedy : Greedy [6, 4, 5, 5] [10, 10] [0, 0, 1, 1] := greedy_of (by decide +kernel)
theorem lives_last : lastF [6, 4, 5, 5] [10, 10, 10, 10] = 1 := by decide +kernel
end Go.Proofs.YthgekjkgfccnaaaGreat

namespace Go.Proofs.YthgekjkgfccnaaaGreat
open Go.RowKit

theorem isBefore_any (p q : Nat × Int) (w : World) : Calls Tryz.prog 105 #[.agg #[.int .i64 (p.1 : Int), .int .i64 p.2], .agg #[.int .i64 (q.1 : Int), .int .i64 q.2]] w fun e w' => e = .returned (.bool (befF p q)) ∧ Below w.heap.size w w' := by
  have hbA : Below w.heap.size w ((w.alloc (.cells #[.int .i64 (p.1 : Int), .int .i64 p.2] 133)).alloc (.cells #[.int .i64 (q.1 : Int), .int .i64 q.2] 133)) := ((Below.refl _ _).alloc (Nat.le_refl _) _).alloc (by simp) _
  unfold befF
  obtain ⟨a, b⟩ := p
  obtain ⟨c, d⟩ := q
  simp only at *
  by_cases h : a < c
  · have hd : decide ((a : Int) < (c : Int)) = true := by simpa using h
    have hd' : decide (a < c) = true := by simpa using h
    go_enter Tryz.func105, Tryz.ntmps105
    go_wp2
    go_ret
    exact ⟨by simp [h], hbA⟩
  · have hd : decide ((a : Int) < (c : Int)) = false := by simpa using h
    have hd' : decide (a < c) = false := by simpa using h
    by_cases k : a = c
    · subst k
      go_enter Tryz.func105, Tryz.ntmps105
      go_wp2
      go_ret
      exact ⟨by simp, hbA⟩
    · have hk : ((a : Int) == (c : Int)) = false := by simp; omega
      go_enter Tryz.func105, Tryz.ntmps105
      go_wp2
      go_ret
      exact ⟨by simp [h, k], hbA⟩
end Go.Proofs.YthgekjkgfccnaaaGreat

namespace Go.Proofs.YthgekjkgfccnaaaGreat
open Go.RowKit

theorem und87 : (Tryz.prog.underlying 133).map (fun d => match d with | .struct _ | .array _ _ => true | _ => false) = some true := by kernel_rfl
theorem size87 : (Tryz.prog.info? 133).map (·.size) = some 2 := by kernel_rfl
theorem Blk.res87 {fn : Func} {w : World} {g : Nat} {p q : Int} (h : Blk 133 w g [.int .i64 p, .int .i64 q]) {k : Nat} (hr : fn.results = #[.cell k 133]) (tmps : Array Value) (hp : tmps.getD k undef = .pointer (some ⟨g, 0, none⟩)) :
    (results fn tmps).run Tryz.prog w = .ok (.agg #[.int .i64 p, .int .i64 q]) w := by
  obtain ⟨d, hd, hm⟩ := Option.map_eq_some_iff.1 und87
  cases d <;> first | exact results_cell_row hr tmps w g 133 _ (0, 0) _ hp h hd rfl size87 | exact absurd hm (by simp)

def PlPost (w : World) (p : Nat × Int) (e : Ending) (w' : World) : Prop := e = .returned (.agg #[.int .i64 (p.1 : Int), .int .i64 p.2]) ∧ Below w.heap.size w w'
set_option maxHeartbeats 1000000 in
set_option maxRecDepth 100000 in
theorem add_any (c : Nat) (u piece : Int) (A : Option Addr) (cp : Nat) (rooms : List Int) (w : World) (hA : Ints w A rooms) (hp : 1 ≤ piece ∧ piece ≤ 1000000000) (_hr : RoomsOk rooms) (h1 : c ≤ rooms.length) (h2 : 0 ≤ u) (h3 : u ≤ 1000000000) (hl : rooms.length ≤ 1000000) :
    Calls Tryz.prog 104 #[.agg #[.int .i64 (c : Int), .int .i64 u], .int .i64 piece, .slice A rooms.length cp] w (PlPost w (addF rooms (c, u) piece)) := by
  have hb0 : Blk 133 ((w.alloc (.cells #[.int .i64 (c : Int), .int .i64 u] 133)).alloc (.cells #[.int .i64 0, .int .i64 0] 133)) w.heap.size [.int .i64 (c : Int), .int .i64 u] := (Blk.new w 133 [_, _]).alloc _
  have hb1 : Blk 133 ((w.alloc (.cells #[.int .i64 (c : Int), .int .i64 u] 133)).alloc (.cells #[.int .i64 0, .int .i64 0] 133)) (w.heap.size + 1) [.int .i64 0, .int .i64 0] := by
    have := Blk.new (w.alloc (.cells #[.int .i64 (c : Int), .int .i64 u] 133)) 133 [.int .i64 0, .int .i64 0]
    simpa using this
  have hbA : Below w.heap.size w ((w.alloc (.cells #[.int .i64 (c : Int), .int .i64 u] 133)).alloc (.cells #[.int .i64 0, .int .i64 0] 133)) := ((Below.refl _ _).alloc (Nat.le_refl _) _).alloc (by simp) _
  have hF : fitF piece (rooms.drop c) c u = addF rooms (c, u) piece := rfl
  generalize addF rooms (c, u) piece = res at *
  have HF := Lib.hid hF
  clear hF
  go_enter Tryz.func104, Tryz.ntmps104
  go_wp2
  go_loopw [] (fun wr => ∃ (c' : Nat) (u' : Int), c' ≤ rooms.length ∧ 0 ≤ u' ∧ u' ≤ 1000000000 ∧ Hid (fitF piece (rooms.drop c') c' u' = res) ∧ Blk 133 wr w.heap.size [.int .i64 (c' : Int), .int .i64 u'] ∧ Blk 133 wr (w.heap.size + 1) [.int .i64 0, .int .i64 0] ∧ Below w.heap.size w wr) (fun wr => rooms.length - (cellI wr ⟨w.heap.size, 0, none⟩).toNat)
  case atStart => exact ⟨c, u, h1, h2, h3, HF, hb0, hb1, hbA⟩
  case round =>
    clear hb0 hb1 hbA HF
    obtain ⟨c', u', hc, hu, hu2, HF, k0, k1, hbl⟩ := hrel
    have e0 := k0.cell 0
    have e1 := k0.cell 1
    have z0 := k1.cell 0
    have z1 := k1.cell 1
    have f0 := k0.frozen
    have f1 := k1.frozen
    simp only [List.getElem?_cons_zero, List.getElem?_cons_succ] at e0 e1 z0 z1
    have hs : IntKind.i64.wrap (u' + piece) = u' + piece := wrapI (by omega) (by omega)
    have hs1 : IntKind.i64.wrap ((c' : Int) + 1) = (c' : Int) + 1 := wrapI (by omega) (by omega)
    by_cases hlt : c' < rooms.length
    · have hd : decide ((c' : Int) < (rooms.length : Int)) = true := by simpa using hlt
      have hdn : decide (c' < rooms.length) = true := by simpa using hlt
      obtain ⟨g, off, r, rfl, hg, hrc, hcr⟩ := Ints.at_ (hA.keep hbl) (i := c') hlt
      have hdr : rooms.drop c' = r :: rooms.drop (c' + 1) := by rw [List.drop_eq_getElem_cons hlt]; rw [List.getElem?_eq_getElem hlt] at hrc; injection hrc with hrc; rw [hrc]
      have HD := Lib.hid hdr
      have HR := Lib.hid hrc
      clear hdr hrc
      by_cases hr1 : r < u' + piece
      · have hstep : fitF piece (rooms.drop (c' + 1)) (c' + 1) 0 = res := by have := HF.out; rw [HD.out, fitF, if_pos hr1] at this; exact this
        have HS := Lib.hid hstep
        clear hstep
        go_wp2_with (fail)
        go_quiet (fail)
        go_wp2
        go_roundw
        case rel => exact ⟨c' + 1, 0, by omega, by omega, by omega, HS, (k0.drewN _).pair _ _, k1.far2 (by omega) _ _ _, below_set (below_set (below_drewN hbl _) (Nat.le_refl _) _) (Nat.le_refl _) _⟩
        case measure =>
          rw [cellI_of e0, cellI_of (((k0.drewN _).pair _ _).cell 0)]
          omega
      · have hfin : res = (c', u' + piece) := by have := HF.out; rw [HD.out, fitF, if_neg hr1] at this; exact this.symm
        have HS := Lib.hid hfin
        clear hfin
        go_wp2_with (fail)
        go_quiet (fail)
        go_wp2
        refine bodyPost_ret (Blk.res87 ((k1.drewN _).pair _ _) rfl _ rfl) rfl ⟨by rw [HS.out], below_set (below_set (below_drewN hbl _) (by omega) _) (by omega) _⟩
    · have hd : decide ((c' : Int) < (rooms.length : Int)) = false := by simpa using hlt
      have hdn : decide (c' < rooms.length) = false := by simpa using hlt
      have hfin : res = (c', u' + piece) := by
        have := HF.out
        rw [List.drop_eq_nil_of_le (by omega), fitF] at this
        exact this.symm
      have HS := Lib.hid hfin
      clear hfin
      go_wp2_with (fail)
      go_quiet (fail)
      go_wp2
      refine bodyPost_ret (Blk.res87 ((k1.drewN _).pair _ _) rfl _ rfl) rfl ⟨by rw [HS.out], below_set (below_set (below_drewN hbl _) (by omega) _) (by omega) _⟩
end Go.Proofs.YthgekjkgfccnaaaGreat

namespace Go.Proofs.YthgekjkgfccnaaaGreat
open Go.RowKit

theorem flat_is (n : Nat) (e : Nat × Int) : (List.replicate n (is [(e.1 : Int), e.2])).flatten = is (flat (List.replicate n e)) := by
  rw [flat_replicate]
  simp [is]
theorem pow_cast (n : Nat) : (2 : Int) ^ n = ((2 ^ n : Nat) : Int) := by simp
theorem shl_one (n : Nat) (h : n ≤ 40) : wrap64 ((2 : Int) ^ n) = ((2 ^ n : Nat) : Int) := by
  have : 2 ^ n ≤ 2 ^ 40 := Nat.pow_le_pow_right (by omega) h
  rw [pow_cast]
  generalize 2 ^ n = k at *
  unfold wrap64
  omega
theorem pow14 {n : Nat} (h : n ≤ 14) : 2 ^ n ≤ 16384 := Nat.pow_le_pow_right (by omega) h
theorem i64_or (a b : Nat) (ha : a < 9223372036854775808) (hb : b < 9223372036854775808) : bits .or .i64 (a : Int) (b : Int) = ((a ||| b : Nat) : Int) := by
  have hx : a ||| b < 2 ^ 63 := Nat.or_lt_two_pow (by omega) (by omega)
  have h0 : ∀ x : Nat, x < 9223372036854775808 → (BitVec.ofInt 64 (x : Int)).toNat = x := fun x h => by
    rw [BitVec.ofInt_natCast, BitVec.toNat_ofNat]; exact Nat.mod_eq_of_lt (by omega)
  show IntKind.i64.wrap ((BitVec.ofInt 64 (a : Int) ||| BitVec.ofInt 64 (b : Int)).toNat : Int) = _
  rw [BitVec.toNat_or, h0 a ha, h0 b hb, IntKind.wrap_i64]
  omega
set_option maxHeartbeats 2000000 in
set_option maxRecDepth 100000 in
theorem lastCoil_any (A A' : Option Addr) (cp cp' : Nat) (pieces rooms : List Int) (w : World) (hA : Ints w A pieces) (hA' : Ints w A' rooms) (hp : PiecesOk pieces) (hr : RoomsOk rooms) (hl : pieces.length ≤ 14) (hl' : rooms.length ≤ 1000000) :
    Calls Tryz.prog 79 #[.slice A pieces.length cp, .slice A' rooms.length cp'] w fun e w' => e = .returned (.int .i64 ((lastF pieces rooms : Nat) : Int)) ∧ Below w.heap.size w w' := by
  obtain ⟨N, hN⟩ : ∃ N, N = 2 ^ pieces.length := ⟨_, rfl⟩
  have hsh : wrap64 ((2 : Int) ^ pieces.length) = (N : Int) := by rw [hN]; exact shl_one _ (by omega)
  have hN1 : 1 ≤ N := by rw [hN]; exact Nat.one_le_two_pow
  have hN2 : N ≤ 16384 := by rw [hN]; exact pow14 hl
  have hx : Ints (w.alloc (Obj.cells #[.int .i64 (rooms.length : Int), .int .i64 0] 133)) (some ⟨w.heap.size, 0, none⟩) [(rooms.length : Int), 0] := (Blk.new w 133 [_, _]).vals0
  have hrep := repeatP_any w.heap.size 0 1 N rooms.length 0 _ hx hN1 (by omega)
  have hbA := below_new w (Obj.cells #[.int .i64 (rooms.length : Int), .int .i64 0] 133)
  have HN := Lib.hid hN
  have HR := Lib.hid hrep
  have HA := Lib.hid hA
  have HA' := Lib.hid hA'
  clear hN hrep hx hA hA'
  go_enter Tryz.func79, Tryz.ntmps79
  go_wp2_with (fail)
  refine (HR.out).mono ?_
  rintro e w1 ⟨g, rfl, hg, hb1, hbl1⟩
  have hb1' : Blk 133 w1 g (is (flat (List.replicate N (rooms.length, 0)))) := by rw [← flat_is]; exact hb1
  have hbB := below_on hbA hbA.size hbl1
  have c0 : w1.cell? ⟨g, 0, none⟩ = some (.int .i64 (rooms.length : Int)) := by rw [hb1'.cell 0]; exact is_at ((flat_0 (t := List.replicate N (rooms.length, 0)) (i := 0) (by simp; omega)).trans (by simp [List.getD, show 0 < N by omega]))
  have c1 : w1.cell? ⟨g, 1, none⟩ = some (.int .i64 0) := by rw [hb1'.cell 1]; exact is_at ((flat_1 (t := List.replicate N (rooms.length, 0)) (i := 0) (by simp; omega)).trans (by simp [List.getD, show 0 < N by omega]))
  have fz := hb1'.frozen
  have HB1 := Lib.hid hb1'
  clear hb1 hb1'
  go_wp2_with (fail)
  clear c0 c1 fz hbA
  have hgw : w.heap.size ≤ g := by have := hg; simp at this; omega
  have htab : Blk 133 ((w1.setCell ⟨g, 0, none⟩ (.int .i64 0)).setCell ⟨g, 1, none⟩ (.int .i64 0)) g (is (flat (tabF pieces rooms))) := by
    have h1 := (HB1.out.set 0 (.int .i64 0)).set 1 (.int .i64 0)
    rw [is_set, is_set] at h1
    have h2 := flat_set (List.replicate N (rooms.length, 0)) 0 (0, 0)
    unfold tabF
    rw [← HN.out, ← h2]
    exact h1
  have hbC : Below w.heap.size w ((w1.setCell ⟨g, 0, none⟩ (.int .i64 0)).setCell ⟨g, 1, none⟩ (.int .i64 0)) := below_set (below_set hbB hgw _) hgw _
  rw [hsh]
  go_loopw [6, 7, 8, 9, 10, 25, 28, 29, 30] (fun _ _ _ _ _ t _ _ _ wr => ∃ k : Nat, k ≤ N ∧ t = .int .i64 (k : Int) ∧ Blk 133 wr g (is (flat (outF pieces rooms (tabF pieces rooms) k))) ∧ Below w.heap.size w wr) (fun _ _ _ _ _ t _ _ _ _ => N - (intOf t).toNat)
  case atStart => exact ⟨0, Nat.zero_le _, rfl, htab, hbC⟩
  case round =>
    clear htab hbC hbB HB1 hbl1 HR
    obtain ⟨k, hk, rfl, hb, hbl⟩ := hrel
    by_cases hlt : k < N
    · have hs : IntKind.i64.wrap ((k : Int) + 1) = (k : Int) + 1 := wrapI (by omega) (by omega)
      go_wp2_with (fail)
      obtain ⟨wo, rfl⟩ : ∃ wo : World, wo = wr := ⟨_, rfl⟩
      go_loopw [7, 8, 9, 10, 30] (fun _ _ _ _ t wr => ∃ j : Nat, j ≤ pieces.length ∧ t = .int .i64 (j : Int) ∧ Blk 133 wr g (is (flat (innF pieces rooms k (outF pieces rooms (tabF pieces rooms) k) j))) ∧ Below w.heap.size w wr) (fun _ _ _ _ t _ => pieces.length - (intOf t).toNat)
      case atStart => exact ⟨0, Nat.zero_le _, rfl, hb, hbl⟩
      case round =>
        clear hb hbl
        obtain ⟨j, hj, rfl, hb, hbl⟩ := hrel
        have hok : PlacesOk N rooms.length (innF pieces rooms k (outF pieces rooms (tabF pieces rooms) k) j) := by
          rw [HN.out]; exact innF_ok hp hr (outF_ok hp hr (tabF_ok pieces rooms) k) j hj
        by_cases hjl : j < pieces.length
        · have hs2 : IntKind.i64.wrap ((j : Int) + 1) = (j : Int) + 1 := wrapI (by omega) (by omega)
          have hsj : wrap64 ((2 : Int) ^ j) = ((2 ^ j : Nat) : Int) := shl_one j (by omega)
          obtain ⟨g1, o1, p, rfl, hg1, hpj, hcp⟩ := Ints.at_ (HA.out.keep hbl) (i := j) hjl
          have hpp := hp p (List.mem_of_getElem? hpj)
          have HP := Lib.hid hpj
          clear hpj
          obtain ⟨M, hM⟩ : ∃ M, M = k ||| 1 <<< j := ⟨_, rfl⟩
          have hMN : M < N := by rw [hM, HN.out]; exact or_lt (by rw [← HN.out]; exact hlt) hjl
          have hor : bits .or .i64 (k : Int) ((2 : Int) ^ j) = (M : Int) := by
            rw [hM, Nat.one_shiftLeft, pow_cast]
            have := pow14 (n := j) (by omega)
            exact i64_or k (2 ^ j) (by omega) (by omega)
          obtain ⟨T, hT⟩ : ∃ T, innF pieces rooms k (outF pieces rooms (tabF pieces rooms) k) j = T := ⟨_, rfl⟩
          have hsucc : innF pieces rooms k (outF pieces rooms (tabF pieces rooms) k) (j + 1) = stepF pieces rooms k T j := by rw [innF_succ, hT]
          rw [hT] at hb hok
          have hpg : pieces.getD j 0 = p := by rw [List.getD_eq_getElem?_getD, HP.out]; rfl
          have HM := Lib.hid hM
          have HS := Lib.hid hsucc
          have HG := Lib.hid hpg
          clear hM hT hsucc hpg
          by_cases hmk : M = k
          · have hstep : stepF pieces rooms k T j = T := by unfold stepF; rw [if_pos (by rw [← HM.out]; exact hmk)]
            rw [hmk] at hor
            have HE := Lib.hid hstep
            clear hstep hmk
            go_wp2
            go_roundw
            case rel => exact ⟨j + 1, by omega, by go_num, by rw [HS.out, HE.out]; exact hb, hbl⟩
            case measure => simp [intOf]; omega
          · have hne : ((M : Int) == (k : Int)) = false := by simp; omega
            have hlenT : T.length = N := hok.len
            have k0 := (hb.cell (k * 2)).trans (is_at (flat_0 (t := T) (i := k) (by omega)))
            have k1 := (hb.cell (k * 2 + 1)).trans (is_at (flat_1 (t := T) (i := k) (by omega)))
            have m0 := (hb.cell (M * 2)).trans (is_at (flat_0 (t := T) (i := M) (by omega)))
            have m1 := (hb.cell (M * 2 + 1)).trans (is_at (flat_1 (t := T) (i := M) (by omega)))
            have hko := hok.getD k
            obtain ⟨P1, hP1⟩ : ∃ P1, T.getD k (0, 0) = P1 := ⟨_, rfl⟩
            obtain ⟨P2, hP2⟩ : ∃ P2, T.getD M (0, 0) = P2 := ⟨_, rfl⟩
            rw [hP1] at k0 k1 hko
            rw [hP2] at m0 m1
            have hadd := add_any P1.1 P1.2 p A' cp' rooms wr (HA'.out.keep hbl) hpp hr hko.1 hko.2.1 hko.2.2 hl'
            have H1 := Lib.hid hP1
            have H2 := Lib.hid hP2
            have HAD := Lib.hid hadd
            have HL := Lib.hid hlenT
            clear hP1 hP2 hadd hlenT
            go_wp2_with (fail)
            refine (HAD.out).mono ?_
            rintro e w2 ⟨rfl, hb2⟩
            have hbw := below_on hbl hbl.size hb2
            have t1 := (hb.keep hb2).alloc (Obj.cells #[.int .i64 ((addF rooms (P1.1, P1.2) p).1 : Int), .int .i64 (addF rooms (P1.1, P1.2) p).2] 133)
            have t0 : Blk 133 (w2.alloc (Obj.cells #[.int .i64 ((addF rooms (P1.1, P1.2) p).1 : Int), .int .i64 (addF rooms (P1.1, P1.2) p).2] 133)) w2.heap.size [.int .i64 ((addF rooms (P1.1, P1.2) p).1 : Int), .int .i64 (addF rooms (P1.1, P1.2) p).2] := Blk.new w2 133 [_, _]
            have hbw2 := hbw.alloc hbw.size (Obj.cells #[.int .i64 ((addF rooms (P1.1, P1.2) p).1 : Int), .int .i64 (addF rooms (P1.1, P1.2) p).2] 133)
            have hgl : g < w2.heap.size := (hb.keep hb2).lt
            have hstep : stepF pieces rooms k T j = if befF (addF rooms (P1.1, P1.2) p) P2 then T.set M (addF rooms (P1.1, P1.2) p) else T := by
              unfold stepF
              rw [← HM.out, if_neg hmk, HG.out, H1.out, H2.out]
            have n0 := (t1.drew.cell (M * 2)).trans (is_at ((flat_0 (t := T) (i := M) (by have := HL.out; omega)).trans (by rw [H2.out])))
            have n1 := (t1.drew.cell (M * 2 + 1)).trans (is_at ((flat_1 (t := T) (i := M) (by have := HL.out; omega)).trans (by rw [H2.out])))
            have q0 := t0.drew.cell 0
            have q1 := t0.drew.cell 1
            simp only [List.getElem?_cons_zero, List.getElem?_cons_succ] at q0 q1
            generalize addF rooms (P1.1, P1.2) p = R at *
            have HT := Lib.hid hstep
            have T1 := Lib.hid t1
            have T0 := Lib.hid t0
            clear hstep t1 t0 k0 k1 m0 m1
            go_wp2_with (fail)
            generalize hW : w2.alloc (Obj.cells #[.int .i64 (R.1 : Int), .int .i64 R.2] 133) = wA at *
            have hsz : w2.heap.size < wA.heap.size := by rw [← hW]; simp
            clear hW
            go_still_tail 5, (by kernel_rfl)
            change wpList _ _ _ _ _ wA.drew
            by_cases hbf : befF R P2 = true
            · have hcl := isBefore_any R P2 wA.drew
              rw [hbf] at hcl
              have HC := Lib.hid hcl
              clear hcl
              go_wp2_with (fail)
              refine (HC.out).mono ?_
              rintro e w3 ⟨rfl, hb3⟩
              have hbw3 := below_on hbw2.drew hbw2.drew.size hb3
              have u1 := T1.out.drew.keep hb3
              have u0 := T0.out.drew.keep hb3
              have v0 := u0.cell 0
              have v1 := u0.cell 1
              simp only [List.getElem?_cons_zero, List.getElem?_cons_succ] at v0 v1
              have x0 := (u1.cell (M * 2)).trans (is_at ((flat_0 (t := T) (i := M) (by have := HL.out; omega)).trans (by rw [H2.out])))
              have x1 := (u1.cell (M * 2 + 1)).trans (is_at ((flat_1 (t := T) (i := M) (by have := HL.out; omega)).trans (by rw [H2.out])))
              have xf := u1.frozen
              have hnew := (u1.set (M * 2) (.int .i64 (R.1 : Int))).set (M * 2 + 1) (.int .i64 R.2)
              rw [is_set, is_set, flat_set] at hnew
              have HN2 := Lib.hid hnew
              clear hnew n0 n1 q0 q1
              go_wp2
              go_roundw
              case rel => exact ⟨j + 1, by omega, by go_num, by rw [HS.out, HT.out, hbf, if_pos rfl]; exact HN2.out, below_set (below_set hbw3 hgw _) hgw _⟩
              case measure => simp [intOf]; omega
            · have hcl := isBefore_any R P2 wA.drew
              rw [Bool.not_eq_true] at hbf
              rw [hbf] at hcl
              have HC := Lib.hid hcl
              clear hcl
              go_wp2_with (fail)
              refine (HC.out).mono ?_
              rintro e w3 ⟨rfl, hb3⟩
              have hbw3 := below_on hbw2.drew hbw2.drew.size hb3
              have u1 := T1.out.drew.keep hb3
              clear n0 n1 q0 q1
              go_wp2
              go_roundw
              case rel => exact ⟨j + 1, by omega, by go_num, by rw [HS.out, HT.out, hbf, if_neg (by simp)]; exact u1, hbw3⟩
              case measure => simp [intOf]; omega
        · obtain rfl : j = pieces.length := by omega
          go_wp2
          go_roundw
          case rel => exact ⟨k + 1, by omega, by go_num, by rw [outF_succ]; exact hb, hbl⟩
          case measure => simp [intOf]; omega
    · obtain rfl : k = N := by omega
      have hok : PlacesOk k rooms.length (outF pieces rooms (tabF pieces rooms) k) := by rw [HN.out]; exact outF_ok hp hr (tabF_ok pieces rooms) _
      have hlen := hok.len
      have c0 := (hb.cell ((k - 1) * 2)).trans (is_at (flat_0 (t := outF pieces rooms (tabF pieces rooms) k) (i := k - 1) (by omega)))
      have hlast : lastF pieces rooms = ((outF pieces rooms (tabF pieces rooms) k).getD (k - 1) (0, 0)).1 := by unfold lastF; rw [← HN.out]
      have hs : IntKind.i64.wrap ((k : Int) - 1) = ((k - 1 : Nat) : Int) := by rw [wrapI (by omega) (by omega)]; omega
      have ht : ((k : Int) - 1).toNat = k - 1 := by omega
      have hq : (1 : Int) ≤ (k : Int) := by omega
      have hq2 : (k : Int) - 1 < (k : Int) := by omega
      generalize (outF pieces rooms (tabF pieces rooms) k).getD (k - 1) (0, 0) = E at *
      have HL := Lib.hid hlen
      have HLA := Lib.hid hlast
      clear hlen hok hlast
      go_wp2
      go_ret
      exact ⟨by rw [HLA.out]; rfl, hbl⟩
end Go.Proofs.YthgekjkgfccnaaaGreat

namespace Go.Proofs.YthgekjkgfccnaaaGreat
open Go.RowKit

theorem RoomsOk.set {rooms : List Int} (h : RoomsOk rooms) {k : Nat} {x : Int} (hx : 0 ≤ x ∧ x ≤ 1000000000) : RoomsOk (rooms.set k x) := by
  intro r hr
  rcases List.mem_or_eq_of_mem_set hr with hr | hr
  · exact h r hr
  · subst hr; exact hx

set_option maxHeartbeats 1000000 in
set_option maxRecDepth 100000 in
theorem canTake_any (k : Nat) (piece : Int) (A A' : Option Addr) (cp cp' : Nat) (others rooms : List Int) (w : World) (hA : Ints w A others) (hA' : Ints w A' rooms) (hp : 1 ≤ piece ∧ piece ≤ 1000000000) (ho : PiecesOk others) (hr : RoomsOk rooms) (hk : k < rooms.length) (hl : others.length ≤ 14) (hl' : rooms.length ≤ 1000000) :
    Calls Tryz.prog 81 #[.int .i64 (k : Int), .int .i64 piece, .slice A others.length cp, .slice A' rooms.length cp'] w fun e w' => e = .returned (.bool (canF k piece others rooms)) ∧ Below w.heap.size w w' := by
  obtain ⟨g, off, r, rfl, hg, hrk, hc⟩ := Ints.at_ hA' hk
  have hrr := hr r (List.mem_of_getElem? hrk)
  have hcan : canF k piece others rooms = (decide (piece ≤ r) && decide (lastF others (rooms.set k (r - piece)) < rooms.length)) := by
    unfold canF
    rw [List.getD_eq_getElem?_getD, hrk]; rfl
  have HC := Lib.hid hcan
  have HR := Lib.hid hrk
  clear hcan hrk
  by_cases h : piece ≤ r
  · have hcl := clone_any ⟨g, off, none⟩ cp' rooms.length rooms w hA' rfl (by omega)
    have hro : RoomsOk (rooms.set k (r - piece)) := hr.set (by omega)
    have hs : IntKind.i64.wrap (r - piece) = r - piece := wrapI (by omega) (by omega)
    have HCL := Lib.hid hcl
    have HA := Lib.hid hA
    clear hcl hA hA'
    go_enter Tryz.func81, Tryz.ntmps81
    go_wp2_with (fail)
    refine (HCL.out).mono ?_
    rintro e w1 ⟨g1, cap, rfl, hg1, hd, hb1⟩
    have c1 := hd.cell (i := k) (is_at HR.out)
    have f1 := hd.frozen
    have hset := hd.set (i := k) (by rw [is_len]; exact hk) (.int .i64 (r - piece))
    rw [is_set] at hset
    have hv := hset.vals
    have hb2 := below_set hb1 hg1 (i := k) (.int .i64 (r - piece))
    have hla := lastCoil_any A (some ⟨g1, 0, none⟩) cp cap others (rooms.set k (r - piece)) _ (HA.out.keep hb2) hv ho hro hl (by rw [List.length_set]; exact hl')
    rw [List.length_set] at hla
    have HL := Lib.hid hla
    clear hla hv hset
    go_wp2_with (fail)
    refine (HL.out).mono ?_
    rintro e w2 ⟨rfl, hb3⟩
    go_wp2
    go_ret
    refine ⟨?_, below_on hb2 hb2.size hb3⟩
    rw [HC.out]
    simp [h]
  · have hd : decide (piece ≤ r) = false := by simpa using h
    go_enter Tryz.func81, Tryz.ntmps81
    go_wp2
    go_ret
    exact ⟨by rw [HC.out, hd]; rfl, Below.refl _ _⟩
end Go.Proofs.YthgekjkgfccnaaaGreat
