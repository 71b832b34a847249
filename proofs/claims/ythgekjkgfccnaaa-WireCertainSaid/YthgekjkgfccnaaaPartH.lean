/- Part of the proof of WireCertain: WNat, WStr, WStr2, Coils, WLiv, WFold, WFlr, CoilT, CoilR, CoilS, CoilG. -/
import Derived.Test.YthgekjkgfccnaaaPartB
import Derived.Test.YthgekjkgfccnaaaPartF
import Derived.Test.YthgekjkgfccnaaaPartG
import Derived.Test.YthgekjkgfccnaaaPartE
import Derived.Test.YthgekjkgfccnaaaPartC
namespace Go.Proofs.Ythgekjkgfccnaaa
open Go.RowKit Num

/-- Numbers that are small enough for all that follows. -/
def Sml (n : Nat) : Prop := n < B32 ^ 6
theorem b32_6 : B32 ^ 6 = B64 ^ 3 := by unfold B32 B64; decide
theorem b32_bits : B32 ^ 6 = 2 ^ 192 := by unfold B32; decide
theorem Sml.len {n : Nat} (h : Sml n) : (dig B32 n).length ≤ 6 := dig_len_le b32_two h
theorem Sml.len64 {n : Nat} (h : Sml n) : (dig B64 n).length ≤ 3 := dig_len_le b64_two (by unfold Sml at h; rw [b32_6] at h; exact h)
theorem Sml.bits {n : Nat} (h : Sml n) : nbits n ≤ 192 := nbits_le (by unfold Sml at h; rw [b32_bits] at h; exact h)
theorem sml_of {n k : Nat} (h : n < k) (hk : k ≤ 2 ^ 192) : Sml n := by unfold Sml; rw [b32_bits]; exact Nat.lt_of_lt_of_le h hk
theorem sml_i64 {n : Nat} (h : n < 9223372036854775808) : Sml n := sml_of h (by decide)
theorem Sml.le {m n : Nat} (h : Sml n) (hm : m ≤ n) : Sml m := Nat.lt_of_le_of_lt hm h

set_option maxHeartbeats 400000 in
set_option maxRecDepth 100000 in
theorem wtimes_any (a : Value) (m n : Nat) (w : World) (ha : N32 w a m) (hm : Sml m) (hn : n < 9223372036854775808) (hp : Sml (m * n)) : Calls Try.prog 51 #[a, .int .i64 (n : Int)] w (NatPost w (m * n)) := by
  have hof := fun w1 => of_any n (by unfold B64; omega) w1
  have hcv : IntKind.u64.wrap (n : Int) = (n : Int) := by rw [IntKind.wrap_u64]; omega
  have hml := fun b w1 (h : N32 w1 a m) (k : N32 w1 b n) => mul_ok mulSpec_small (by omega) a b m n w1 h k (by have := hm.len; omega) (by have := (sml_i64 hn).len; omega) (by have := hm.len; omega) (by have := (sml_i64 hn).len; omega) (by have := hp.bits; omega)
  have HOF := Lib.hid hof
  have HML := Lib.hid hml
  have HA := Lib.hid ha
  clear hof hml ha
  go_enter Try.func51, Try.ntmps51
  go_wp2_with (fail)
  refine (HOF.out _).mono ?_
  rintro e w1 ⟨v, rfl, hv, hb1⟩
  have HC := HML.out v w1 (HA.out.keep hb1) hv.is
  have HCC := Lib.hid HC
  clear HC
  go_wp2_with (fail)
  refine (HCC.out).mono ?_
  rintro e w2 ⟨u, rfl, hu, hb2⟩
  go_wp2
  go_ret
  exact ⟨_, rfl, hu.mono hb1.size, below_on hb1 hb1.size hb2⟩

theorem pow10_sml {k : Nat} (h : k ≤ 30) : Sml (10 ^ k) := sml_of (k := 10 ^ 31) (Nat.pow_lt_pow_right (by omega) (by omega)) (by decide)
set_option maxHeartbeats 400000 in
set_option maxRecDepth 100000 in
theorem tenTo_any (k : Nat) (w : World) (hk : k ≤ 30) : Calls Try.prog 42 #[.int .i64 (k : Int)] w (NatPost w (10 ^ k)) := by
  have hof := fun w1 => of_any 10 (by unfold B64; omega) w1
  have hpw := fun b w1 (h : N32 w1 b 10) => pow_ok b 10 k w1 h (by have := (sml_i64 (n := 10) (by omega)).len; omega) (by omega) (by have := (sml_i64 (n := 10) (by omega)).bits; omega)
  have HOF := Lib.hid hof
  have HPW := Lib.hid hpw
  clear hof hpw
  go_enter Try.func42, Try.ntmps42
  go_wp2_with (fail)
  refine (HOF.out _).mono ?_
  rintro e w1 ⟨v, rfl, hv, hb1⟩
  have HCC := Lib.hid (HPW.out v w1 hv.is)
  go_wp2_with (fail)
  refine (HCC.out).mono ?_
  rintro e w2 ⟨u, rfl, hu, hb2⟩
  go_wp2
  go_ret
  exact ⟨_, rfl, hu.mono hb1.size, below_on hb1 hb1.size hb2⟩

def IntPost (w : World) (n : Nat) (e : Ending) (w' : World) : Prop := e = .returned (.int .i64 (n : Int)) ∧ Below w.heap.size w w'
set_option maxHeartbeats 400000 in
set_option maxRecDepth 100000 in
theorem quotient_any (a b : Value) (m n : Nat) (w : World) (ha : N32 w a m) (hb : N32 w b n) (hm : Sml m) (hn : Sml n) (h0 : 0 < n) (hq : m / n < 9223372036854775808) : Calls Try.prog 41 #[a, b] w (IntPost w (m / n)) := by
  have hdv := divMod_ok a b m n w ha hb (by have := hm.len; omega) (by have := hn.len; omega) h0 (.inl (by have := hn.len64; omega))
  have hq64 : (dig B32 (m / n)).length ≤ 2 := dig_len_le b32_two (by unfold B32; omega)
  have hu := fun v w1 (h : N32 w1 v (m / n)) => uint64_ok v (m / n) w1 h hq64
  generalize m / n = q at *
  have hcv : IntKind.i64.wrap (q : Int) = (q : Int) := by rw [IntKind.wrap_i64]; omega
  have HDV := Lib.hid hdv
  have HU := Lib.hid hu
  clear hdv hu ha hb hq64
  go_enter Try.func41, Try.ntmps41
  go_wp2_with (fail)
  refine (HDV.out).mono ?_
  rintro e w1 ⟨v, u, rfl, hv, _, hb1⟩
  have HCC := Lib.hid (HU.out v w1 hv.is)
  go_wp2_with (fail)
  refine (HCC.out).mono ?_
  rintro e w2 ⟨rfl, hb2⟩
  go_wp2
  go_ret
  exact ⟨rfl, below_on hb1 hb1.size hb2⟩

/-- The product of some numbers. -/
def prodN (l : List Nat) : Nat := l.foldl (· * ·) 1
theorem prodN_snoc {l : List Nat} {k x : Nat} (h : l[k]? = some x) : prodN (l.take (k + 1)) = prodN (l.take k) * x := by
  unfold prodN
  rw [List.take_add_one, h]
  simp
def numI (l : List Nat) : List Int := l.map fun (x : Nat) => (x : Int)
theorem numI_at {l : List Nat} {k x : Nat} (h : l[k]? = some x) : (numI l)[k]? = some (x : Int) := by simp [numI, h]
set_option maxHeartbeats 1000000 in
set_option maxRecDepth 100000 in
theorem product_any (A : Option Addr) (cp L : Nat) (l : List Nat) (w : World) (hA : Ints w A (numI l)) (hL : L = l.length) (hl : l.length ≤ 100) (hx : ∀ x ∈ l, x < 9223372036854775808) (hs : ∀ k, k ≤ l.length → Sml (prodN (l.take k))) :
    Calls Try.prog 31 #[.slice A L cp] w (NatPost w (prodN l)) := by
  have hof := fun w1 => of_any 1 (by unfold B64; omega) w1
  have htm := fun a m n w1 (h : N32 w1 a m) (h1 : Sml m) (h2 : n < 9223372036854775808) (h3 : Sml (m * n)) => wtimes_any a m n w1 h h1 h2 h3
  have HOF := Lib.hid hof
  have HTM := Lib.hid htm
  have HA := Lib.hid hA
  have HL := Lib.hid hL
  have HS := Lib.hid hs
  have HX := Lib.hid hx
  clear hof htm hA hL hs hx
  go_enter Try.func31, Try.ntmps31
  go_wp2_with (fail)
  refine (HOF.out _).mono ?_
  rintro e w1 ⟨v, rfl, hv, hb1⟩
  go_wp2
  go_loopw [3, 5, 9] (fun p _ t wr => ∃ k : Nat, k ≤ L ∧ t = .int .i64 (k : Int) ∧ OwnL w.heap.size wr p (prodN (l.take k)) ∧ Below w.heap.size w wr) (fun _ _ t _ => L - (intOf t).toNat)
  case atStart => exact ⟨0, Nat.zero_le _, rfl, hv, hb1⟩
  case round =>
    clear hv hb1
    obtain ⟨k, hk, rfl, hp, hbl⟩ := hrel
    by_cases hlt : k < L
    · have hkl : k < l.length := by have := HL.out; omega
      obtain ⟨x, hx⟩ : ∃ x, l[k]? = some x := ⟨l[k], List.getElem?_eq_getElem hkl⟩
      obtain ⟨g, off, y, rfl, hg, hy, hc⟩ := Ints.at_ (HA.out.keep hbl) (i := k) (by simp [numI]; exact hkl)
      have hyx : y = (x : Int) := by rw [numI_at hx] at hy; injection hy with hy; exact hy.symm
      subst hyx
      have hsn := prodN_snoc hx
      have hx1 := HX.out x (List.mem_of_getElem? hx)
      have hs1 := HS.out k (by omega)
      have hs2 := HS.out (k + 1) (by omega)
      rw [hsn] at hs2
      have HSN := Lib.hid hsn
      clear hsn hx hy
      generalize prodN (l.take k) = m at *
      have HC := Lib.hid (HTM.out _ m x wr hp.is hs1 hx1 hs2)
      have hi1 : IntKind.i64.wrap ((k : Int) + 1) = (k : Int) + 1 := wrapI (by omega) (by omega)
      go_wp2_with (fail)
      refine (HC.out).mono ?_
      rintro e w2 ⟨u, rfl, hu, hb2⟩
      go_wp2
      go_roundw
      case rel => exact ⟨k + 1, by omega, by go_num, by rw [HSN.out]; exact hu.mono hbl.size, below_on hbl hbl.size hb2⟩
      case measure => simp [intOf]; omega
    · obtain rfl : k = L := by omega
      have hp2 : OwnL w.heap.size wr u3 (prodN l) := by have := hp; rwa [HL.out, List.take_length] at this
      have HP := Lib.hid hp2
      clear hp hp2
      go_wp2
      go_ret
      exact ⟨_, rfl, HP.out, hbl⟩
end Go.Proofs.Ythgekjkgfccnaaa

namespace Go.Proofs.Ythgekjkgfccnaaa
open Go.RowKit Num

theorem within_t (v lo hi : Int) (h : lo ≤ v ∧ v ≤ hi) (w : World) : Calls Try.prog 39 #[.int .i64 v, .int .i64 lo, .int .i64 hi] w fun e w' => e = .returned (.bool true) ∧ w = w' := by
  have := within_any v lo hi w; rwa [inB_of h] at this
theorem within_f (v lo hi : Int) (h : ¬ (lo ≤ v ∧ v ≤ hi)) (w : World) : Calls Try.prog 39 #[.int .i64 v, .int .i64 lo, .int .i64 hi] w fun e w' => e = .returned (.bool false) ∧ w = w' := by
  have := within_any v lo hi w; rwa [inB_not h] at this

def leL : List Nat → List Nat → Prop
  | [], [] => True
  | x :: l, y :: m => x ≤ y ∧ leL l m
  | _, _ => False
theorem fold_mono : ∀ (l m : List Nat) (a b : Nat), leL l m → a ≤ b → l.foldl (· * ·) a ≤ m.foldl (· * ·) b
  | [], [], _, _, _, h => h
  | [], _ :: _, _, _, h, _ => absurd h (by simp [leL])
  | _ :: _, [], _, _, h, _ => absurd h (by simp [leL])
  | x :: l, y :: m, a, b, h, hab => fold_mono l m (a * x) (b * y) h.2 (Nat.mul_le_mul hab h.1)
theorem prodN_mono {l m : List Nat} (h : leL l m) : prodN l ≤ prodN m := fold_mono _ _ _ _ h (Nat.le_refl _)
theorem fold_ge : ∀ {l : List Nat} {a : Nat}, (∀ x ∈ l, 1 ≤ x) → a ≤ l.foldl (· * ·) a
  | [], _, _ => Nat.le_refl _
  | x :: l, a, h => Nat.le_trans (Nat.le_mul_of_pos_right a (h x (by simp))) (fold_ge fun y hy => h y (by simp [hy]))
theorem prodN_take_le {l : List Nat} (h : ∀ x ∈ l, 1 ≤ x) (k : Nat) : prodN (l.take k) ≤ prodN l := by
  have e : prodN l = (l.drop k).foldl (· * ·) (prodN (l.take k)) := by
    unfold prodN
    rw [← List.foldl_append, List.take_append_drop]
  rw [e]
  exact fold_ge fun x hx => h x (List.mem_of_mem_drop hx)
theorem prod_ok (A : Option Addr) (cp L : Nat) (l : List Nat) (w : World) (hA : Ints w A (numI l)) (hL : L = l.length) (hl : l.length ≤ 100) (h1 : ∀ x ∈ l, 1 ≤ x) (hx : ∀ x ∈ l, x < 9223372036854775808) (hs : Sml (prodN l)) :
    Calls Try.prog 31 #[.slice A L cp] w (NatPost w (prodN l)) :=
  product_any A cp L l w hA hL hl hx fun k _ => hs.le (prodN_take_le h1 k)

/-- What is pulled, and how much of it is borne. -/
def pullN (d w l f : Nat) : Nat := prodN [355, d, w, w, l, l, f, f] / (10 ^ 23 * 113)
def stressN (d l f : Nat) : Nat := prodN [4, d, l, l, f, f] / 10 ^ 20
def holdN (d s l f sf : Nat) : Bool := decide (prodN [400, d, l, l, f, f] ≤ 10 ^ 20 * (sf * s))
structure InD (d : Nat) : Prop where (lo : 1 ≤ d) (hi : d ≤ 30000)
structure InW (d : Nat) : Prop where (lo : 1 ≤ d) (hi : d ≤ 2000)
structure InL (d : Nat) : Prop where (lo : 1 ≤ d) (hi : d ≤ 100000)
structure InF (d : Nat) : Prop where (lo : 1 ≤ d) (hi : d ≤ 10000000)
structure InS (d : Nat) : Prop where (lo : 1 ≤ d) (hi : d ≤ 100000)
structure InP (d : Nat) : Prop where (lo : 1 ≤ d) (hi : d ≤ 100)

theorem pull_le {d w l f : Nat} (hd : InD d) (hw : InW w) (hl : InL l) (hf : InF f) : prodN [355, d, w, w, l, l, f, f] ≤ 42600000000000000000000000000000000000 :=
  Nat.le_trans (prodN_mono (m := [355, 30000, 2000, 2000, 100000, 100000, 10000000, 10000000]) ⟨Nat.le_refl _, hd.hi, hw.hi, hw.hi, hl.hi, hl.hi, hf.hi, hf.hi, trivial⟩) (by decide)
theorem stress_le {c d l f : Nat} (hc : c ≤ 400) (hd : InD d) (hl : InL l) (hf : InF f) : prodN [c, d, l, l, f, f] ≤ 12000000000000000000000000000000 :=
  Nat.le_trans (prodN_mono (m := [400, 30000, 100000, 100000, 10000000, 10000000]) ⟨hc, hd.hi, hl.hi, hl.hi, hf.hi, hf.hi, trivial⟩) (by decide)
theorem pull_lt {d w l f : Nat} (hd : InD d) (hw : InW w) (hl : InL l) (hf : InF f) : pullN d w l f ≤ 4000000000000 := by
  unfold pullN
  have := pull_le hd hw hl hf
  generalize prodN [355, d, w, w, l, l, f, f] = x at *
  omega
theorem stress_lt {d l f : Nat} (hd : InD d) (hl : InL l) (hf : InF f) : stressN d l f ≤ 4000000000000 := by
  unfold stressN
  have := stress_le (c := 4) (by omega) hd hl hf
  generalize prodN [4, d, l, l, f, f] = x at *
  omega

/-- A list that was just built. -/
theorem ints_new (w : World) (l : List Int) : Ints (w.alloc (.cells (is l).toArray 3)) (some ⟨w.heap.size, 0, none⟩) l := (Blk.new w 3 (is l)).vals0

set_option maxHeartbeats 400000 in
set_option maxRecDepth 100000 in
theorem tension_any (d wd l f : Nat) (w : World) (hd : InD d) (hw : InW wd) (hl : InL l) (hf : InF f) : Calls Try.prog 40 #[.int .i64 (d : Int), .int .i64 (wd : Int), .int .i64 (l : Int), .int .i64 (f : Int)] w (IntPost w (pullN d wd l f)) := by
  have hle := pull_le hd hw hl hf
  have hsm : Sml (prodN [355, d, wd, wd, l, l, f, f]) := sml_of (k := 42600000000000000000000000000000000001) (Nat.lt_succ_of_le hle) (by decide)
  have hpr := prod_ok (some ⟨w.heap.size, 0, none⟩) 8 8 [355, d, wd, wd, l, l, f, f] _ (ints_new w _) rfl (by simp) (by simp; have := hd.lo; have := hw.lo; have := hl.lo; have := hf.lo; omega) (by simp; have := hd.hi; have := hw.hi; have := hl.hi; have := hf.hi; omega) hsm
  have hbA := below_new w (.cells (is (numI [355, d, wd, wd, l, l, f, f])).toArray 3)
  have hten := fun w1 => tenTo_any 23 w1 (by omega)
  have htm := fun a w1 (h : N32 w1 a (10 ^ 23)) => wtimes_any a (10 ^ 23) 113 w1 h (pow10_sml (by omega)) (by omega) (sml_of (k := 10 ^ 26) (by decide) (by decide))
  have hq := fun a b w1 (h : N32 w1 a (prodN [355, d, wd, wd, l, l, f, f])) (k : N32 w1 b (10 ^ 23 * 113)) => quotient_any a b _ _ w1 h k hsm (sml_of (k := 10 ^ 26) (by decide) (by decide)) (by decide) (Nat.lt_of_le_of_lt (pull_lt hd hw hl hf) (by decide))
  have HPR := Lib.hid hpr
  have HTE := Lib.hid hten
  have HTM := Lib.hid htm
  have HQ := Lib.hid hq
  have HBA := Lib.hid hbA
  clear hpr hten htm hq hle hsm hbA
  go_enter Try.func40, Try.ntmps40
  go_wp2_with (fail)
  refine (HPR.out).mono ?_
  rintro e w1 ⟨v, rfl, hv, hb1⟩
  have b1 := below_on HBA.out HBA.out.size hb1
  go_wp2_with (fail)
  refine (HTE.out _).mono ?_
  rintro e w2 ⟨v2, rfl, hv2, hb2⟩
  have b2 := below_on b1 b1.size hb2
  have HC := Lib.hid (HTM.out v2 w2 hv2.is)
  go_wp2_with (fail)
  refine (HC.out).mono ?_
  rintro e w3 ⟨v3, rfl, hv3, hb3⟩
  have b3 := below_on b2 b2.size hb3
  have HD := Lib.hid (HQ.out v v3 w3 ((hv.keep hb2).keep hb3).is hv3.is)
  go_wp2_with (fail)
  refine (HD.out).mono ?_
  rintro e w4 ⟨rfl, hb4⟩
  go_wp2
  go_ret
  exact ⟨rfl, below_on b3 b3.size hb4⟩

def Int2 (w : World) (n : Int) (k : Int) (e : Ending) (w' : World) : Prop := e = .returned (.tuple #[.int .i64 n, .int .i64 k]) ∧ Below w.heap.size w w'
theorem Tension_ok (d wd l f : Nat) (w : World) (hd : InD d) (hw : InW wd) (hl : InL l) (hf : InF f) : Calls Try.prog 23 #[.int .i64 (d : Int), .int .i64 (wd : Int), .int .i64 (l : Int), .int .i64 (f : Int)] w (Int2 w (pullN d wd l f : Nat) 0) := by
  have h1 := fun w1 => within_t (d : Int) 1 30000 (by have := hd.lo; have := hd.hi; omega) w1
  have h2 := fun w1 => within_t (wd : Int) 1 2000 (by have := hw.lo; have := hw.hi; omega) w1
  have h3 := fun w1 => within_t (l : Int) 1 100000 (by have := hl.lo; have := hl.hi; omega) w1
  have h4 := fun w1 => within_t (f : Int) 1 10000000 (by have := hf.lo; have := hf.hi; omega) w1
  have h5 := fun w1 => tension_any d wd l f w1 hd hw hl hf
  have H1 := Lib.hid h1
  have H2 := Lib.hid h2
  have H3 := Lib.hid h3
  have H4 := Lib.hid h4
  have H5 := Lib.hid h5
  clear h1 h2 h3 h4 h5
  go_enter Try.func23, Try.ntmps23
  go_wp2_with (fail)
  refine (H1.out _).mono ?_
  rintro e w1 ⟨rfl, rfl⟩
  go_wp2_with (fail)
  refine (H2.out _).mono ?_
  rintro e w1 ⟨rfl, rfl⟩
  go_wp2_with (fail)
  refine (H3.out _).mono ?_
  rintro e w1 ⟨rfl, rfl⟩
  go_wp2_with (fail)
  refine (H4.out _).mono ?_
  rintro e w1 ⟨rfl, rfl⟩
  go_wp2_with (fail)
  refine (H5.out _).mono ?_
  rintro e w1 ⟨rfl, hb⟩
  go_wp2
  go_ret2
  exact ⟨rfl, hb⟩
end Go.Proofs.Ythgekjkgfccnaaa

namespace Go.Proofs.Ythgekjkgfccnaaa
open Go.RowKit Num

set_option maxHeartbeats 400000 in
set_option maxRecDepth 100000 in
theorem Stress_ok (d l f : Nat) (w : World) (hd : InD d) (hl : InL l) (hf : InF f) : Calls Try.prog 24 #[.int .i64 (d : Int), .int .i64 (l : Int), .int .i64 (f : Int)] w (Int2 w (stressN d l f : Nat) 0) := by
  have h1 := fun w1 => within_t (d : Int) 1 30000 (by have := hd.lo; have := hd.hi; omega) w1
  have h2 := fun w1 => within_t (l : Int) 1 100000 (by have := hl.lo; have := hl.hi; omega) w1
  have h3 := fun w1 => within_t (f : Int) 1 10000000 (by have := hf.lo; have := hf.hi; omega) w1
  have hle := stress_le (c := 4) (by omega) hd hl hf
  have hsm : Sml (prodN [4, d, l, l, f, f]) := sml_of (k := 12000000000000000000000000000000001) (Nat.lt_of_le_of_lt hle (by decide)) (by decide)
  have hpr := prod_ok (some ⟨w.heap.size, 0, none⟩) 6 6 [4, d, l, l, f, f] _ (ints_new w _) rfl (by simp) (by simp; have := hd.lo; have := hl.lo; have := hf.lo; omega) (by simp; have := hd.hi; have := hl.hi; have := hf.hi; omega) hsm
  have hba := below_new w (.cells (is (numI [4, d, l, l, f, f])).toArray 3)
  have hten := fun w1 => tenTo_any 20 w1 (by omega)
  have hq := fun a b w1 (h : N32 w1 a (prodN [4, d, l, l, f, f])) (k : N32 w1 b (10 ^ 20)) => quotient_any a b _ _ w1 h k hsm (pow10_sml (by omega)) (by decide) (Nat.lt_of_le_of_lt (stress_lt hd hl hf) (by decide))
  have H1 := Lib.hid h1
  have H2 := Lib.hid h2
  have H3 := Lib.hid h3
  have Hpr := Lib.hid hpr
  have Hten := Lib.hid hten
  have Hq := Lib.hid hq
  have Hba := Lib.hid hba
  clear h1 h2 h3 hpr hten hq hba
  clear hle hsm
  go_enter Try.func24, Try.ntmps24
  go_wp2_with (fail)
  refine (H1.out _).mono ?_
  rintro e w1 ⟨rfl, rfl⟩
  go_wp2_with (fail)
  refine (H2.out _).mono ?_
  rintro e w1 ⟨rfl, rfl⟩
  go_wp2_with (fail)
  refine (H3.out _).mono ?_
  rintro e w1 ⟨rfl, rfl⟩
  go_wp2_with (fail)
  refine (Hpr.out).mono ?_
  rintro e w1 ⟨v, rfl, hv, hb1⟩
  have b1 := below_on Hba.out Hba.out.size hb1
  go_wp2_with (fail)
  refine (Hten.out _).mono ?_
  rintro e w2 ⟨v2, rfl, hv2, hb2⟩
  have b2 := below_on b1 b1.size hb2
  have HD := Lib.hid (Hq.out v v2 w2 (hv.keep hb2).is hv2.is)
  go_wp2_with (fail)
  refine (HD.out).mono ?_
  rintro e w3 ⟨rfl, hb3⟩
  go_wp2
  go_ret2
  exact ⟨rfl, below_on b2 b2.size hb3⟩

theorem strength_sml {s sf : Nat} (hs : InS s) (hp : InP sf) : sf * s ≤ 10000000 := Nat.le_trans (Nat.mul_le_mul hp.hi hs.hi) (by decide)
theorem strength_sml2 {x : Nat} (h : x ≤ 10000000) : Sml (10 ^ 20 * x) := sml_of (k := 10 ^ 28) (Nat.lt_of_le_of_lt (Nat.mul_le_mul_left _ h) (by decide)) (by decide)
set_option maxHeartbeats 400000 in
set_option maxRecDepth 100000 in
theorem strengthOf_any (s sf : Nat) (w : World) (hs : InS s) (hp : InP sf) : Calls Try.prog 30 #[.int .i64 (s : Int), .int .i64 (sf : Int)] w (NatPost w (10 ^ 20 * (sf * s))) := by
  have hle := strength_sml hs hp
  obtain ⟨p, hpe⟩ : ∃ p, sf * s = p := ⟨_, rfl⟩
  have hw0 : ((sf : Int) * (s : Int)) = (p : Int) := by rw [← hpe]; push_cast; rfl
  rw [hpe] at hle ⊢
  have hw1 : IntKind.i64.wrap ((sf : Int) * (s : Int)) = (p : Int) := by rw [hw0, wrapI (by omega) (by omega)]
  have hten := fun w1 => tenTo_any 20 w1 (by omega)
  have htm := fun a w1 (h : N32 w1 a (10 ^ 20)) => wtimes_any a (10 ^ 20) p w1 h (pow10_sml (by omega)) (by omega) (strength_sml2 hle)
  have hw2 : wrap64 ((sf : Int) * (s : Int)) = (p : Int) := by rw [hw0]; unfold wrap64; omega
  clear hpe hw0
  have Hten := Lib.hid hten
  have Htm := Lib.hid htm
  clear hten htm
  go_enter Try.func30, Try.ntmps30
  go_wp2_with (fail)
  refine (Hten.out _).mono ?_
  rintro e w1 ⟨v, rfl, hv, hb1⟩
  have HC := Lib.hid (Htm.out v w1 hv.is)
  go_wp2_with (fail)
  refine (HC.out).mono ?_
  rintro e w2 ⟨v2, rfl, hv2, hb2⟩
  go_wp2
  go_ret
  exact ⟨_, rfl, hv2.mono hb1.size, below_on hb1 hb1.size hb2⟩

theorem cmp_le {m n : Nat} : decide (cmpN m n ≤ 0) = decide (m ≤ n) := by
  rcases Nat.lt_trichotomy m n with h | h | h
  · rw [cmpN_lt h]; simp; omega
  · subst h; rw [cmpN_eq]; simp
  · rw [cmpN_gt h]; simp; omega
def BoolPost (w : World) (b : Bool) (e : Ending) (w' : World) : Prop := e = .returned (.bool b) ∧ Below w.heap.size w w'
set_option maxHeartbeats 400000 in
set_option maxRecDepth 100000 in
theorem holds_any (d s l f sf : Nat) (w : World) (hd : InD d) (hs : InS s) (hl : InL l) (hf : InF f) (hp : InP sf) : Calls Try.prog 43 #[.int .i64 (d : Int), .int .i64 (s : Int), .int .i64 (l : Int), .int .i64 (f : Int), .int .i64 (sf : Int)] w (BoolPost w (holdN d s l f sf)) := by
  have hle := stress_le (c := 400) (by omega) hd hl hf
  have hsm : Sml (prodN [400, d, l, l, f, f]) := sml_of (k := 12000000000000000000000000000000001) (Nat.lt_of_le_of_lt hle (by decide)) (by decide)
  have hpr := prod_ok (some ⟨w.heap.size, 0, none⟩) 6 6 [400, d, l, l, f, f] _ (ints_new w _) rfl (by simp) (by simp; have := hd.lo; have := hl.lo; have := hf.lo; omega) (by simp; have := hd.hi; have := hl.hi; have := hf.hi; omega) hsm
  have hba := below_new w (.cells (is (numI [400, d, l, l, f, f])).toArray 3)
  have hst := fun w1 => strengthOf_any s sf w1 hs hp
  have hsm2 := strength_sml2 (strength_sml hs hp)
  have hcm := fun a b w1 (h : N32 w1 a (prodN [400, d, l, l, f, f])) (k : N32 w1 b (10 ^ 20 * (sf * s))) => cmp_ok a b _ _ w1 h k (by have := hsm.len; omega) (by have := hsm2.len; omega)
  have hcl : decide (cmpN (prodN [400, d, l, l, f, f]) (10 ^ 20 * (sf * s)) ≤ 0) = holdN d s l f sf := cmp_le
  generalize cmpN (prodN [400, d, l, l, f, f]) (10 ^ 20 * (sf * s)) = c at *
  have Hpr := Lib.hid hpr
  have Hba := Lib.hid hba
  have Hst := Lib.hid hst
  have Hcm := Lib.hid hcm
  have Hcl := Lib.hid hcl
  clear hpr hba hst hcm hcl
  clear hle hsm hsm2
  go_enter Try.func43, Try.ntmps43
  go_wp2_with (fail)
  refine (Hpr.out).mono ?_
  rintro e w1 ⟨v, rfl, hv, hb1⟩
  have b1 := below_on Hba.out Hba.out.size hb1
  go_wp2_with (fail)
  refine (Hst.out _).mono ?_
  rintro e w2 ⟨v2, rfl, hv2, hb2⟩
  have b2 := below_on b1 b1.size hb2
  have HD := Lib.hid (Hcm.out v v2 w2 (hv.keep hb2).is hv2.is)
  go_wp2_with (fail)
  refine (HD.out).mono ?_
  rintro e w3 ⟨rfl, hb3⟩
  go_wp2
  go_ret
  exact ⟨by rw [← Hcl.out]; rfl, below_on b2 b2.size hb3⟩

/-- The four ranges. -/
def strongB (d s f sf : Int) : Bool := ((inB d 1 30000 && inB s 1 100000) && inB f 1 10000000) && inB sf 1 100
set_option maxHeartbeats 400000 in
set_option maxRecDepth 100000 in
theorem areStrong_any (d s f sf : Int) (w : World) : Calls Try.prog 28 #[.int .i64 d, .int .i64 s, .int .i64 f, .int .i64 sf] w fun e w' => e = .returned (.bool (strongB d s f sf)) ∧ w = w' := by
  have h1 := fun w1 => within_any d 1 30000 w1
  have h2 := fun w1 => within_any s 1 100000 w1
  have h3 := fun w1 => within_any f 1 10000000 w1
  have h4 := fun w1 => within_any sf 1 100 w1
  unfold strongB
  generalize inB d 1 30000 = a1 at *
  generalize inB s 1 100000 = a2 at *
  generalize inB f 1 10000000 = a3 at *
  generalize inB sf 1 100 = a4 at *
  have H1 := Lib.hid h1
  have H2 := Lib.hid h2
  have H3 := Lib.hid h3
  have H4 := Lib.hid h4
  clear h1 h2 h3 h4
  cases a1 with
  | false =>
    go_enter Try.func28, Try.ntmps28
    go_wp2_with (fail)
    refine (H1.out _).mono ?_
    rintro e w1 ⟨rfl, rfl⟩
    go_wp2
    go_ret
    exact ⟨rfl, rfl⟩
  | true =>
    cases a2 with
    | false =>
      go_enter Try.func28, Try.ntmps28
      go_wp2_with (fail)
      refine (H1.out _).mono ?_
      rintro e w1 ⟨rfl, rfl⟩
      go_wp2_with (fail)
      refine (H2.out _).mono ?_
      rintro e w1 ⟨rfl, rfl⟩
      go_wp2
      go_ret
      exact ⟨rfl, rfl⟩
    | true =>
      cases a3 with
      | false =>
        go_enter Try.func28, Try.ntmps28
        go_wp2_with (fail)
        refine (H1.out _).mono ?_
        rintro e w1 ⟨rfl, rfl⟩
        go_wp2_with (fail)
        refine (H2.out _).mono ?_
        rintro e w1 ⟨rfl, rfl⟩
        go_wp2_with (fail)
        refine (H3.out _).mono ?_
        rintro e w1 ⟨rfl, rfl⟩
        go_wp2
        go_ret
        exact ⟨rfl, rfl⟩
      | true =>
        cases a4 with
        | false =>
          go_enter Try.func28, Try.ntmps28
          go_wp2_with (fail)
          refine (H1.out _).mono ?_
          rintro e w1 ⟨rfl, rfl⟩
          go_wp2_with (fail)
          refine (H2.out _).mono ?_
          rintro e w1 ⟨rfl, rfl⟩
          go_wp2_with (fail)
          refine (H3.out _).mono ?_
          rintro e w1 ⟨rfl, rfl⟩
          go_wp2_with (fail)
          refine (H4.out _).mono ?_
          rintro e w1 ⟨rfl, rfl⟩
          go_wp2
          go_ret
          exact ⟨rfl, rfl⟩
        | true =>
          go_enter Try.func28, Try.ntmps28
          go_wp2_with (fail)
          refine (H1.out _).mono ?_
          rintro e w1 ⟨rfl, rfl⟩
          go_wp2_with (fail)
          refine (H2.out _).mono ?_
          rintro e w1 ⟨rfl, rfl⟩
          go_wp2_with (fail)
          refine (H3.out _).mono ?_
          rintro e w1 ⟨rfl, rfl⟩
          go_wp2_with (fail)
          refine (H4.out _).mono ?_
          rintro e w1 ⟨rfl, rfl⟩
          go_wp2
          go_ret
          exact ⟨rfl, rfl⟩

theorem strongB_t {d s f sf : Nat} (hd : InD d) (hs : InS s) (hf : InF f) (hp : InP sf) : strongB d s f sf = true := by
  unfold strongB
  rw [inB_of (by have := hd.lo; have := hd.hi; omega), inB_of (by have := hs.lo; have := hs.hi; omega), inB_of (by have := hf.lo; have := hf.hi; omega), inB_of (by have := hp.lo; have := hp.hi; omega)]
  rfl
def Bool2 (w : World) (b : Bool) (k : Int) (e : Ending) (w' : World) : Prop := e = .returned (.tuple #[.bool b, .int .i64 k]) ∧ Below w.heap.size w w'
set_option maxHeartbeats 400000 in
set_option maxRecDepth 100000 in
theorem Holds_ok (d s l f sf : Nat) (w : World) (hd : InD d) (hs : InS s) (hl : InL l) (hf : InF f) (hp : InP sf) : Calls Try.prog 25 #[.int .i64 (d : Int), .int .i64 (s : Int), .int .i64 (l : Int), .int .i64 (f : Int), .int .i64 (sf : Int)] w (Bool2 w (holdN d s l f sf) 0) := by
  have h1 := fun w1 => areStrong_any d s f sf w1
  rw [strongB_t hd hs hf hp] at h1
  have h2 := fun w1 => within_t (l : Int) 1 100000 (by have := hl.lo; have := hl.hi; omega) w1
  have h3 := fun w1 => holds_any d s l f sf w1 hd hs hl hf hp
  have H1 := Lib.hid h1
  have H2 := Lib.hid h2
  have H3 := Lib.hid h3
  clear h1 h2 h3
  go_enter Try.func25, Try.ntmps25
  go_wp2_with (fail)
  refine (H1.out _).mono ?_
  rintro e w1 ⟨rfl, rfl⟩
  go_wp2_with (fail)
  refine (H2.out _).mono ?_
  rintro e w1 ⟨rfl, rfl⟩
  go_wp2_with (fail)
  refine (H3.out _).mono ?_
  rintro e w1 ⟨rfl, hb⟩
  go_wp2
  go_ret2
  exact ⟨rfl, hb⟩

/-- The greatest length that is borne, before it is cut at the limit. -/
def IsLong (d s f sf r : Nat) : Prop := IsRoot 2 (10 ^ 20 * (sf * s) / prodN [400, d, f, f]) r
theorem den_le {d f : Nat} (hd : InD d) (hf : InF f) : prodN [400, d, f, f] ≤ 1200000000000000000000 :=
  Nat.le_trans (prodN_mono (m := [400, 30000, 10000000, 10000000]) ⟨Nat.le_refl _, hd.hi, hf.hi, hf.hi, trivial⟩) (by decide)
theorem den_pos {d f : Nat} (hd : InD d) (hf : InF f) : 0 < prodN [400, d, f, f] :=
  Nat.lt_of_lt_of_le (by decide) (prodN_mono (l := [1, 1, 1, 1]) ⟨by omega, hd.lo, hf.lo, hf.lo, trivial⟩)
theorem long_lt {m r : Nat} (h : IsRoot 2 m r) (hm : m ≤ 10 ^ 28) : r ≤ 100000000000000 := by
  rcases Nat.lt_or_ge 100000000000000 r with h1 | h1
  · have h2 := h.1
    have h3 : 100000000000001 ^ 2 ≤ r ^ 2 := Nat.pow_le_pow_left h1 2
    have h4 := Nat.le_trans (Nat.le_trans h3 h2) hm
    exact absurd h4 (by decide)
  · exact h1
set_option maxHeartbeats 400000 in
set_option maxRecDepth 100000 in
theorem Longest_bad (d s f sf : Int) (w : World) (hb : strongB d s f sf = false) : Calls Try.prog 11 #[.int .i64 d, .int .i64 s, .int .i64 f, .int .i64 sf] w (Int2 w 0 1) := by
  have h1 := fun w1 => areStrong_any d s f sf w1
  rw [hb] at h1
  have H1 := Lib.hid h1
  clear h1
  clear hb
  go_enter Try.func11, Try.ntmps11
  go_wp2_with (fail)
  refine (H1.out _).mono ?_
  rintro e w1 ⟨rfl, rfl⟩
  go_wp2
  go_ret2
  exact ⟨rfl, Below.refl _ _⟩

set_option maxHeartbeats 400000 in
set_option maxRecDepth 100000 in
theorem Longest_ok (d s f sf r : Nat) (w : World) (hd : InD d) (hs : InS s) (hf : InF f) (hp : InP sf) (hr : IsLong d s f sf r) : Calls Try.prog 11 #[.int .i64 (d : Int), .int .i64 (s : Int), .int .i64 (f : Int), .int .i64 (sf : Int)] w (Int2 w (if r = 0 then 0 else (min r 100000 : Nat)) (if r = 0 then 6 else 0)) := by
  have h1 := fun w1 => areStrong_any d s f sf w1
  rw [strongB_t hd hs hf hp] at h1
  have h2 := fun w1 => strengthOf_any s sf w1 hs hp
  have hsm : Sml (prodN [400, d, f, f]) := sml_of (k := 1200000000000000000001) (Nat.lt_of_le_of_lt (den_le hd hf) (by decide)) (by decide)
  have hpr := fun w1 => prod_ok (some ⟨w1.heap.size, 0, none⟩) 4 4 [400, d, f, f] _ (ints_new w1 _) rfl (by simp) (by simp; have := hd.lo; have := hf.lo; omega) (by simp; have := hd.hi; have := hf.hi; omega) hsm
  have hba := fun w1 => below_new w1 (.cells (is (numI [400, d, f, f])).toArray 3)
  have hsm2 := strength_sml2 (strength_sml hs hp)
  have hdv := fun a b w1 (h : N32 w1 a (10 ^ 20 * (sf * s))) (k : N32 w1 b (prodN [400, d, f, f])) => divMod_ok a b _ _ w1 h k (by have := hsm2.len; omega) (by have := hsm.len; omega) (den_pos hd hf) (.inl (by have := hsm.len64; omega))
  have hqm : Sml (10 ^ 20 * (sf * s) / prodN [400, d, f, f]) := hsm2.le (Nat.div_le_self _ _)
  have hql : 10 ^ 20 * (sf * s) / prodN [400, d, f, f] ≤ 10 ^ 28 := Nat.le_trans (Nat.div_le_self _ _) (Nat.le_trans (Nat.mul_le_mul_left _ (strength_sml hs hp)) (by decide))
  unfold IsLong at hr
  generalize 10 ^ 20 * (sf * s) = S at *
  generalize prodN [400, d, f, f] = D at *
  generalize S / D = q at *
  have hrl := long_lt hr hql
  have hrt : ∀ a w1, N32 w1 a q → Calls Try.prog 32 #[a, .int .i64 2] w1 (NatOk w1 r) := by
    intro a w1 h
    rcases Nat.eq_zero_or_pos q with h0 | h0
    · have : r = 0 := by
        have := hr.1
        rw [h0] at this
        rcases Nat.eq_zero_or_pos r with h | h
        · exact h
        · have h5 : 1 ^ 2 ≤ r ^ 2 := Nat.pow_le_pow_left h 2
          rw [Nat.one_pow] at h5
          exact absurd (Nat.le_trans h5 this) (by decide)
      rw [this]
      exact root_zero a q 2 w1 h h0 (by omega)
    · exact root_ok a q 2 r w1 h h0 (by omega) (by have := hqm.bits; omega) hr
  have hu := fun v w1 (h : N32 w1 v r) => uint64_ok v r w1 h (dig_len_le b32_two (by unfold B32; omega))
  clear hr hsm hsm2 hqm hql
  have hmn : (min (r : Int) 100000) = ((min r 100000 : Nat) : Int) := by
    rcases Nat.le_total r 100000 with h | h
    · rw [Nat.min_eq_left h, Int.min_eq_left (by omega)]
    · rw [Nat.min_eq_right h, Int.min_eq_right (by omega)]; rfl
  have hmx : min r 100000 ≤ 100000 := Nat.min_le_right _ _
  generalize min r 100000 = M at *
  have hcv : IntKind.i64.wrap (M : Int) = (M : Int) := wrapI (by omega) (by omega)
  have H1 := Lib.hid h1
  have H2 := Lib.hid h2
  have Hpr := Lib.hid hpr
  have Hba := Lib.hid hba
  have Hdv := Lib.hid hdv
  have Hrt := Lib.hid hrt
  have Hu := Lib.hid hu
  clear h1 h2 hpr hba hdv hrt hu
  by_cases h0 : r = 0
  · rw [if_pos h0, if_pos h0]
    subst h0
    go_enter Try.func11, Try.ntmps11
    go_wp2_with (fail)
    refine (H1.out _).mono ?_
    rintro e w1 ⟨rfl, rfl⟩
    go_wp2_with (fail)
    refine (H2.out _).mono ?_
    rintro e w1 ⟨v, rfl, hv, hb1⟩
    have b1 := hb1
    go_wp2_with (fail)
    refine ((Hpr.out w1)).mono ?_
    rintro e w2 ⟨v2, rfl, hv2, hb2⟩
    have b2 := below_on (below_on b1 b1.size (Hba.out w1)) (Nat.le_trans b1.size (Hba.out w1).size) hb2
    have k2 := hv.keep (below_on (Hba.out w1) (Hba.out w1).size hb2)
    have HD := Lib.hid (Hdv.out v v2 w2 k2.is hv2.is)
    go_wp2_with (fail)
    refine (HD.out).mono ?_
    rintro e w3 ⟨v3, v4, rfl, hv3, _, hb3⟩
    have b3 := below_on b2 b2.size hb3
    have HE := Lib.hid (Hrt.out v3 w3 hv3.is)
    go_wp2_with (fail)
    refine (HE.out).mono ?_
    rintro e w4 ⟨v5, rfl, hv5, hb4⟩
    have b4 := below_on b3 b3.size hb4
    have HG := Lib.hid (Hu.out v5 w4 hv5.is)
    go_wp2_with (fail)
    refine (HG.out).mono ?_
    rintro e w5 ⟨rfl, hb5⟩
    have b5 := below_on b4 b4.size hb5
    go_wp2
    go_ret2
    exact ⟨rfl, b5⟩
  · rw [if_neg h0, if_neg h0]
    have hz : ((r : Int) == 0) = false := by simp; exact h0
    clear h0
    go_enter Try.func11, Try.ntmps11
    go_wp2_with (fail)
    refine (H1.out _).mono ?_
    rintro e w1 ⟨rfl, rfl⟩
    go_wp2_with (fail)
    refine (H2.out _).mono ?_
    rintro e w1 ⟨v, rfl, hv, hb1⟩
    have b1 := hb1
    go_wp2_with (fail)
    refine ((Hpr.out w1)).mono ?_
    rintro e w2 ⟨v2, rfl, hv2, hb2⟩
    have b2 := below_on (below_on b1 b1.size (Hba.out w1)) (Nat.le_trans b1.size (Hba.out w1).size) hb2
    have k2 := hv.keep (below_on (Hba.out w1) (Hba.out w1).size hb2)
    have HD := Lib.hid (Hdv.out v v2 w2 k2.is hv2.is)
    go_wp2_with (fail)
    refine (HD.out).mono ?_
    rintro e w3 ⟨v3, v4, rfl, hv3, _, hb3⟩
    have b3 := below_on b2 b2.size hb3
    have HE := Lib.hid (Hrt.out v3 w3 hv3.is)
    go_wp2_with (fail)
    refine (HE.out).mono ?_
    rintro e w4 ⟨v5, rfl, hv5, hb4⟩
    have b4 := below_on b3 b3.size hb4
    have HG := Lib.hid (Hu.out v5 w4 hv5.is)
    go_wp2_with (fail)
    refine (HG.out).mono ?_
    rintro e w5 ⟨rfl, hb5⟩
    have b5 := below_on b4 b4.size hb5
    go_wp2
    go_ret2
    exact ⟨rfl, b5⟩
end Go.Proofs.Ythgekjkgfccnaaa

namespace Go.Proofs.Ythgekjkgfccnaaa
open Go.RowKit

theorem rep_is (n : Nat) (x : Int) : (List.replicate n (is [x])).flatten = is (List.replicate n x) := by simp [is]
theorem Greedy.cons {l rooms : List Int} {ns : List Nat} {i : Nat} {p : Int} (h : Greedy (l.drop i) rooms (ns.drop i)) (hp : l[i]? = some p) :
    ∃ m : Nat, ns[i]? = some m ∧ m < rooms.length ∧ canF m p (l.drop (i + 1)) rooms = true ∧ (∀ j, j < m → canF j p (l.drop (i + 1)) rooms = false) ∧ Greedy (l.drop (i + 1)) (rooms.set m (rooms.getD m 0 - p)) (ns.drop (i + 1)) := by
  have hi : i < l.length := (List.getElem?_eq_some_iff.1 hp).1
  have e : l.drop i = p :: l.drop (i + 1) := by
    rw [List.drop_eq_getElem_cons hi]
    rw [List.getElem?_eq_getElem hi] at hp
    injection hp with hp
    rw [hp]
  rw [e] at h
  cases hn : ns.drop i with
  | nil => rw [hn] at h; exact absurd h (by simp [Greedy])
  | cons m t =>
    rw [hn] at h
    have hm : ns[i]? = some m := by
      have : (ns.drop i)[0]? = some m := by rw [hn]; rfl
      rwa [List.getElem?_drop, Nat.add_zero] at this
    have ht : ns.drop (i + 1) = t := by
      have : (ns.drop i).drop 1 = t := by rw [hn]; rfl
      rwa [List.drop_drop] at this
    obtain ⟨⟨h1, h2, h3⟩, h4⟩ := h
    exact ⟨m, hm, h1, h2, h3, by rw [ht]; exact h4⟩
theorem Greedy.len : ∀ {l rooms : List Int} {ns : List Nat}, Greedy l rooms ns → ns.length = l.length
  | [], _, [], _ => rfl
  | [], _, _ :: _, h => by simp [Greedy] at h
  | _ :: _, _, [], h => by simp [Greedy] at h
  | _ :: l, _, _ :: ns, h => by simp [Greedy.len h.2]
/-- Some room is left in the coil that takes a piece. -/
theorem canF_room {k : Nat} {p : Int} {o rooms : List Int} (h : canF k p o rooms = true) : p ≤ rooms.getD k 0 := by
  unfold canF at h
  simp only [Bool.and_eq_true, decide_eq_true_eq] at h
  exact h.1
def nums (ns : List Nat) : List Int := ns.map fun (x : Nat) => (x : Int)
/-- What Coils returns. -/
def CoilsPost (w : World) (ns : List Nat) (K : Nat) (e : Ending) (w' : World) : Prop :=
  ∃ g, e = .returned (.tuple #[.slice (some ⟨g, 0, none⟩) ns.length ns.length, .int .i64 (K : Int), .int .i64 0]) ∧ w.heap.size ≤ g ∧ Blk 3 w' g (is (nums ns)) ∧ Below w.heap.size w w'
/-- The numbers that are known, the one that is being raised, and zeros. -/
def part (ns : List Nat) (i j : Nat) : List Int := (nums ns).take i ++ (j : Int) :: List.replicate (ns.length - i - 1) 0
theorem part_at {ns : List Nat} {i : Nat} (h : i < ns.length) (j : Nat) : (part ns i j)[i]? = some (j : Int) := by
  unfold part
  rw [List.getElem?_append_right (by rw [List.length_take]; exact Nat.min_le_left _ _), List.length_take]
  have e : i - min i (nums ns).length = 0 := by simp [nums]; omega
  rw [e]
  rfl
theorem part_set {ns : List Nat} {i : Nat} (h : i < ns.length) (j : Nat) (x : Int) : (part ns i j).set i x = (nums ns).take i ++ x :: List.replicate (ns.length - i - 1) 0 := by
  unfold part
  have : ((nums ns).take i).length = i := by simp [nums]; omega
  rw [List.set_append_right _ _ (by omega), this]
  simp
theorem part_next {ns : List Nat} {i m : Nat} (hm : ns[i]? = some m) : part ns i m = (nums ns).take (i + 1) ++ List.replicate (ns.length - (i + 1)) 0 := by
  unfold part
  have h1 : (nums ns)[i]? = some (m : Int) := by simp [nums, hm]
  rw [List.take_add_one, h1]
  simp [show ns.length - i - 1 = ns.length - (i + 1) by omega]
theorem part_start {ns : List Nat} {i : Nat} (h : i < ns.length) : (nums ns).take i ++ List.replicate (ns.length - i) 0 = part ns i 0 := by
  unfold part
  rw [show ns.length - i = (ns.length - i - 1) + 1 by omega, List.replicate_succ]
  rfl

theorem room_left {r p : Int} (hr : 0 ≤ r ∧ r ≤ 1000000000) (hp : 1 ≤ p ∧ p ≤ 1000000000) (h : p ≤ r) : (0 ≤ r - p ∧ r - p ≤ 1000000000) ∧ IntKind.i64.wrap (r - p) = r - p :=
  ⟨by omega, wrapI (by omega) (by omega)⟩
theorem room_lt {mi n m : Nat} (h : mi < n) (e : n = m + 1) : (mi : Int) < (m : Int) + 1 := by omega
theorem wrap_succ {i I : Nat} (h : I = i + 1) (hi : i < 14) : wrap64 ((i : Int) + 1) = (I : Int) := by unfold wrap64; omega
theorem wrap_succ' {i I : Nat} (h : I = i + 1) (hi : i < 14) : IntKind.i64.wrap ((i : Int) + 1) = (I : Int) := by rw [wrapI (by omega) (by omega)]; omega
set_option maxHeartbeats 4000000 in
set_option maxRecDepth 100000 in
theorem coils_ok (A : Option Addr) (cp : Nat) (l : List Int) (ns : List Nat) (coil : Int) (m : Nat) (w : World) (hA : Ints w A l) (hcp : l.length ≤ cp) (h0 : pcErr l coil = 0) (hne : 0 < l.length) (hl : l.length ≤ 14)
    (hp : PiecesOk l) (hc : 1 ≤ coil ∧ coil ≤ 1000000000) (hK : lastF l (List.replicate l.length coil) = m) (hK2 : m < l.length) (hG : Greedy l (List.replicate (m + 1) coil) ns) :
    Calls Try.prog 26 #[.slice A l.length cp, .int .i64 coil] w (CoilsPost w ns (m + 1)) := by
  have hchk := checkPieces_any A cp l.length l coil w hA rfl (by omega)
  rw [h0] at hchk
  have hbx := below_new w (Obj.cells #[.int .i64 coil] 3)
  have hx : Ints (w.alloc (Obj.cells #[.int .i64 coil] 3)) (some ⟨w.heap.size, 0, none⟩) [coil] := (Blk.new w 3 [_]).vals0
  have hrep := repeatI_any w.heap.size 0 1 l.length coil _ hx (by omega) (by omega)
  have hnl := hG.len
  obtain ⟨gA, oA, p0, rfl, hgA, _, _⟩ := Ints.at_ hA hne
  have HCH := Lib.hid hchk
  have HRP := Lib.hid hrep
  have HA := Lib.hid hA
  have HK := Lib.hid hK
  have HG := Lib.hid hG
  have HNL := Lib.hid hnl
  have HRO : RoomsOk (List.replicate l.length coil) := fun r hr => by rw [List.eq_of_mem_replicate hr]; omega
  have HRK : RoomsOk (List.replicate (m + 1) coil) := fun r hr => by rw [List.eq_of_mem_replicate hr]; omega
  have hsL : ((l.length : Int) == 0) = false := by simp; intro h; rw [h] at hne; simp at hne
  have hm1 : IntKind.i64.wrap ((m : Int) + 1) = (m : Int) + 1 := wrapI (by omega) (by omega)
  have hmk := fun w1 => run_make_same (P := Try.prog) 30 3 (.int .i64 0) (.int .i64 0) 1 8 Try.underlying30 infoI rfl (by omega) l.length l.length (by omega) (by omega) (by omega) w1
  clear hchk hrep hx hK hG hnl hA h0
  go_enter Try.func26, Try.ntmps26
  go_wp2_with (fail)
  refine (HCH.out).mono ?_
  rintro e w0 ⟨rfl, rfl⟩
  go_wp2_with (fail)
  refine (HRP.out).mono ?_
  rintro e w1 ⟨g1, rfl, hg1, hb1, hbl1⟩
  rw [rep_is] at hb1
  have c1 := below_on hbx hbx.size hbl1
  have hla := lastCoil_any (some ⟨gA, oA, none⟩) (some ⟨g1, 0, none⟩) cp l.length l (List.replicate l.length coil) w1 (HA.out.keep c1) hb1.vals0 hp HRO hl (by simp; omega)
  rw [List.length_replicate, HK.out] at hla
  have HLA := Lib.hid hla
  clear hla hb1
  go_wp2_with (fail)
  refine (HLA.out).mono ?_
  rintro e w2 ⟨rfl, hbl2⟩
  have c2 := below_on c1 c1.size hbl2
  have hbx2 := below_new w2 (Obj.cells #[.int .i64 coil] 3)
  have c2' := below_on c2 c2.size hbx2
  have hx2 : Ints (w2.alloc (Obj.cells #[.int .i64 coil] 3)) (some ⟨w2.heap.size, 0, none⟩) [coil] := (Blk.new w2 3 [_]).vals0
  have hrep2 := repeatI_any w2.heap.size 0 1 (m + 1) coil _ hx2 (by omega) (by omega)
  rw [show ((m + 1 : Nat) : Int) = (m : Int) + 1 by push_cast; rfl] at hrep2
  have HR2 := Lib.hid hrep2
  clear hrep2 hx2 hbx hbx2
  go_wp2_with (fail)
  refine (HR2.out).mono ?_
  rintro e w3 ⟨gR, rfl, hgR, hbR, hbl3⟩
  rw [rep_is] at hbR
  have c3 := below_on c2' c2'.size hbl3
  have hgR0 : w.heap.size ≤ gR := by have := c2'.size; omega
  have hN0 : Blk 3 (w3.alloc (.cells (Array.replicate l.length (.int .i64 0)) 3)) w3.heap.size (is (List.replicate l.length 0)) := by
    have := Blk.new w3 3 (is (List.replicate l.length 0))
    have e : (is (List.replicate l.length 0)).toArray = Array.replicate l.length (.int .i64 0) := by simp [is]
    rwa [e] at this
  have hR0 := hbR.alloc (.cells (Array.replicate l.length (.int .i64 0)) 3)
  have c4 := c3.alloc c3.size (.cells (Array.replicate l.length (.int .i64 0)) 3)
  have hgRl : gR < w3.heap.size := hbR.lt
  have HN0 := Lib.hid hN0
  have HR0 := Lib.hid hR0
  clear hN0 hR0 hbR hgA
  go_wp2_with (fail)
  clear hmk
  have hgN0 : w.heap.size ≤ w3.heap.size := c3.size
  generalize hgN : w3.heap.size = gN at *
  clear hgN
  go_loopw [11, 12, 39] (fun _ _ t wr => ∃ (i : Nat) (rooms : List Int), i ≤ l.length ∧ t = .int .i64 (i : Int) ∧ Hid (Greedy (l.drop i) rooms (ns.drop i)) ∧ RoomsOk rooms ∧ Hid (rooms.length = m + 1) ∧ Blk 3 wr gR (is rooms) ∧ Blk 3 wr gN (is ((nums ns).take i ++ List.replicate (ns.length - i) 0)) ∧ Below w.heap.size w wr) (fun _ _ t _ => l.length - (intOf t).toNat)
  case atStart => exact ⟨0, _, Nat.zero_le _, rfl, HG, HRK, Lib.hid (by simp), HR0.out, by rw [HNL.out]; exact HN0.out, c4⟩
  case round =>
    obtain ⟨i, rooms, hi, rfl, HGi, hro, HRL, hbR, hbN, hbl⟩ := hrel
    by_cases hlt : i < l.length
    · obtain ⟨g', o', p, e', hg', hpi, hcp'⟩ := Ints.at_ (HA.out.keep hbl) (i := i) hlt
      injection e' with e'
      injection e' with e1 e2
      subst e1 e2
      obtain ⟨mi, hmi, hmr, hcan, hbef, hnext⟩ := Greedy.cons HGi.out hpi
      have hpp := hp p (List.mem_of_getElem? hpi)
      obtain ⟨I, hI⟩ : ∃ I, I = i + 1 := ⟨_, rfl⟩
      have hi1 := wrap_succ hI (Nat.lt_of_lt_of_le hlt hl)
      have hi2 := wrap_succ' hI (Nat.lt_of_lt_of_le hlt hl)
      have hIL2 : I ≤ l.length := by rw [hI]; exact hlt
      have hIL : (I : Int) ≤ (l.length : Int) := Int.ofNat_le.2 hIL2
      rw [← hI] at hnext hcan hbef
      have HI := Lib.hid hI
      have HLT := Lib.hid hlt
      clear hI
      have hin : i < ns.length := by rw [HNL.out]; exact hlt
      have hbN' : Blk 3 wr gN (is (part ns i 0)) := by rw [← part_start hin]; exact hbN
      have HB := Lib.hid hbef
      have HCA := Lib.hid hcan
      have HMI := Lib.hid hmi
      have HNX := Lib.hid hnext
      clear hbef hcan hmi hnext hpi hbN
      obtain ⟨A2, hA2⟩ : ∃ A2, A2 = (if cp = I then some (⟨gA, oA, none⟩ : Addr) else some ⟨gA, oA + I, none⟩) := ⟨_, rfl⟩
      have hv2 : ∀ w', Ints w' (some ⟨gA, oA, none⟩) l → Ints w' A2 (l.drop I) := by
        intro w' h
        rw [hA2]
        split
        · rename_i hcpe
          rw [List.drop_eq_nil_of_le (by omega)]
          exact Vals.nil
        · have := Vals.drop h I
          rwa [is_drop] at this
      have hgRN : gR ≠ gN := Nat.ne_of_lt hgRl
      have HV2 := Lib.hid hv2
      have HA2 := Lib.hid hA2
      have hlt2 : (l.drop I).length ≤ 14 := by rw [List.length_drop]; omega
      have hpo2 : PiecesOk (l.drop I) := fun x hx => hp x (List.mem_of_mem_drop hx)
      clear hv2 hA2
      go_wp2_with (fail)
      go_loopw [] (fun wr => ∃ j : Nat, j ≤ mi ∧ Blk 3 wr gR (is rooms) ∧ Blk 3 wr gN (is (part ns i j)) ∧ Below w.heap.size w wr) (fun wr => mi - (cellI wr ⟨gN, i, none⟩).toNat)
      case atStart => exact ⟨0, Nat.zero_le _, hbR, hbN', hbl⟩
      case round =>
        clear hbR hbN' hbl
        obtain ⟨j, hj, hbR, hbN, hbl⟩ := hrel
        have cN := (hbN.cell i).trans (is_at (part_at hin j))
        have fN := hbN.frozen
        have hmi14 : mi < 100 := by have := HRL.out; omega
        have hj1 : IntKind.i64.wrap ((j : Int) + 1) = (j : Int) + 1 := wrapI (by omega) (by omega)
        have hct := canTake_any j p A2 (some ⟨gR, 0, none⟩) (cp - I) (m + 1) (l.drop I) rooms wr.drew (HV2.out _ (HA.out.keep hbl).drew) hbR.drew.vals0 hpp hpo2 hro (by have := HRL.out; omega) hlt2 (by have := HRL.out; omega)
        rw [List.length_drop, HRL.out] at hct
        by_cases hcpe : cp = I
        · have hA2 : A2 = some ⟨gA, oA, none⟩ := by rw [HA2.out, if_pos hcpe]
          rw [hA2] at hct
          clear hA2
          subst hcpe
          rw [Nat.sub_eq_zero_of_le hcp, Nat.sub_self] at hct
          by_cases hjm : j < mi
          · rw [HB.out j hjm] at hct
            have HCT := Lib.hid hct
            clear hct
            go_wp2_with (fail)
            go_still_tail 10, (by kernel_rfl)
            change wpList _ _ _ _ _ wr.drew
            go_wp2_with (fail)
            refine (HCT.out).mono ?_
            rintro e w4 ⟨rfl, hb4⟩
            have hbN4 := hbN.drew.keep hb4
            have hbR4 := hbR.drew.keep hb4
            have hbl4 := below_on hbl.drew hbl.drew.size hb4
            have cN4 := (hbN4.cell i).trans (is_at (part_at hin j))
            have fN4 := hbN4.frozen
            have hst := hbN4.set i (.int .i64 ((j : Int) + 1))
            rw [is_set, part_set hin] at hst
            have hst2 : Blk 3 (w4.setCell ⟨gN, i, none⟩ (.int .i64 ((j : Int) + 1))) gN (is (part ns i (j + 1))) := hst
            have hm1 : cellI wr ⟨gN, i, none⟩ = (j : Int) := cellI_of cN
            have hm2 : cellI (w4.setCell ⟨gN, i, none⟩ (.int .i64 ((j : Int) + 1))) ⟨gN, i, none⟩ = ((j + 1 : Nat) : Int) := cellI_of ((hst2.cell i).trans (is_at (part_at hin (j + 1))))
            have HST := Lib.hid hst2
            have HM1 := Lib.hid hm1
            have HM2 := Lib.hid hm2
            clear hst hst2 hm1 hm2 cN fN
            go_wp2
            go_roundw
            case rel => exact ⟨j + 1, by omega, hbR4.setOther (a := ⟨gN, i, none⟩) hgRN _, HST.out, below_set hbl4 hgN0 _⟩
            case measure => rw [HM1.out, HM2.out]; omega
          · have hjm2 : j = mi := Nat.le_antisymm hj (Nat.le_of_not_lt hjm)
            rw [hjm2, HCA.out] at hct
            rw [hjm2] at hbN cN
            have HCT := Lib.hid hct
            clear hct hjm hjm2
            go_wp2_with (fail)
            go_still_tail 10, (by kernel_rfl)
            change wpList _ _ _ _ _ wr.drew
            go_wp2_with (fail)
            refine (HCT.out).mono ?_
            rintro e w4 ⟨rfl, hb4⟩
            have hbN4 := hbN.drew.keep hb4
            have hbR4 := hbR.drew.keep hb4
            have hbl4 := below_on hbl.drew hbl.drew.size hb4
            have cN4 := (hbN4.cell i).trans (is_at (part_at hin mi))
            obtain ⟨r, hr⟩ : ∃ r, rooms[mi]? = some r := ⟨rooms[mi], List.getElem?_eq_getElem hmr⟩
            have cR4 := (hbR4.cell mi).trans (is_at hr)
            have fR4 := hbR4.frozen
            have hrr := hro r (List.mem_of_getElem? hr)
            have hgd : rooms.getD mi 0 = r := by rw [List.getD_eq_getElem?_getD, hr]; rfl
            have hroom := canF_room HCA.out
            have hnx := HNX.out
            rw [hgd] at hroom hnx
            have hst := hbR4.set mi (.int .i64 (r - p))
            rw [is_set] at hst
            obtain ⟨hrn, hs5⟩ := room_left hrr hpp hroom
            have hnext := part_next HMI.out
            rw [hnext] at hbN4
            have HST := Lib.hid hst
            have HNN := Lib.hid hnx
            have HRM := Lib.hid hroom
            have HBN := Lib.hid hbN4
            have hroom2 : p ≤ r := hroom
            have hmr2 := room_lt hmr HRL.out
            clear hst hnx hroom hbN4 hr hgd hnext cN fN
            go_wp2
            go_roundw
            case rel => exact ⟨i + 1, rooms.set mi (r - p), Nat.succ_le_of_lt HLT.out, by rw [HI.out], by have := HNN.out; rw [HI.out] at this; exact this, hro.set hrn, Lib.hid (by rw [List.length_set]; exact HRL.out), HST.out, HBN.out.setOther (a := ⟨gR, mi, none⟩) (Ne.symm hgRN) _, below_set hbl4 hgR0 _⟩
            case measure => clear hi1 hi2; simp [intOf]; have h1 := HI.out; have h2 := HLT.out; omega
        · have hA2 : A2 = some ⟨gA, oA + I, none⟩ := by rw [HA2.out, if_neg hcpe]
          rw [hA2] at hct
          clear hA2
          by_cases hjm : j < mi
          · rw [HB.out j hjm] at hct
            have HCT := Lib.hid hct
            clear hct
            go_wp2_with (fail)
            go_still_tail 10, (by kernel_rfl)
            change wpList _ _ _ _ _ wr.drew
            go_wp2_with (fail)
            refine (HCT.out).mono ?_
            rintro e w4 ⟨rfl, hb4⟩
            have hbN4 := hbN.drew.keep hb4
            have hbR4 := hbR.drew.keep hb4
            have hbl4 := below_on hbl.drew hbl.drew.size hb4
            have cN4 := (hbN4.cell i).trans (is_at (part_at hin j))
            have fN4 := hbN4.frozen
            have hst := hbN4.set i (.int .i64 ((j : Int) + 1))
            rw [is_set, part_set hin] at hst
            have hst2 : Blk 3 (w4.setCell ⟨gN, i, none⟩ (.int .i64 ((j : Int) + 1))) gN (is (part ns i (j + 1))) := hst
            have hm1 : cellI wr ⟨gN, i, none⟩ = (j : Int) := cellI_of cN
            have hm2 : cellI (w4.setCell ⟨gN, i, none⟩ (.int .i64 ((j : Int) + 1))) ⟨gN, i, none⟩ = ((j + 1 : Nat) : Int) := cellI_of ((hst2.cell i).trans (is_at (part_at hin (j + 1))))
            have HST := Lib.hid hst2
            have HM1 := Lib.hid hm1
            have HM2 := Lib.hid hm2
            clear hst hst2 hm1 hm2 cN fN
            go_wp2
            go_roundw
            case rel => exact ⟨j + 1, by omega, hbR4.setOther (a := ⟨gN, i, none⟩) hgRN _, HST.out, below_set hbl4 hgN0 _⟩
            case measure => rw [HM1.out, HM2.out]; omega
          · have hjm2 : j = mi := Nat.le_antisymm hj (Nat.le_of_not_lt hjm)
            rw [hjm2, HCA.out] at hct
            rw [hjm2] at hbN cN
            have HCT := Lib.hid hct
            clear hct hjm hjm2
            go_wp2_with (fail)
            go_still_tail 10, (by kernel_rfl)
            change wpList _ _ _ _ _ wr.drew
            go_wp2_with (fail)
            refine (HCT.out).mono ?_
            rintro e w4 ⟨rfl, hb4⟩
            have hbN4 := hbN.drew.keep hb4
            have hbR4 := hbR.drew.keep hb4
            have hbl4 := below_on hbl.drew hbl.drew.size hb4
            have cN4 := (hbN4.cell i).trans (is_at (part_at hin mi))
            obtain ⟨r, hr⟩ : ∃ r, rooms[mi]? = some r := ⟨rooms[mi], List.getElem?_eq_getElem hmr⟩
            have cR4 := (hbR4.cell mi).trans (is_at hr)
            have fR4 := hbR4.frozen
            have hrr := hro r (List.mem_of_getElem? hr)
            have hgd : rooms.getD mi 0 = r := by rw [List.getD_eq_getElem?_getD, hr]; rfl
            have hroom := canF_room HCA.out
            have hnx := HNX.out
            rw [hgd] at hroom hnx
            have hst := hbR4.set mi (.int .i64 (r - p))
            rw [is_set] at hst
            obtain ⟨hrn, hs5⟩ := room_left hrr hpp hroom
            have hnext := part_next HMI.out
            rw [hnext] at hbN4
            have HST := Lib.hid hst
            have HNN := Lib.hid hnx
            have HRM := Lib.hid hroom
            have HBN := Lib.hid hbN4
            have hroom2 : p ≤ r := hroom
            have hmr2 := room_lt hmr HRL.out
            clear hst hnx hroom hbN4 hr hgd hnext cN fN
            go_wp2
            go_roundw
            case rel => exact ⟨i + 1, rooms.set mi (r - p), Nat.succ_le_of_lt HLT.out, by rw [HI.out], by have := HNN.out; rw [HI.out] at this; exact this, hro.set hrn, Lib.hid (by rw [List.length_set]; exact HRL.out), HST.out, HBN.out.setOther (a := ⟨gR, mi, none⟩) (Ne.symm hgRN) _, below_set hbl4 hgR0 _⟩
            case measure => clear hi1 hi2; simp [intOf]; have h1 := HI.out; have h2 := HLT.out; omega
    · obtain rfl : i = l.length := by omega
      have hln : (nums ns).length = ns.length := by simp [nums]
      rw [← HNL.out, ← hln, List.take_length, hln, Nat.sub_self, List.replicate_zero, List.append_nil] at hbN
      have HBN := Lib.hid hbN
      clear hbN hln
      go_wp2
      go_ret3
      refine ⟨gN, ?_, hgN0, HBN.out, hbl⟩
      rw [HNL.out]
      rfl
end Go.Proofs.Ythgekjkgfccnaaa

namespace Go.Proofs.Ythgekjkgfccnaaa
open Go.RowKit Num

def QuietB (w : World) (b : Bool) (e : Ending) (w' : World) : Prop := e = .returned (.bool b) ∧ ∃ n, w' = w.drewN n
set_option maxHeartbeats 400000 in
set_option maxRecDepth 100000 in
theorem same_t (A B : Option Addr) (c d L : Nat) (l : List Int) (w : World) (hA : Ints w A l) (hB : Ints w B l) (hL : L = l.length) (hl : L ≤ 1000000) :
    Calls Try.prog 35 #[.slice A L c, .slice B L d] w (QuietB w true) := by
  have HL := Lib.hid hL
  have HA := Lib.hid hA
  have HB := Lib.hid hB
  clear hL hA hB
  go_enter Try.func35, Try.ntmps35
  go_wp2
  go_loopw [5] (fun t wr => ∃ k n : Nat, k ≤ L ∧ t = .int .i64 (k : Int) ∧ wr = w.drewN n) (fun t _ => L - (intOf t).toNat)
  case atStart => exact ⟨0, 0, Nat.zero_le _, rfl, rfl⟩
  case round =>
    obtain ⟨k, n, hk, rfl, rfl⟩ := hrel
    by_cases hlt : k < L
    · have hkl : k < l.length := by have := HL.out; omega
      obtain ⟨g, off, x, rfl, hg, hx, hc⟩ := Ints.at_ HA.out (i := k) hkl
      obtain ⟨g', off', y, rfl, hg', hy, hc'⟩ := Ints.at_ HB.out (i := k) hkl
      have hxy : y = x := by rw [hx] at hy; injection hy with hy; exact hy.symm
      subst hxy
      have hi1 : IntKind.i64.wrap ((k : Int) + 1) = (k : Int) + 1 := wrapI (by omega) (by omega)
      clear hx hy
      go_wp2_with (fail)
      go_quiet (fail)
      go_wp2
      go_roundw
      case rel => exact ⟨k + 1, _, by omega, by go_num, rfl⟩
      case measure => simp [intOf]; omega
    · obtain rfl : k = L := by omega
      go_wp2
      go_ret
      exact ⟨rfl, n, rfl⟩

theorem lives_pull : pullN 7800 300 3000 440000 = 38426 := by decide +kernel
theorem lives_pc : pcErr [6, 4, 5, 5] 10 = 0 := by decide +kernel
set_option maxHeartbeats 1000000 in
set_option maxRecDepth 100000 in
theorem lives_any (w : World) : Calls Try.prog 16 #[] w (LivesPost w) := by
  have h1 := fun w1 => Tension_ok 7800 300 3000 440000 w1 ⟨by omega, by omega⟩ ⟨by omega, by omega⟩ ⟨by omega, by omega⟩ ⟨by omega, by omega⟩
  rw [lives_pull] at h1
  have h2 := fun w1 => coils_ok (some ⟨w1.heap.size, 0, none⟩) 4 [6, 4, 5, 5] [0, 0, 1, 1] 10 1 _ (ints_new w1 [6, 4, 5, 5]) (by simp) lives_pc (by simp) (by simp) (by intro p hp; simp at hp; omega) (by omega) lives_last (by simp) lives_greedy
  have hb := fun w1 => below_new w1 (.cells (is [6, 4, 5, 5]).toArray 3)
  have hs := fun g w1 (h : Ints w1 (some ⟨g, 0, none⟩) [0, 0, 1, 1]) => same_t (some ⟨g, 0, none⟩) (some ⟨w1.heap.size, 0, none⟩) 4 4 4 [0, 0, 1, 1] (w1.alloc (.cells (is [0, 0, 1, 1]).toArray 3)) (h.alloc _) (ints_new w1 [0, 0, 1, 1]) rfl (by omega)
  have hb2 := fun w1 => below_new w1 (.cells (is [0, 0, 1, 1]).toArray 3)
  have H1 := Lib.hid h1
  have H2 := Lib.hid h2
  have HB := Lib.hid hb
  have HS := Lib.hid hs
  have HB2 := Lib.hid hb2
  clear h1 h2 hb hs hb2
  go_enter Try.func16, Try.ntmps16
  go_wp2_with (fail)
  refine (H1.out _).mono ?_
  rintro e w1 ⟨rfl, hb1⟩
  go_wp2_with (fail)
  refine (H2.out w1).mono ?_
  rintro e w2 ⟨g, rfl, hg, hbk, hb2⟩
  have b2 := below_on (below_on hb1 hb1.size (HB.out w1)) (Nat.le_trans hb1.size (HB.out w1).size) hb2
  have HC := Lib.hid (HS.out g w2 hbk.vals0)
  go_wp2_with (fail)
  refine (HC.out).mono ?_
  rintro e w3 ⟨rfl, n, rfl⟩
  go_wp2
  go_ret
  exact ⟨rfl, below_drewN (below_on b2 b2.size (HB2.out w2)) n⟩
end Go.Proofs.Ythgekjkgfccnaaa

namespace Go.Proofs.Ythgekjkgfccnaaa
open Go.RowKit Num

theorem fold_any (v m : Int) (h0 : 0 < m) (hm : m ≤ 1000000000) (w : World) : Calls Try.prog 22 #[.int .i64 v, .int .i64 m] w fun e w' => e = .returned (.int .i64 (v % m + 1)) ∧ w = w' := by
  have h1 : v.tmod m = if 0 ≤ v ∨ m ∣ v then v % m else v % m - m := by
    rw [Int.tmod_eq_emod]
    split
    · simp
    · rw [Int.natAbs_of_nonneg (by omega)]
  have h2 := Int.emod_nonneg v (show m ≠ 0 by omega)
  have h3 := Int.emod_lt_of_pos v h0
  obtain ⟨q, hq⟩ : ∃ q, v.tmod m = q := ⟨_, rfl⟩
  obtain ⟨r, hr⟩ : ∃ r, v % m = r := ⟨_, rfl⟩
  have hb : -m < q ∧ q < m := by
    rw [← hq, h1]
    split <;> omega
  have h4 : (q + m).tmod m = r := by
    rw [Int.tmod_eq_emod_of_nonneg (by omega), ← hr]
    rw [← hq, h1]
    split
    · rw [Int.add_emod_right, Int.emod_emod_of_dvd _ (Int.dvd_refl m)]
    · rw [Int.sub_add_cancel, Int.emod_emod_of_dvd _ (Int.dvd_refl m)]
  have h5 : (q + m) % m = r := by rw [← h4, Int.tmod_eq_emod_of_nonneg (by omega)]
  rw [hr] at h1 h2 h3 ⊢
  have h6 : wrap64 (q + m) = q + m := by unfold wrap64; omega
  have h7 : IntKind.i64.wrap (q + m) = q + m := wrapI (by omega) (by omega)
  have h8 : wrap64 (r + 1) = r + 1 := by unfold wrap64; omega
  have h9 : IntKind.i64.wrap (r + 1) = r + 1 := wrapI (by omega) (by omega)
  have hz : ¬ m = 0 := by omega
  have g1 : 0 ≤ q + m := by omega
  clear hr h1
  go_enter Try.func22, Try.ntmps22
  go_wp2
  go_ret
  exact ⟨rfl, rfl⟩
theorem fold_nat (v m : Int) (h0 : 0 < m) (hm : m ≤ 1000000000) : ∃ d : Nat, 1 ≤ d ∧ (d : Int) ≤ m ∧ ∀ w, Calls Try.prog 22 #[.int .i64 v, .int .i64 m] w fun e w' => e = .returned (.int .i64 (d : Int)) ∧ w = w' := by
  have h2 := Int.emod_nonneg v (show m ≠ 0 by omega)
  have h3 := Int.emod_lt_of_pos v h0
  refine ⟨(v % m + 1).toNat, by omega, by omega, fun w => ?_⟩
  have := fold_any v m (by omega) (by omega) w
  rwa [show (((v % m + 1).toNat : Nat) : Int) = v % m + 1 by omega]
end Go.Proofs.Ythgekjkgfccnaaa

namespace Go.Proofs.Ythgekjkgfccnaaa
open Go.RowKit Num

set_option maxHeartbeats 4000000 in
set_option maxRecDepth 100000 in
theorem refFloor_zero (ad : Addr) (cp : Nat) (coil : Int) (w : World) :
    Calls Try.prog 21 #[.slice (some ad) 0 cp, .int .i64 coil] w (IntB w 0) := by
  have hbA := below_new w (.cells #[.int .i64 0] 3)
  have ho : (w.alloc (.cells #[.int .i64 0] 3)).ownsRow w.heap.size 3 1 (.slice (some ⟨w.heap.size, 0, none⟩) 1 1) 1 (is [0]) := (Hd.of_blk (Blk.new w 3 [.int .i64 0])).owns (Nat.le_refl _) (by unfold maxLen; simp)
  obtain ⟨i0, hi, hz0, hz1, hz2⟩ := info_parts infoI
  have HO := Lib.hid ho
  clear ho
  go_enter Try.func21, Try.ntmps21
  go_wp2_with (at_builtin
               refine wpList_append_own _ rfl _ _ 30 rfl w.heap.size 3 i0 (.int .i64 0) 1 8 Try.underlying30 hi hz0 hz1 hz2 rfl (by decide) _ _ _ rfl HO.out ad 0 _ [] rfl rfl (fun j u hu => by simp at hu) (by simp) ?c4 ?c5 (by simp) ?_)
  case c4 => unfold maxLen; omega
  case c5 => omega
  intro v' w1 hown hgr hne
  have hv : v' ≠ .slice none 0 0 := by simpa using hne
  obtain ⟨g, cap, he, h1, hlen, hh⟩ := Hd.of_owns hown hv
  have hb1 := hbA.grown hgr hbA.size (by simp [Value.ownBlock])
  have he2 : v' = .slice (some ⟨g, 0, none⟩) 1 cap := by rw [he]; simp [is]
  clear he
  subst he2
  clear hown hgr hne hv hlen hh hbA
  go_wp2
  go_loop [6, 7, 8, 9, 10, 11, 12, 13, 14, 15, 16, 49, 57, 67] (fun b t _ _ _ _ _ _ _ _ _ _ _ _ => b = .int .i64 0 ∧ t = .int .i64 0) (fun _ _ _ _ _ _ _ _ _ _ _ _ _ _ => 0)
  case atStart => exact ⟨rfl, rfl⟩
  case round =>
    obtain ⟨rfl, rfl⟩ := hrel
    go_wp2
    go_ret
    exact ⟨rfl, hb1⟩

theorem quiet2 {w w1 : World} (h : w = w1) : w1 = w := h.symm
set_option maxHeartbeats 4000000 in
set_option maxRecDepth 100000 in
theorem floors_walk (A : Option Addr) (c L : Nat) (l : List Int) (coil : Int) (w : World) (hA : Ints w A l) (hL : L = l.length) (hc : L ≤ c) (hnil : A = none → c = 0) :
    Calls Try.prog 4 #[.slice A L c, .int .i64 coil] w (LivesPost w) := by
  have hcut := cut_any A c L 15 l w hA hL hc hnil (by omega)
  have hlen : (l.take 15).length ≤ 15 := by rw [List.length_take]; omega
  generalize l.take 15 = ys at *
  have hli := fun w1 => lives_any w1
  by_cases h0 : pcErr ys coil = 0
  · have hfl := fun A c w1 (h : Ints w1 A ys) => Floor_ok A c _ ys coil w1 h rfl h0
    have hpc := fun A c w1 (h : Ints w1 A ys) => refPieces_any A c _ ys coil w1 h rfl (by omega)
    rw [h0] at hpc
    rcases Nat.eq_zero_or_pos ys.length with hz | hz
    · obtain rfl : ys = [] := List.eq_nil_of_length_eq_zero hz
      have hrf := fun ad c w1 => refFloor_zero ad c coil w1
      have hf0 : floorF [] coil = 0 := by simp [floorF, boundF, bFold, bEnd]
      rw [hf0] at hfl
      have HCUT := Lib.hid hcut
      have HFL := Lib.hid hfl
      have HPC := Lib.hid hpc
      have HRF := Lib.hid hrf
      have HLI := Lib.hid hli
      clear hcut hfl hpc hrf hli hA hL hnil h0 hz hf0 hlen
      go_enter Try.func4, Try.ntmps4
      go_wp2_with (fail)
      refine (HCUT.out).mono ?_
      rintro e w1 ⟨g, cap, rfl, hcap, hg, hh, hb1⟩
      have hv : Ints w1 (some ⟨g, 0, none⟩) [] := hh.vals
      have HV := Lib.hid hv
      clear hv
      go_wp2_with (fail)
      refine ((HFL.out _ cap w1 HV.out)).mono ?_
      rintro e w2 ⟨rfl, rfl⟩
      go_wp2_with (fail)
      refine ((HPC.out _ cap w1 HV.out)).mono ?_
      rintro e w2 ⟨rfl, rfl⟩
      go_wp2_with (fail)
      refine ((HRF.out _ cap w1)).mono ?_
      rintro e w2 ⟨rfl, hb2⟩
      have b2 := below_on hb1 hb1.size hb2
      go_wp2_with (fail)
      refine ((HLI.out _)).mono ?_
      rintro e w3 ⟨rfl, hb3⟩
      go_wp2
      go_ret
      exact ⟨rfl, below_on b2 b2.size hb3⟩
    · have hrf := fun ad c w1 (h : Ints w1 (some ad) ys) => refFloor_ok ad c _ ys coil w1 h rfl h0 hz
      generalize floorF ys coil = fl at *
      have HCUT := Lib.hid hcut
      have HFL := Lib.hid hfl
      have HPC := Lib.hid hpc
      have HRF := Lib.hid hrf
      have HLI := Lib.hid hli
      clear hcut hfl hpc hrf hli hA hL hnil h0 hz hlen
      go_enter Try.func4, Try.ntmps4
      go_wp2_with (fail)
      refine (HCUT.out).mono ?_
      rintro e w1 ⟨g, cap, rfl, hcap, hg, hh, hb1⟩
      have hv : Ints w1 (some ⟨g, 0, none⟩) ys := hh.vals
      have HV := Lib.hid hv
      clear hv
      go_wp2_with (fail)
      refine ((HFL.out _ cap w1 HV.out)).mono ?_
      rintro e w2 ⟨rfl, rfl⟩
      go_wp2_with (fail)
      refine ((HPC.out _ cap w1 HV.out)).mono ?_
      rintro e w2 ⟨rfl, rfl⟩
      go_wp2_with (fail)
      refine ((HRF.out _ cap w1 HV.out)).mono ?_
      rintro e w2 ⟨rfl, hb2⟩
      have b2 := below_on hb1 hb1.size hb2
      go_wp2_with (fail)
      refine ((HLI.out _)).mono ?_
      rintro e w3 ⟨rfl, hb3⟩
      go_wp2
      go_ret
      exact ⟨rfl, below_on b2 b2.size hb3⟩
  · have hfl := fun A c w1 (h : Ints w1 A ys) => Floor_bad A c _ ys coil w1 h rfl (by omega) h0
    have hpc := fun A c w1 (h : Ints w1 A ys) => refPieces_any A c _ ys coil w1 h rfl (by omega)
    generalize pcErr ys coil = er at *
    have hne : (er != 0) = true := by simp; exact h0
    have HCUT := Lib.hid hcut
    have HFL := Lib.hid hfl
    have HPC := Lib.hid hpc
    have HLI := Lib.hid hli
    clear hcut hfl hpc hli hA hL hnil h0 hlen
    go_enter Try.func4, Try.ntmps4
    go_wp2_with (fail)
    refine (HCUT.out).mono ?_
    rintro e w1 ⟨g, cap, rfl, hcap, hg, hh, hb1⟩
    have hv : Ints w1 (some ⟨g, 0, none⟩) ys := hh.vals
    have HV := Lib.hid hv
    clear hv
    go_wp2_with (fail)
    refine ((HFL.out _ cap w1 HV.out)).mono ?_
    rintro e w2 ⟨rfl, rfl⟩
    go_wp2_with (fail)
    refine ((HPC.out _ cap w1 HV.out)).mono ?_
    rintro e w2 ⟨rfl, rfl⟩
    go_wp2_with (fail)
    refine ((HLI.out _)).mono ?_
    rintro e w3 ⟨rfl, hb3⟩
    go_wp2
    go_ret
    exact ⟨rfl, below_on hb1 hb1.size hb3⟩

/-- The pieces, folded into 1 to coil. -/
def foldL (coil : Int) (l : List Int) : List Int := l.map fun v => v % coil + 1
theorem foldL_in {coil : Int} (hc : 1 ≤ coil) (l : List Int) : ∀ x ∈ foldL coil l, 1 ≤ x ∧ x ≤ coil := by
  intro x hx
  simp only [foldL, List.mem_map] at hx
  obtain ⟨v, _, rfl⟩ := hx
  have h1 := Int.emod_nonneg v (show coil ≠ 0 by omega)
  have h2 := Int.emod_lt_of_pos v (show 0 < coil by omega)
  omega
/-- Some are folded, the others not yet. -/
def mixL (coil : Int) (l : List Int) (i : Nat) : List Int := (foldL coil l).take i ++ l.drop i
theorem mixL_len (coil : Int) (l : List Int) (i : Nat) (h : i ≤ l.length) : (mixL coil l i).length = l.length := by simp [mixL, foldL]; omega
theorem mixL_at {coil : Int} {l : List Int} {i : Nat} {x : Int} (h : l[i]? = some x) : (mixL coil l i)[i]? = some x := by
  have hi := (List.getElem?_eq_some_iff.1 h).1
  unfold mixL
  have e : ((foldL coil l).take i).length = i := by simp [foldL]; omega
  rw [List.getElem?_append_right (by omega), e, Nat.sub_self, List.getElem?_drop, Nat.add_zero]
  exact h
theorem mixL_set {coil : Int} {l : List Int} {i : Nat} {x : Int} (h : l[i]? = some x) : (mixL coil l i).set i (x % coil + 1) = mixL coil l (i + 1) := by
  have hi := (List.getElem?_eq_some_iff.1 h).1
  unfold mixL
  have e : ((foldL coil l).take i).length = i := by simp [foldL]; omega
  rw [List.set_append_right _ _ (by omega), e, Nat.sub_self, List.drop_eq_getElem_cons hi, List.set_cons_zero, List.take_add_one]
  have : (foldL coil l)[i]? = some (x % coil + 1) := by simp [foldL, h]
  rw [this]
  simp
theorem mixL_at2 {coil : Int} {l : List Int} {i : Nat} {x : Int} (h : l[i]? = some x) : (mixL coil l (i + 1))[i]? = some (x % coil + 1) := by
  rw [← mixL_set h, List.getElem?_set_self (by rw [mixL_len _ _ _ (Nat.le_of_lt (List.getElem?_eq_some_iff.1 h).1)]; exact (List.getElem?_eq_some_iff.1 h).1)]
theorem sum_bnd {coil : Int} (hc : 1 ≤ coil) (l : List Int) (i : Nat) : 0 ≤ ((foldL coil l).take i).sum ∧ ((foldL coil l).take i).sum ≤ i * coil := by
  have h : ∀ (m : List Int), (∀ x ∈ m, 1 ≤ x ∧ x ≤ coil) → 0 ≤ m.sum ∧ m.sum ≤ m.length * coil := by
    intro m
    induction m with
    | nil => simp
    | cons x m ih =>
      intro hx
      have h1 := ih fun y hy => hx y (by simp [hy])
      have h2 := hx x (by simp)
      rw [List.sum_cons, List.length_cons]
      push_cast
      have e : ((m.length : Int) + 1) * coil = m.length * coil + coil := by grind
      rw [e]; omega
  have h1 := h ((foldL coil l).take i) fun x hx => foldL_in hc l x (List.mem_of_mem_take hx)
  refine ⟨h1.1, Int.le_trans h1.2 ?_⟩
  have : ((foldL coil l).take i).length ≤ i := List.length_take_le _ _
  exact Int.mul_le_mul_of_nonneg_right (by omega) (by omega)
theorem sum_snoc {coil : Int} {l : List Int} {i : Nat} {x : Int} (h : l[i]? = some x) : ((foldL coil l).take (i + 1)).sum = ((foldL coil l).take i).sum + (x % coil + 1) := by
  have : (foldL coil l)[i]? = some (x % coil + 1) := by simp [foldL, h]
  rw [List.take_add_one, this]
  simp
set_option maxHeartbeats 4000000 in
set_option maxRecDepth 100000 in
theorem sum_walk (A : Option Addr) (c L : Nat) (l : List Int) (cv : Int) (w : World) (hA : Ints w A l) (hL : L = l.length) (hc : L ≤ c) (hnil : A = none → c = 0) :
    Calls Try.prog 10 #[.slice A L c, .int .i64 cv] w (LivesPost w) := by
  have hcut := cut_any A c L 14 l w hA hL hc hnil (by omega)
  have hlen : (l.take 14).length ≤ 14 := by rw [List.length_take]; omega
  generalize l.take 14 = ys at *
  have hli := fun w1 => lives_any w1
  obtain ⟨coil, hc1, hc2, hfo⟩ := fold_nat cv 100000 (by omega) (by omega)
  have hfd := fun v w1 => fold_any v coil (by omega) (by omega) w1
  have hco : 1 ≤ (coil : Int) := by omega
  have h0 : pcErr (foldL coil ys) coil = 0 := pcErr_of (by simp [foldL]; exact hlen) (by omega) (foldL_in hco ys)
  have hfl := fun A c w1 (h : Ints w1 A (foldL coil ys)) => Floor_ok A c _ (foldL coil ys) coil w1 h rfl h0
  have hok := floorF_ok (l := foldL coil ys) (coil := coil) (by omega) (foldL_in hco ys)
  have hsm := bound_sum hco (foldL_in hco ys)
  have hsl : (foldL (coil : Int) ys).length = ys.length := by simp [foldL]
  have hge : (foldL (coil : Int) ys).sum ≤ floorF (foldL coil ys) coil * coil := Int.le_trans hsm (Int.mul_le_mul_of_nonneg_right hok.2.2 (by omega))
  rw [hsl] at hok hfl
  obtain ⟨Q, hQ⟩ : ∃ Q, floorF (foldL (coil : Int) ys) coil * coil = Q := ⟨_, rfl⟩
  rw [hQ] at hge
  have hqb := mul_bnd hok.1 (show floorF (foldL (coil : Int) ys) coil ≤ 14 by omega) (show 0 ≤ (coil : Int) by omega) hc2
  rw [hQ] at hqb
  obtain ⟨hq0, hq1⟩ := hqb
  obtain ⟨S, hS⟩ : ∃ S, (foldL (coil : Int) ys).sum = S := ⟨_, rfl⟩
  rw [hS] at hge
  have hfl0 := hok.1
  have hfl1 := hok.2.1
  generalize floorF (foldL (coil : Int) ys) coil = fl at *
  have HCUT := Lib.hid hcut
  have HFL := Lib.hid hfl
  have HFO := Lib.hid hfo
  have HFD := Lib.hid hfd
  have HLI := Lib.hid hli
  have HS := Lib.hid hS
  have HGE := Lib.hid hge
  have d1 := le_t hge
  have HQ := Lib.hid hQ
  have HSB := Lib.hid (fun i => sum_bnd (coil := coil) hco ys i)
  clear hcut hfl hfo hfd hli hA hL hnil h0 hok hsm hS hge hsl hQ
  go_enter Try.func10, Try.ntmps10
  go_wp2_with (fail)
  refine (HCUT.out).mono ?_
  rintro e w1 ⟨g, cap, rfl, hcap, hg, hh, hb1⟩
  go_wp2_with (fail)
  refine ((HFO.out _)).mono ?_
  rintro e w2 ⟨rfl, rfl⟩
  go_wp2
  go_loopw [6, 7] (fun s t wr => ∃ (i : Nat) (sv : Int), i ≤ ys.length ∧ t = .int .i64 (i : Int) ∧ s = .int .i64 sv ∧ Hid (((foldL (coil : Int) ys).take i).sum = sv) ∧ Hd 3 wr g cap (is (mixL coil ys i)) ∧ Below w.heap.size w wr) (fun _ t _ => ys.length - (intOf t).toNat)
  case atStart => exact ⟨0, 0, Nat.zero_le _, rfl, rfl, Lib.hid (by simp), by simpa [mixL] using hh, hb1⟩
  case round =>
    clear hh hb1
    obtain ⟨i, s, hi, rfl, rfl, HSM, hh, hbl⟩ := hrel
    by_cases hlt : i < ys.length
    · have hx : ys[i]? = some ys[i] := List.getElem?_eq_getElem hlt
      generalize ys[i] = x at hx
      have c1 := hh.cell (is_at (mixL_at (coil := coil) hx))
      have f1 := hh.frozen
      have hst := hh.set (i := i) (by rw [is_len, mixL_len _ _ _ hi]; exact hlt) (.int .i64 (x % coil + 1))
      rw [is_set, mixL_set hx] at hst
      have hsb := HSB.out i
      have hsb2 := HSB.out (i + 1)
      have hsn := sum_snoc (coil := coil) hx
      rw [hsn] at hsb2
      rw [HSM.out] at hsb hsb2 hsn
      have hic : ((i + 1 : Nat) : Int) * coil ≤ 14 * 100000 := (mul_bnd (by omega) (by omega) (by omega) hc2).2
      have hr1 : 0 ≤ s := hsb.1
      have hr2 : s + (x % coil + 1) ≤ 1400000 := by have := hsb2.2; omega
      have hr3 : 0 ≤ x % coil := Int.emod_nonneg x (by omega)
      have HC := Lib.hid (HFD.out x wr)
      have HST := Lib.hid hst
      have HSN := Lib.hid hsn
      have hb2 := below_set hbl hg (i := i) (.int .i64 (x % coil + 1))
      have hiL := Lib.hid (show i + 1 ≤ ys.length from hlt)
      have hMS := Lib.hid (show ys.length - (i + 1) < ys.length - i by omega)
      generalize x % (coil : Int) = xm at *
      clear hst hsb hsb2 hsn hic
      go_wp2_with (fail)
      refine (HC.out).mono ?_
      rintro e w2 ⟨rfl, rfl⟩
      go_wp2
      go_roundw
      case rel => exact ⟨i + 1, _, hiL.out, by go_num, rfl, HSN, HST.out, hb2⟩
      case measure => simp [intOf]; have := hMS.out; omega
    · have hil : i = ys.length := by omega
      have hmx : mixL (coil : Int) ys i = foldL coil ys := by
        unfold mixL
        rw [hil, List.drop_length, List.append_nil, List.take_of_length_le (by simp [foldL])]
      rw [hmx] at hh
      have hv : Ints wr (some ⟨g, 0, none⟩) (foldL coil ys) := hh.vals
      have hs : s = S := by have := HSM.out; rw [hil, List.take_of_length_le (by simp [foldL]), HS.out] at this; exact this.symm
      subst hs
      subst hil
      have HC := Lib.hid (HFL.out _ cap wr hv)
      have hQ2 := HQ.out
      have d2 := le_t hfl1
      clear hmx hv
      go_wp2_with (fail)
      refine (HC.out).mono ?_
      rintro e w2 ⟨rfl, rfl⟩
      go_wp2_with (fail)
      refine (HLI.out _).mono ?_
      rintro e w3 ⟨rfl, hb3⟩
      go_wp2
      go_ret
      exact ⟨rfl, below_on hbl hbl.size hb3⟩
end Go.Proofs.Ythgekjkgfccnaaa

/- Plain: the table of places is right: the last coil is below the number of rooms exactly if the pieces can be laid into the rooms. -/
namespace Go.Proofs.Ythgekjkgfccnaaa

/-- Sums over the first n numbers. -/
def sumN (f : Nat → Int) : Nat → Int
  | 0 => 0
  | n + 1 => sumN f n + f n
theorem sumN_congr {f g : Nat → Int} : ∀ {n : Nat}, (∀ i, i < n → f i = g i) → sumN f n = sumN g n
  | 0, _ => rfl
  | n + 1, h => by simp only [sumN]; rw [sumN_congr fun i hi => h i (by omega), h n (by omega)]
theorem sumN_zero {f : Nat → Int} {n : Nat} (h : ∀ i, i < n → f i = 0) : sumN f n = 0 := by
  induction n with
  | zero => rfl
  | succ n ih => simp only [sumN]; rw [ih fun i hi => h i (by omega), h n (by omega)]; rfl
theorem sumN_nonneg {f : Nat → Int} {n : Nat} (h : ∀ i, i < n → 0 ≤ f i) : 0 ≤ sumN f n := by
  induction n with
  | zero => simp [sumN]
  | succ n ih => have := ih fun i hi => h i (by omega); have := h n (by omega); simp only [sumN]; omega
theorem sumN_le {f g : Nat → Int} {n : Nat} (h : ∀ i, i < n → f i ≤ g i) : sumN f n ≤ sumN g n := by
  induction n with
  | zero => simp [sumN]
  | succ n ih => have := ih fun i hi => h i (by omega); have := h n (by omega); simp only [sumN]; omega
theorem sumN_upd {f g : Nat → Int} {n i : Nat} (hi : i < n) (h : ∀ j, j < n → j ≠ i → g j = f j) : sumN g n = sumN f n + (g i - f i) := by
  induction n with
  | zero => omega
  | succ n ih =>
    simp only [sumN]
    by_cases e : i = n
    · subst e
      rw [sumN_congr (f := g) (g := f) fun j hj => h j (by omega) (by omega)]
      omega
    · rw [ih (by omega) fun j hj hne => h j (by omega) hne, h n (by omega) (by omega)]
      omega
theorem sumN_add {f g : Nat → Int} {n : Nat} : sumN (fun i => f i + g i) n = sumN f n + sumN g n := by
  induction n with
  | zero => rfl
  | succ n ih => simp only [sumN]; rw [ih]; omega
/-- Sorted by a label below K, the sums of all labels are the whole sum. -/
theorem sumN_label (w : Nat → Int) (a : Nat → Nat) (K : Nat) : ∀ n, (∀ i, i < n → a i < K) → sumN (fun c => sumN (fun i => if a i = c then w i else 0) n) K = sumN w n
  | 0, _ => by simp only [sumN]; exact sumN_zero fun _ _ => rfl
  | n + 1, h => by
    simp only [sumN]
    rw [sumN_add, sumN_label w a K n fun i hi => h i (by omega)]
    have hk := h n (by omega)
    have : sumN (fun c => if a n = c then w n else 0) K = w n := by
      rw [sumN_upd (f := fun _ => 0) hk fun j _ hj => by rw [if_neg (fun e => hj e.symm)]]
      rw [sumN_zero (f := fun _ => (0 : Int)) fun _ _ => rfl, if_pos rfl]; omega
    rw [this]

/-- Places in their order. -/
def PLe (p q : Nat × Int) : Prop := p.1 < q.1 ∨ (p.1 = q.1 ∧ p.2 ≤ q.2)
theorem PLe.refl (p : Nat × Int) : PLe p p := .inr ⟨rfl, Int.le_refl _⟩
theorem PLe.trans {p q r : Nat × Int} (h : PLe p q) (k : PLe q r) : PLe p r := by unfold PLe at *; omega
theorem bef_t {p q : Nat × Int} (h : befF p q = true) : PLe p q := by
  unfold befF at h; unfold PLe
  simp only [Bool.or_eq_true, Bool.and_eq_true, decide_eq_true_eq] at h
  omega
theorem bef_f {p q : Nat × Int} (h : befF p q = false) : PLe q p := by
  unfold befF at h; unfold PLe
  simp only [Bool.or_eq_false_iff, Bool.and_eq_false_iff, decide_eq_false_iff_not] at h
  omega

/-- What fitF finds. -/
theorem fitF_spec (piece : Int) : ∀ (rs : List Int) (c : Nat) (u : Int),
    (c + rs.length ≤ (fitF piece rs c u).1) ∨ ((fitF piece rs c u).1 = c ∧ (fitF piece rs c u).2 = u + piece ∧ 0 < rs.length ∧ u + piece ≤ rs.getD 0 0) ∨
    (c < (fitF piece rs c u).1 ∧ (fitF piece rs c u).1 < c + rs.length ∧ (fitF piece rs c u).2 = piece ∧ piece ≤ rs.getD ((fitF piece rs c u).1 - c) 0)
  | [], c, u => by simp [fitF]
  | r :: rs, c, u => by
    unfold fitF
    by_cases h : r < u + piece
    · rw [if_pos h]
      rcases fitF_spec piece rs (c + 1) 0 with h1 | ⟨h1, h2, h3, h4⟩ | ⟨h1, h2, h3, h4⟩
      · left; simp only [List.length_cons]; omega
      · right; right
        rw [h1, h2]
        refine ⟨by omega, by simp only [List.length_cons]; omega, by omega, ?_⟩
        rw [Nat.add_sub_cancel_left]
        simp only [List.getD_cons_succ]
        omega
      · right; right
        refine ⟨by omega, by simp only [List.length_cons]; omega, h3, ?_⟩
        rw [show (fitF piece rs (c + 1) 0).1 - c = ((fitF piece rs (c + 1) 0).1 - (c + 1)) + 1 by omega, List.getD_cons_succ]
        exact h4
    · rw [if_neg h]
      right; left
      simp only [List.length_cons, List.getD_cons_zero]
      exact ⟨trivial, trivial, by omega, by omega⟩
/-- No later than a room that has room. -/
theorem fitF_le (piece : Int) : ∀ (rs : List Int) (c : Nat) (u : Int) (d : Nat), d < rs.length → (d = 0 → u + piece ≤ rs.getD 0 0) → (0 < d → piece ≤ rs.getD d 0) →
    PLe (fitF piece rs c u) (c + d, if d = 0 then u + piece else piece)
  | [], _, _, _, h, _, _ => by simp at h
  | r :: rs, c, u, 0, _, h0, _ => by
    have := h0 rfl
    simp only [List.getD_cons_zero] at this
    unfold fitF
    rw [if_neg (by omega), if_pos rfl]
    exact PLe.refl _
  | r :: rs, c, u, d + 1, hd, _, h1 => by
    have h2 := h1 (by omega)
    simp only [List.getD_cons_succ] at h2
    unfold fitF
    by_cases h : r < u + piece
    · rw [if_pos h]
      have := fitF_le piece rs (c + 1) 0 d (by simpa using hd) (fun e => by subst e; omega) (fun _ => h2)
      refine this.trans ?_
      unfold PLe
      right
      refine ⟨by simp only; omega, ?_⟩
      simp only
      split <;> (split <;> omega)
    · rw [if_neg h]
      left
      simp only
      omega
theorem fitF_mono_u (piece : Int) : ∀ (rs : List Int) (c : Nat) (u v : Int), u ≤ v → PLe (fitF piece rs c u) (fitF piece rs c v)
  | [], c, u, v, h => by unfold fitF PLe; right; exact ⟨rfl, by simp only; omega⟩
  | r :: rs, c, u, v, h => by
    unfold fitF
    by_cases h1 : r < u + piece
    · rw [if_pos h1, if_pos (by omega)]; exact PLe.refl _
    · rw [if_neg h1]
      by_cases h2 : r < v + piece
      · rw [if_pos h2]
        have := fitF_spec piece rs (c + 1) 0
        unfold PLe
        left
        simp only
        omega
      · rw [if_neg h2]; right; exact ⟨rfl, by simp only; omega⟩
theorem getD_drop0 (l : List Int) (i j : Nat) : (l.drop i).getD j 0 = l.getD (i + j) 0 := by simp [List.getD_eq_getElem?_getD]
/-- From a place that is no later than a coil with room for one piece more, the piece comes no later than there. -/
theorem addF_to {rooms : List Int} {p : Nat × Int} {piece L : Int} {m : Nat} (hm : m < rooms.length) (h : PLe p (m, L - piece)) (hL : L ≤ rooms.getD m 0) (hp : piece ≤ L) : PLe (addF rooms p piece) (m, L) := by
  unfold addF
  rcases h with h | ⟨h, k⟩
  · have := fitF_le piece (rooms.drop p.1) p.1 p.2 (m - p.1) (by rw [List.length_drop]; omega) (fun e => by omega) (fun _ => by rw [getD_drop0, show p.1 + (m - p.1) = m by omega]; omega)
    refine this.trans ?_
    right
    refine ⟨by simp only; omega, ?_⟩
    simp only
    rw [if_neg (by omega)]; exact hp
  · simp only at h k
    have := fitF_le piece (rooms.drop p.1) p.1 p.2 0 (by rw [List.length_drop]; omega) (fun _ => by rw [getD_drop0, Nat.add_zero, h]; omega) (fun e => by omega)
    refine this.trans ?_
    right
    refine ⟨by simp only; omega, ?_⟩
    simp
    omega

section
variable (P rooms : List Int)
theorem getD_set_ne {l : List (Nat × Int)} {i j : Nat} {x : Nat × Int} (h : j ≠ i) : (l.set i x).getD j (0, 0) = l.getD j (0, 0) := by
  simp [List.getD_eq_getElem?_getD, List.getElem?_set, Ne.symm h]
theorem getD_set_eq {l : List (Nat × Int)} {i : Nat} {x : Nat × Int} (h : i < l.length) : (l.set i x).getD i (0, 0) = x := by
  simp [List.getD_eq_getElem?_getD, h]
theorem getD_ge {l : List (Nat × Int)} {i : Nat} (h : l.length ≤ i) : l.getD i (0, 0) = (0, 0) := by
  rw [List.getD_eq_getElem?_getD, List.getElem?_eq_none h]; rfl
theorem more_gt {set i : Nat} (h : set ||| 1 <<< i ≠ set) : set < set ||| 1 <<< i := Nat.lt_of_le_of_ne Nat.left_le_or (Ne.symm h)
theorem step_keep {set i t : Nat} {T : List (Nat × Int)} (h : t ≤ set) : (stepF P rooms set T i).getD t (0, 0) = T.getD t (0, 0) := by
  unfold stepF
  split
  · rfl
  · rename_i hne
    split
    · exact getD_set_ne (by have := more_gt hne; omega)
    · rfl
theorem step_len (set i : Nat) (T : List (Nat × Int)) : (stepF P rooms set T i).length = T.length := by
  unfold stepF
  split
  · rfl
  · split
    · rw [List.length_set]
    · rfl
theorem step_le (set i t : Nat) (T : List (Nat × Int)) : PLe ((stepF P rooms set T i).getD t (0, 0)) (T.getD t (0, 0)) := by
  unfold stepF
  split
  · exact PLe.refl _
  · split
    · rename_i hb
      by_cases e : t = set ||| 1 <<< i
      · by_cases hl : t < T.length
        · subst e
          rw [getD_set_eq hl]
          exact bef_t hb
        · have hl' : T.length ≤ t := Nat.le_of_not_lt hl
          rw [getD_ge (l := T) hl', getD_ge (by rw [List.length_set]; exact hl')]
          exact PLe.refl _
      · rw [getD_set_ne e]; exact PLe.refl _
    · exact PLe.refl _
theorem step_upd {set i : Nat} {T : List (Nat × Int)} (h : set ||| 1 <<< i ≠ set) (hl : set ||| 1 <<< i < T.length) :
    PLe ((stepF P rooms set T i).getD (set ||| 1 <<< i) (0, 0)) (addF rooms (T.getD set (0, 0)) (P.getD i 0)) := by
  unfold stepF
  rw [if_neg h]
  split
  · rw [getD_set_eq hl]; exact PLe.refl _
  · rename_i hb
    rw [Bool.not_eq_true] at hb
    exact bef_f hb
theorem inn_keep {set t : Nat} {T : List (Nat × Int)} (h : t ≤ set) : ∀ j, (innF P rooms set T j).getD t (0, 0) = T.getD t (0, 0)
  | 0 => rfl
  | j + 1 => by rw [innF_succ, step_keep P rooms h, inn_keep h j]
theorem inn_len (set : Nat) (T : List (Nat × Int)) : ∀ j, (innF P rooms set T j).length = T.length
  | 0 => rfl
  | j + 1 => by rw [innF_succ, step_len, inn_len set T j]
theorem inn_le (set t : Nat) (T : List (Nat × Int)) : ∀ j, PLe ((innF P rooms set T j).getD t (0, 0)) (T.getD t (0, 0))
  | 0 => PLe.refl _
  | j + 1 => by rw [innF_succ]; exact (step_le P rooms set j t _).trans (inn_le set t T j)
theorem inn_upd {set i : Nat} {T : List (Nat × Int)} (h : set ||| 1 <<< i ≠ set) (hl : set ||| 1 <<< i < T.length) :
    ∀ j, i < j → PLe ((innF P rooms set T j).getD (set ||| 1 <<< i) (0, 0)) (addF rooms (T.getD set (0, 0)) (P.getD i 0))
  | 0, hj => absurd hj (by omega)
  | j + 1, hj => by
    rw [innF_succ]
    by_cases e : i = j
    · subst e
      have := step_upd P rooms (T := innF P rooms set T i) h (by rw [inn_len]; exact hl)
      rwa [inn_keep P rooms (Nat.le_refl set)] at this
    · exact (step_le P rooms set j _ _).trans (inn_upd h hl j (by omega))
theorem out_len (T : List (Nat × Int)) : ∀ k, (outF P rooms T k).length = T.length
  | 0 => rfl
  | k + 1 => by rw [outF_succ, inn_len, out_len T k]
theorem out_keep {t k : Nat} {T : List (Nat × Int)} (h : t ≤ k) : ∀ d, (outF P rooms T (k + d)).getD t (0, 0) = (outF P rooms T k).getD t (0, 0)
  | 0 => rfl
  | d + 1 => by rw [← Nat.add_assoc, outF_succ, inn_keep P rooms (by omega), out_keep h d]
theorem out_le (t k : Nat) (T : List (Nat × Int)) : ∀ d, PLe ((outF P rooms T (k + d)).getD t (0, 0)) ((outF P rooms T k).getD t (0, 0))
  | 0 => PLe.refl _
  | d + 1 => by rw [← Nat.add_assoc, outF_succ]; exact (inn_le P rooms _ t _ _).trans (out_le t k T d)
/-- What the table holds in the end. -/
def finF (s : Nat) : Nat × Int := (outF P rooms (tabF P rooms) (2 ^ P.length)).getD s (0, 0)
theorem fin_zero : finF P rooms 0 = (0, 0) := by
  unfold finF
  have := out_keep P rooms (t := 0) (k := 0) (T := tabF P rooms) (Nat.le_refl _) (2 ^ P.length)
  rw [Nat.zero_add] at this
  rw [this, outF_zero]
  unfold tabF
  exact getD_set_eq (by simp; exact Nat.two_pow_pos _)
theorem fin_upd {s i : Nat} (hs : s < 2 ^ P.length) (hi : i < P.length) (h : s ||| 1 <<< i ≠ s) : PLe (finF P rooms (s ||| 1 <<< i)) (addF rooms (finF P rooms s) (P.getD i 0)) := by
  have hm : s ||| 1 <<< i < 2 ^ P.length := or_lt hs hi
  have e1 : finF P rooms s = (outF P rooms (tabF P rooms) s).getD s (0, 0) := by
    have := out_keep P rooms (t := s) (k := s) (T := tabF P rooms) (Nat.le_refl _) (2 ^ P.length - s)
    rw [show s + (2 ^ P.length - s) = 2 ^ P.length by omega] at this
    exact this
  have e2 := out_le P rooms (s ||| 1 <<< i) (s + 1) (tabF P rooms) (2 ^ P.length - (s + 1))
  rw [show s + 1 + (2 ^ P.length - (s + 1)) = 2 ^ P.length by omega] at e2
  refine PLe.trans e2 ?_
  rw [outF_succ, e1]
  exact inn_upd P rooms h (by rw [out_len]; simp [tabF]; exact hm) _ hi
end
end Go.Proofs.Ythgekjkgfccnaaa

/- Plain: which pieces can be laid: completeness and soundness of the table. -/
namespace Go.Proofs.Ythgekjkgfccnaaa
section
variable (P rooms : List Int)
/-- What the pieces of a set, laid by a, bring to coil c. -/
def load (a : Nat → Nat) (s c : Nat) : Int := sumN (fun i => if s.testBit i = true ∧ a i = c then P.getD i 0 else 0) P.length
theorem load_more {a b : Nat → Nat} {s t i m c : Nat} (hi : i < P.length) (hb : b i = m) (hab : ∀ j, j < P.length → j ≠ i → b j = a j)
    (ht : t.testBit i = true) (hs : s.testBit i = false) (hst : ∀ j, j < P.length → j ≠ i → t.testBit j = s.testBit j) :
    load P b t c = load P a s c + if m = c then P.getD i 0 else 0 := by
  unfold load
  rw [sumN_upd (f := fun i => if s.testBit i = true ∧ a i = c then P.getD i 0 else 0) hi fun j hj hne => by rw [hst j hj hne, hab j hj hne]]
  simp only [ht, hs, hb, true_and, Bool.false_eq_true, false_and, if_false, Int.sub_zero]
theorem load_zero {a : Nat → Nat} {s c : Nat} (h : ∀ i, i < P.length → s.testBit i = true → a i ≠ c) : load P a s c = 0 := by
  unfold load
  exact sumN_zero fun i hi => if_neg fun k => h i hi k.1 k.2
theorem load_nonneg (hP : PiecesOk P) (a : Nat → Nat) (s c : Nat) : 0 ≤ load P a s c := by
  unfold load
  refine sumN_nonneg fun i hi => ?_
  have := hP P[i] (List.getElem_mem hi)
  have e : P.getD i 0 = P[i] := by simp [hi]
  split <;> omega
theorem bit_less {s i : Nat} (h : s.testBit i = true) : (s ^^^ 2 ^ i) ||| 1 <<< i = s ∧ s ^^^ 2 ^ i < s ∧ (s ^^^ 2 ^ i).testBit i = false ∧ ∀ j, j ≠ i → s.testBit j = (s ^^^ 2 ^ i).testBit j := by
  have h0 : (s ^^^ 2 ^ i).testBit i = false := by simp [Nat.testBit_xor, h]
  have h1 : ∀ j, j ≠ i → s.testBit j = (s ^^^ 2 ^ i).testBit j := fun j hj => by simp [Nat.testBit_xor, Nat.testBit_two_pow, Ne.symm hj]
  have h2 : (s ^^^ 2 ^ i) ||| 1 <<< i = s := by
    apply Nat.eq_of_testBit_eq
    intro j
    rw [Nat.one_shiftLeft, Nat.testBit_or, Nat.testBit_two_pow]
    by_cases e : i = j
    · subst e; simp [h]
    · rw [h1 j (Ne.symm e)]; simp [e]
  refine ⟨h2, Nat.lt_of_le_of_ne ?_ ?_, h0, h1⟩
  · have := Nat.left_le_or (n := s ^^^ 2 ^ i) (m := 1 <<< i)
    omega
  · intro e; rw [e, h] at h0; exact absurd h0 (by decide)
theorem bit_ex {s n : Nat} (hs : s < 2 ^ n) (h : ∀ i, i < n → s.testBit i = false) : s = 0 := by
  apply Nat.eq_of_testBit_eq
  intro j
  by_cases hj : j < n
  · rw [h j hj]; simp
  · rw [Nat.testBit_lt_two_pow (Nat.lt_of_lt_of_le hs (Nat.pow_le_pow_right (by omega) (by omega)))]; simp
/-- The place of a set is no later than what any laying of it needs. -/
theorem fin_cmp (hP : PiecesOk P) (a : Nat → Nat) : ∀ (s : Nat), s < 2 ^ P.length → ∀ m, m < rooms.length → (∀ i, i < P.length → s.testBit i = true → a i ≤ m) →
    (∀ c, c ≤ m → load P a s c ≤ rooms.getD c 0) → PLe (finF P rooms s) (m, load P a s m) := by
  intro s
  induction s using Nat.strongRecOn with
  | _ s ihs =>
  intro hs m
  induction m with
  | zero =>
    intro hm ha hl
    by_cases hex : ∃ i, i < P.length ∧ s.testBit i = true ∧ a i = 0
    · obtain ⟨i, hi, hb, hai⟩ := hex
      obtain ⟨e1, e2, e3, e4⟩ := bit_less hb
      have hlm := fun c => load_more P (a := a) (b := a) (s := s ^^^ 2 ^ i) (t := s) (i := i) (m := 0) (c := c) hi hai (fun _ _ _ => rfl) hb e3 fun j _ hj => e4 j hj
      have ih := ihs _ e2 (by omega) 0 hm (fun j hj hbj => by
        by_cases e : j = i
        · subst e; omega
        · exact ha j hj (by rw [e4 j e]; exact hbj)) (fun c hc => by
          have h1 := hl c hc
          have h2 := hlm c
          have h3 := hP P[i] (List.getElem_mem hi)
          have e : P.getD i 0 = P[i] := by simp [hi]
          split at h2 <;> omega)
      have hu := fin_upd P rooms (s := s ^^^ 2 ^ i) (i := i) (by omega) hi (by rw [e1]; omega)
      rw [e1] at hu
      refine hu.trans (addF_to hm ?_ (hl 0 (by omega)) ?_)
      · have h2 := hlm 0
        rw [if_pos rfl] at h2
        rw [h2, Int.add_sub_cancel]; exact ih
      · have h2 := hlm 0
        have := load_nonneg P hP a (s ^^^ 2 ^ i) 0
        rw [if_pos rfl] at h2
        omega
    · have h0 : s = 0 := bit_ex hs fun i hi => by
        cases hb : s.testBit i with
        | false => rfl
        | true => exact absurd ⟨i, hi, hb, by have := ha i hi hb; omega⟩ hex
      subst h0
      rw [fin_zero, load_zero P fun i _ hb => by simp at hb]
      exact PLe.refl _
  | succ m ihm =>
    intro hm ha hl
    by_cases hex : ∃ i, i < P.length ∧ s.testBit i = true ∧ a i = m + 1
    · obtain ⟨i, hi, hb, hai⟩ := hex
      obtain ⟨e1, e2, e3, e4⟩ := bit_less hb
      have hlm := fun c => load_more P (a := a) (b := a) (s := s ^^^ 2 ^ i) (t := s) (i := i) (m := m + 1) (c := c) hi hai (fun _ _ _ => rfl) hb e3 fun j _ hj => e4 j hj
      have ih := ihs _ e2 (by omega) (m + 1) hm (fun j hj hbj => by
        by_cases e : j = i
        · subst e; omega
        · exact ha j hj (by rw [e4 j e]; exact hbj)) (fun c hc => by
          have h1 := hl c hc
          have h2 := hlm c
          have h3 := hP P[i] (List.getElem_mem hi)
          have e : P.getD i 0 = P[i] := by simp [hi]
          split at h2 <;> omega)
      have hu := fin_upd P rooms (s := s ^^^ 2 ^ i) (i := i) (by omega) hi (by rw [e1]; omega)
      rw [e1] at hu
      refine hu.trans (addF_to hm ?_ (hl _ (Nat.le_refl _)) ?_)
      · have h2 := hlm (m + 1)
        rw [if_pos rfl] at h2
        rw [h2, Int.add_sub_cancel]; exact ih
      · have h2 := hlm (m + 1)
        have := load_nonneg P hP a (s ^^^ 2 ^ i) (m + 1)
        rw [if_pos rfl] at h2
        omega
    · have := ihm (by omega) (fun i hi hb => by
        have h1 := ha i hi hb
        have h2 : a i ≠ m + 1 := fun e => hex ⟨i, hi, hb, e⟩
        omega) (fun c hc => hl c (by omega))
      refine this.trans ?_
      left
      simp
end
end Go.Proofs.Ythgekjkgfccnaaa

/- Plain: a place that the table finds comes from a laying; so the last coil is below the number of rooms exactly if the pieces can be laid. -/
namespace Go.Proofs.Ythgekjkgfccnaaa
section
variable (P rooms : List Int)
/-- A laying of a set that ends at a place. -/
def Real (t : Nat) (p : Nat × Int) : Prop :=
  ∃ a : Nat → Nat, (∀ i, i < P.length → t.testBit i = true → a i ≤ p.1) ∧ (∀ c, c < rooms.length → c ≠ p.1 → load P a t c ≤ rooms.getD c 0) ∧ load P a t p.1 ≤ p.2 ∧ p.2 ≤ rooms.getD p.1 0
def AllReal (T : List (Nat × Int)) : Prop := ∀ t, t < T.length → (T.getD t (0, 0)).1 < rooms.length → Real P rooms t (T.getD t (0, 0))
theorem rooms_nonneg (hr : RoomsOk rooms) (c : Nat) : 0 ≤ rooms.getD c 0 := by
  by_cases h : c < rooms.length
  · have := hr rooms[c] (List.getElem_mem h)
    simpa [h] using this.1
  · simp [List.getElem?_eq_none (Nat.le_of_not_lt h)]
theorem bit_more {set i : Nat} (h : set ||| 1 <<< i ≠ set) : set.testBit i = false ∧ (set ||| 1 <<< i).testBit i = true ∧ ∀ j, j ≠ i → (set ||| 1 <<< i).testBit j = set.testBit j := by
  have h1 : ∀ j, (set ||| 1 <<< i).testBit j = (set.testBit j || decide (i = j)) := fun j => by rw [Nat.one_shiftLeft, Nat.testBit_or, Nat.testBit_two_pow]
  refine ⟨?_, by simp [h1], fun j hj => by simp [h1, Ne.symm hj]⟩
  cases hb : set.testBit i with
  | false => rfl
  | true =>
    refine absurd (Nat.eq_of_testBit_eq fun j => ?_) h
    rw [h1]
    by_cases e : i = j
    · subst e; simp [hb]
    · simp [e]
theorem real_add (hr : RoomsOk rooms) {s i : Nat} {p : Nat × Int} (hi : i < P.length) (hne : s ||| 1 <<< i ≠ s) (hp : p.1 < rooms.length → Real P rooms s p)
    (hlt : (addF rooms p (P.getD i 0)).1 < rooms.length) : Real P rooms (s ||| 1 <<< i) (addF rooms p (P.getD i 0)) := by
  obtain ⟨hb0, hb1, hbj⟩ := bit_more hne
  have hf := fitF_spec (P.getD i 0) (rooms.drop p.1) p.1 p.2
  unfold addF at hlt ⊢
  generalize fitF (P.getD i 0) (rooms.drop p.1) p.1 p.2 = q at *
  rw [List.length_drop, getD_drop0, getD_drop0] at hf
  have hp1 : p.1 < rooms.length := by omega
  obtain ⟨a, ha, hl, hlp, hpr⟩ := hp hp1
  have hmore := fun c => load_more P (a := a) (b := fun j => if j = i then q.1 else a j) (s := s) (t := s ||| 1 <<< i) (i := i) (m := q.1) (c := c) hi (by simp) (fun j _ hj => by simp [hj]) hb1 hb0 (fun j _ hj => hbj j hj)
  have hle : p.1 ≤ q.1 := by omega
  refine ⟨fun j => if j = i then q.1 else a j, ?_, ?_, ?_, ?_⟩
  · intro j hj hbit
    by_cases e : j = i
    · simp [e]
    · simp only [e, if_false]
      rw [hbj j e] at hbit
      exact Nat.le_trans (ha j hj hbit) hle
  · intro c hc hcq
    rw [hmore c, if_neg (Ne.symm hcq), Int.add_zero]
    by_cases e : c = p.1
    · subst e; omega
    · exact hl c hc e
  · rw [hmore q.1, if_pos rfl]
    rcases hf with h | ⟨h1, h2, _, _⟩ | ⟨h1, _, h3, _⟩
    · omega
    · rw [h1, h2]; omega
    · rw [h3, load_zero P fun j hj hbit e => by have := ha j hj hbit; omega]; omega
  · rcases hf with h | ⟨h1, h2, _, h4⟩ | ⟨h1, _, h3, h4⟩
    · omega
    · rw [h1, h2]; simpa using h4
    · rw [h3]; rw [show p.1 + (q.1 - p.1) = q.1 by omega] at h4; exact h4
theorem step_real (hr : RoomsOk rooms) {set i : Nat} {T : List (Nat × Int)} (hi : i < P.length) (hs : set < T.length) (h : AllReal P rooms T) : AllReal P rooms (stepF P rooms set T i) := by
  intro t ht hlt
  rw [step_len] at ht
  unfold stepF at hlt ⊢
  split at hlt
  · rename_i e; rw [if_pos e]; exact h t ht hlt
  · rename_i hne
    rw [if_neg hne]
    split at hlt
    · rename_i hb
      rw [if_pos hb]
      by_cases e : t = set ||| 1 <<< i
      · subst e
        rw [getD_set_eq ht] at hlt ⊢
        exact real_add P rooms hr hi hne (fun h1 => h set hs h1) hlt
      · rw [getD_set_ne e] at hlt ⊢
        exact h t ht hlt
    · rename_i hb
      rw [if_neg hb]; exact h t ht hlt
theorem inn_real (hr : RoomsOk rooms) {set : Nat} {T : List (Nat × Int)} (hs : set < T.length) (h : AllReal P rooms T) : ∀ k, k ≤ P.length → AllReal P rooms (innF P rooms set T k)
  | 0, _ => h
  | k + 1, hk => by rw [innF_succ]; exact step_real P rooms hr (by omega) (by rw [inn_len]; exact hs) (inn_real hr hs h k (by omega))
theorem out_real (hr : RoomsOk rooms) {T : List (Nat × Int)} (h : AllReal P rooms T) : ∀ k, k ≤ T.length → AllReal P rooms (outF P rooms T k)
  | 0, _ => h
  | k + 1, hk => by rw [outF_succ]; exact inn_real P rooms hr (by rw [out_len]; omega) (out_real hr h k (by omega)) _ (Nat.le_refl _)
theorem tab_len : (tabF P rooms).length = 2 ^ P.length := by simp [tabF]
theorem tab_real (hr : RoomsOk rooms) : AllReal P rooms (tabF P rooms) := by
  intro t ht hlt
  rw [tab_len] at ht
  unfold tabF at hlt ⊢
  by_cases e : t = 0
  · subst e
    rw [getD_set_eq (by simp; exact Nat.two_pow_pos _)] at hlt ⊢
    refine ⟨fun _ => 0, fun _ _ _ => Nat.le_refl _, fun c _ _ => ?_, ?_, ?_⟩
    · rw [load_zero P fun i _ hb => by simp at hb]; exact rooms_nonneg rooms hr c
    · rw [load_zero P fun i _ hb => by simp at hb]; exact Int.le_refl _
    · exact rooms_nonneg rooms hr 0
  · rw [getD_set_ne e] at hlt
    rw [List.getD_eq_getElem?_getD, List.getElem?_replicate, if_pos ht] at hlt
    simp at hlt
/-- The pieces, each in a coil, within the rooms. -/
def Laid (a : Nat → Nat) : Prop := (∀ i, i < P.length → a i < rooms.length) ∧ ∀ c, c < rooms.length → sumN (fun i => if a i = c then P.getD i 0 else 0) P.length ≤ rooms.getD c 0
theorem load_full (a : Nat → Nat) (c : Nat) : load P a (2 ^ P.length - 1) c = sumN (fun i => if a i = c then P.getD i 0 else 0) P.length := by
  unfold load
  refine sumN_congr fun i hi => ?_
  simp [Nat.testBit_two_pow_sub_one, hi]
theorem lastF_fin : lastF P rooms = (finF P rooms (2 ^ P.length - 1)).1 := rfl
theorem last_laid (hr : RoomsOk rooms) (h : lastF P rooms < rooms.length) : ∃ a, Laid P rooms a := by
  have hpow := Nat.two_pow_pos P.length
  have := out_real P rooms hr (tab_real P rooms hr) (2 ^ P.length) (by rw [tab_len]; exact Nat.le_refl _) (2 ^ P.length - 1) (by rw [out_len, tab_len]; omega) h
  obtain ⟨a, h1, h2, h3, h4⟩ := this
  change (∀ i, i < P.length → (2 ^ P.length - 1).testBit i = true → a i ≤ lastF P rooms) at h1
  refine ⟨a, fun i hi => ?_, fun c hc => ?_⟩
  · have := h1 i hi (by simp [Nat.testBit_two_pow_sub_one, hi]); omega
  · rw [← load_full]
    by_cases e : c = lastF P rooms
    · rw [e]; exact Int.le_trans h3 h4
    · exact h2 c hc e
theorem laid_last (hP : PiecesOk P) {a : Nat → Nat} (h0 : 0 < rooms.length) (h : Laid P rooms a) : lastF P rooms < rooms.length := by
  have hpow := Nat.two_pow_pos P.length
  have := fin_cmp P rooms hP a (2 ^ P.length - 1) (by omega) (rooms.length - 1) (by omega) (fun i hi _ => by have := h.1 i hi; omega) (fun c hc => by rw [load_full]; exact h.2 c (by omega))
  rw [lastF_fin]
  rcases this with h1 | ⟨h1, _⟩
  · simp only at h1; omega
  · simp only at h1; omega
theorem last_iff (hP : PiecesOk P) (hr : RoomsOk rooms) (h0 : 0 < rooms.length) : lastF P rooms < rooms.length ↔ ∃ a, Laid P rooms a :=
  ⟨last_laid P rooms hr, fun ⟨_, h⟩ => laid_last P rooms hP h0 h⟩
end
end Go.Proofs.Ythgekjkgfccnaaa

/- Plain: the numbers that the search finds exist, are a laying, are the least one, and are numbered by first use. -/
namespace Go.Proofs.Ythgekjkgfccnaaa
theorem sumN_front (f : Nat → Int) : ∀ n, sumN f (n + 1) = f 0 + sumN (fun i => f (i + 1)) n
  | 0 => by simp [sumN]
  | n + 1 => by
    have := sumN_front f n
    simp only [sumN] at this ⊢
    omega
theorem getD_set_eqI {l : List Int} {i : Nat} {x : Int} (h : i < l.length) : (l.set i x).getD i 0 = x := by
  simp [List.getD_eq_getElem?_getD, h]
theorem getD_set_neI {l : List Int} {i j : Nat} {x : Int} (h : j ≠ i) : (l.set i x).getD j 0 = l.getD j 0 := by
  simp [List.getD_eq_getElem?_getD, List.getElem?_set, Ne.symm h]
/-- The load of a list of pieces. -/
theorem load_cons (p : Int) (ps : List Int) (a : Nat → Nat) (c : Nat) :
    sumN (fun i => if a i = c then (p :: ps).getD i 0 else 0) (p :: ps).length = (if a 0 = c then p else 0) + sumN (fun i => if a (i + 1) = c then ps.getD i 0 else 0) ps.length := by
  rw [List.length_cons, sumN_front]
  rfl
theorem PiecesOk.tail {p : Int} {ps : List Int} (h : PiecesOk (p :: ps)) : PiecesOk ps := fun x hx => h x (by simp [hx])
theorem PiecesOk.head {p : Int} {ps : List Int} (h : PiecesOk (p :: ps)) : 1 ≤ p ∧ p ≤ 1000000000 := h p (by simp)
theorem sum_nonneg {P : List Int} (hP : PiecesOk P) (a : Nat → Nat) (c : Nat) : 0 ≤ sumN (fun i => if a i = c then P.getD i 0 else 0) P.length := by
  refine sumN_nonneg fun i hi => ?_
  have := hP P[i] (List.getElem_mem hi)
  have e : P.getD i 0 = P[i] := by simp [hi]
  split <;> omega
theorem laid_cons {p : Int} {ps rooms : List Int} {a : Nat → Nat} (hP : PiecesOk (p :: ps)) (h : Laid (p :: ps) rooms a) :
    a 0 < rooms.length ∧ p ≤ rooms.getD (a 0) 0 ∧ Laid ps (rooms.set (a 0) (rooms.getD (a 0) 0 - p)) (fun i => a (i + 1)) := by
  have h0 : a 0 < rooms.length := h.1 0 (by simp)
  refine ⟨h0, ?_, fun i hi => ?_, fun c hc => ?_⟩
  · have h1 := h.2 (a 0) h0
    rw [load_cons, if_pos rfl] at h1
    have : 0 ≤ sumN (fun i => if a (i + 1) = a 0 then ps.getD i 0 else 0) ps.length := sum_nonneg hP.tail (fun i => a (i + 1)) (a 0)
    omega
  · rw [List.length_set]; exact h.1 (i + 1) (by simpa using hi)
  · rw [List.length_set] at hc
    have h1 := h.2 c hc
    rw [load_cons] at h1
    show sumN (fun i => if a (i + 1) = c then ps.getD i 0 else 0) ps.length ≤ _
    by_cases e : c = a 0
    · subst e
      rw [getD_set_eqI hc]
      rw [if_pos rfl] at h1
      omega
    · rw [getD_set_neI e]
      rw [if_neg (Ne.symm e)] at h1
      omega
theorem cons_laid {p : Int} {ps rooms : List Int} {a : Nat → Nat} (h0 : a 0 < rooms.length) (h : Laid ps (rooms.set (a 0) (rooms.getD (a 0) 0 - p)) (fun i => a (i + 1))) : Laid (p :: ps) rooms a := by
  refine ⟨fun i hi => ?_, fun c hc => ?_⟩
  · cases i with
    | zero => exact h0
    | succ i => have := h.1 i (by simpa using hi); rw [List.length_set] at this; exact this
  · rw [load_cons]
    have h1 : sumN (fun i => if a (i + 1) = c then ps.getD i 0 else 0) ps.length ≤ _ := h.2 c (by rw [List.length_set]; exact hc)
    by_cases e : c = a 0
    · subst e
      rw [getD_set_eqI hc] at h1
      rw [if_pos rfl]; omega
    · rw [getD_set_neI e] at h1
      rw [if_neg (Ne.symm e)]; omega
theorem RoomsOk.less {rooms : List Int} (hr : RoomsOk rooms) {k : Nat} {p : Int} (hk : k < rooms.length) (hp : 1 ≤ p) (h : p ≤ rooms.getD k 0) : RoomsOk (rooms.set k (rooms.getD k 0 - p)) := by
  intro x hx
  rcases List.mem_or_eq_of_mem_set hx with hx | hx
  · exact hr x hx
  · have := hr rooms[k] (List.getElem_mem hk)
    have e : rooms.getD k 0 = rooms[k] := by simp [hk]
    omega
theorem canF_iff {k : Nat} {p : Int} {ps rooms : List Int} (hP : PiecesOk (p :: ps)) (hr : RoomsOk rooms) (hk : k < rooms.length) :
    canF k p ps rooms = true ↔ p ≤ rooms.getD k 0 ∧ ∃ b, Laid ps (rooms.set k (rooms.getD k 0 - p)) b := by
  unfold canF
  rw [Bool.and_eq_true, decide_eq_true_eq, decide_eq_true_eq]
  constructor
  · rintro ⟨h1, h2⟩
    exact ⟨h1, last_laid ps _ (hr.less hk hP.head.1 h1) (by rw [List.length_set]; exact h2)⟩
  · rintro ⟨h1, b, h2⟩
    refine ⟨h1, ?_⟩
    have := laid_last ps _ hP.tail (by rw [List.length_set]; omega) h2
    rwa [List.length_set] at this
/-- What the search finds exists. -/
theorem greedy_ex : ∀ {P rooms : List Int} {a : Nat → Nat}, PiecesOk P → RoomsOk rooms → Laid P rooms a → ∃ ks, Greedy P rooms ks
  | [], rooms, _, _, _, _ => ⟨[], trivial⟩
  | p :: ps, rooms, a, hP, hr, h => by
    obtain ⟨h0, h1, h2⟩ := laid_cons hP h
    have hex : ∃ k, k < rooms.length ∧ canF k p ps rooms = true := ⟨a 0, h0, (canF_iff hP hr h0).2 ⟨h1, _, h2⟩⟩
    have hmin : ∀ m, canF m p ps rooms = true → m < rooms.length → ∃ k, k ≤ m ∧ canF k p ps rooms = true ∧ ∀ j, j < k → canF j p ps rooms = false := by
      intro m
      induction m using Nat.strongRecOn with
      | _ m ih =>
        intro hm hml
        by_cases hj : ∃ j, j < m ∧ canF j p ps rooms = true
        · obtain ⟨j, hj, hc⟩ := hj
          obtain ⟨k, h1, h2, h3⟩ := ih j hj hc (by omega)
          exact ⟨k, by omega, h2, h3⟩
        · refine ⟨m, Nat.le_refl _, hm, fun j hj' => ?_⟩
          cases hc : canF j p ps rooms with
          | false => rfl
          | true => exact absurd ⟨j, hj', hc⟩ hj
    obtain ⟨m, hml, hm⟩ := hex
    obtain ⟨k, hk, hc, hl⟩ := hmin m hm hml
    have hk' : k < rooms.length := by omega
    obtain ⟨h3, b, h4⟩ := (canF_iff hP hr hk').1 hc
    obtain ⟨ks, hks⟩ := greedy_ex hP.tail (hr.less hk' hP.head.1 h3) h4
    exact ⟨k :: ks, ⟨hk', hc, hl⟩, hks⟩
theorem greedy_len : ∀ {P rooms : List Int} {ks : List Nat}, Greedy P rooms ks → ks.length = P.length
  | [], _, [], _ => rfl
  | [], _, _ :: _, h => h.elim
  | _ :: _, _, [], h => h.elim
  | _ :: ps, rooms, k :: ks, h => by simp [greedy_len h.2]
/-- It is a laying. -/
theorem greedy_laid : ∀ {P rooms : List Int} {ks : List Nat}, PiecesOk P → RoomsOk rooms → Greedy P rooms ks → Laid P rooms (fun i => ks.getD i 0)
  | [], rooms, [], _, hr, _ => ⟨fun i hi => by simp at hi, fun c _ => by simp only [List.length_nil, sumN]; exact rooms_nonneg rooms hr c⟩
  | [], _, _ :: _, _, _, h => h.elim
  | _ :: _, _, [], _, _, h => h.elim
  | p :: ps, rooms, k :: ks, hP, hr, h => by
    obtain ⟨⟨hk, hc, hl⟩, hg⟩ := h
    obtain ⟨h3, _⟩ := (canF_iff hP hr hk).1 hc
    exact cons_laid (a := fun i => (k :: ks).getD i 0) (by simpa using hk) (greedy_laid hP.tail (hr.less hk hP.head.1 h3) hg)
/-- It is the least. -/
theorem greedy_least : ∀ {P rooms : List Int} {ks : List Nat} {a : Nat → Nat} {i : Nat}, PiecesOk P → RoomsOk rooms → Greedy P rooms ks → Laid P rooms a → i < P.length →
    (∀ j, j < i → ks.getD j 0 = a j) → ks.getD i 0 ≤ a i
  | [], _, _, _, _, _, _, _, _, hi, _ => by simp at hi
  | _ :: _, _, [], _, _, _, _, h, _, _, _ => h.elim
  | p :: ps, rooms, k :: ks, a, i, hP, hr, h, ha, hi, he => by
    obtain ⟨⟨hk, hc, hl⟩, hg⟩ := h
    obtain ⟨h0, h1, h2⟩ := laid_cons hP ha
    obtain ⟨h3, _⟩ := (canF_iff hP hr hk).1 hc
    cases i with
    | zero =>
      simp only [List.getD_cons_zero]
      refine Nat.le_of_not_lt fun hlt => ?_
      have := hl _ hlt
      rw [(canF_iff hP hr h0).2 ⟨h1, _, h2⟩] at this
      exact absurd this (by decide)
    | succ i =>
      have e0 := he 0 (by omega)
      simp only [List.getD_cons_zero] at e0
      subst e0
      simp only [List.getD_cons_succ]
      exact greedy_least hP.tail (hr.less hk hP.head.1 h3) hg h2 (by simpa using hi) fun j hj => by
        have := he (j + 1) (by omega)
        simpa only [List.getD_cons_succ] using this
end Go.Proofs.Ythgekjkgfccnaaa
