/- Part of the proof of NatDigits: Rounds, RefMul, MulsW, RefOver, RefDig, DigU, Collect, Leave, DigitsW. -/
import Derived.Test.YtaegkhdkhgemmaaPartG
import Derived.RangeFuncNested
import Derived.Test.YtaegkhdkhgemmaaPartF
import Derived.Test.YtaegkhdkhgemmaaPartE
import Derived.RangeFuncBox
import Derived.Test.YtaegkhdkhgemmaaPartD
import Derived.RangeFuncLeaves
import Derived.Shelf.Abstract
import Derived.WalkKit
import Derived.Sort.CutIn
import Derived.LoopNIn
import Derived.Maps.AppendAt
import Derived.Maps.OwnIn
/- What a round of a loop over a sequence may do: lay new blocks, and write m boxes in a row. -/
namespace Go.Proofs.Ytaegkhdkhgemmaa
open Go.RowKit Num

/-- W' is W with new blocks, and with the m boxes from B on written. -/
structure TB (B m : Nat) (W W' : World) : Prop where
  os : W'.os = W.os
  tape : W'.tape = W.tape
  output : W'.output = W.output
  size : W.heap.size ≤ W'.heap.size
  block : ∀ k, k < W.heap.size → (k < B ∨ B + m ≤ k) → W'.heap[k]? = W.heap[k]?
section
variable {B m : Nat} {W W1 W2 : World}
theorem TB.refl (W : World) : TB B m W W := ⟨rfl, rfl, rfl, Nat.le_refl _, fun _ _ _ => rfl⟩
theorem TB.trans (h : TB B m W W1) (j : TB B m W1 W2) : TB B m W W2 :=
  ⟨j.os.trans h.os, j.tape.trans h.tape, j.output.trans h.output, Nat.le_trans h.size j.size, fun k hk hr => (j.block k (Nat.lt_of_lt_of_le hk h.size) hr).trans (h.block k hk hr)⟩
theorem TB.below (h : Below W.heap.size W W1) : TB B m W W1 := ⟨h.os, h.tape, h.output, h.size, fun k hk _ => h.block k hk⟩
theorem TB.set (W : World) {k : Nat} (hk : B ≤ k) (hk' : k < B + m) (i : Nat) (v : Value) : TB B m W (W.setCell ⟨k, i, none⟩ v) :=
  ⟨rfl, rfl, rfl, by simp, fun j _ hr => Below.heap_setCell W _ v j (by show j ≠ k; omega)⟩
theorem TB.drew (W : World) : TB B m W W.drew := ⟨rfl, rfl, rfl, Nat.le_refl _, fun _ _ _ => rfl⟩
theorem TB.belowAt {n : Nat} {w : World} (h : TB B m W W1) (hb : Below n w W) (hn : n ≤ B) (hw : n ≤ W.heap.size) : Below n w W1 :=
  hb.trans ⟨h.os, h.tape, h.output, h.size, fun k hk => h.block k (by omega) (.inl (by omega))⟩
/-- The boxes that a round names. -/
def RBox (B m : Nat) : World → Nat → Prop := fun _ k => B ≤ k ∧ k < B + m
theorem rbox_rb (n₀ : Nat) : RB (RBox B m) n₀ := fun _ _ _ _ h => h
theorem TB.kpS (h : TB B m W W1) : KpS (RBox B m) W W1 :=
  ⟨h.size, fun g => ⟨fun k o hk _ hn => (h.block k (Array.getElem?_eq_some_iff.1 hk).1 (by unfold RBox at hn; omega)).trans hk, fun k hk => ⟨Nat.lt_of_lt_of_le (g k hk) h.size, .inl hk⟩⟩⟩
theorem TB.keeps {n : Nat} (h : TB B m W W1) (hb : ∀ k, B ≤ k → k < B + m → ∃ o, W.heap[k]? = some o ∧ o.isCells = true) : KeepsFrom n W W1 :=
  ⟨h.size, fun k o _ hk ho => by
    by_cases hr : B ≤ k ∧ k < B + m
    · obtain ⟨o', h1, h2⟩ := hb k hr.1 hr.2
      rw [hk] at h1; injection h1 with h1; subst h1; rw [ho] at h2; cases h2
    · exact (h.block k (Array.getElem?_eq_some_iff.1 hk).1 (by omega)).trans hk⟩
theorem TB.cell {k i : Nat} (h : TB B m W W1) (hl : k < W.heap.size) (hr : k < B ∨ B + m ≤ k) : W1.cell? ⟨k, i, none⟩ = W.cell? ⟨k, i, none⟩ := World.cell?_of_block (h.block k hl hr)
theorem TB.boxed {k : Nat} {t : TypeId} {v : Value} (h : TB B m W W1) (hb : Boxed W k t v) (hr : k < B ∨ B + m ≤ k) : Boxed W1 k t v := (h.block k hb.lt hr).trans hb

/-- A number (limbs) that lies in none of the boxes. -/
def NOut (B m : Nat) (W : World) (v : Value) (n : Nat) : Prop :=
  ∃ A c, v = .slice A (dig B32 n).length c ∧ (dig B32 n).length ≤ c ∧ (0 < (dig B32 n).length → ∃ g off, A = some ⟨g, off, none⟩ ∧ g < W.heap.size ∧ (g < B ∨ B + m ≤ g) ∧ ∀ (i u : Nat), (dig B32 n)[i]? = some u → W.cell? ⟨g, off + i, none⟩ = some (.int .u32 (u : Int)))
theorem NOut.n32 {v : Value} {n : Nat} (h : NOut B m W v n) : N32 W v n := by
  obtain ⟨A, c, e, hc, hn⟩ := h
  refine ⟨A, c, e, hc, fun hl => ?_⟩
  obtain ⟨g, off, e1, hg, _, hcell⟩ := hn hl
  exact ⟨g, off, e1, hg, hcell⟩
theorem NOut.of_lt {v : Value} {n : Nat} (h : N32 W v n) (hB : W.heap.size ≤ B) : NOut B m W v n := by
  obtain ⟨A, c, e, hc, hn⟩ := h
  refine ⟨A, c, e, hc, fun hl => ?_⟩
  obtain ⟨g, off, e1, hg, hcell⟩ := hn hl
  exact ⟨g, off, e1, hg, .inl (by omega), hcell⟩
theorem NOut.of_own {v : Value} {n B' : Nat} (h : OwnL B' W v n) (hB : B + m ≤ B') : NOut B m W v n := by
  obtain ⟨A, c, e, hc, hn⟩ := own_reads h
  refine ⟨A, c, e, hc, fun hl => ?_⟩
  obtain ⟨g, off, e1, hg, hcell⟩ := hn hl
  refine ⟨g, off, e1, hg, .inr ?_, hcell⟩
  rcases h.2 with ⟨h1, h2⟩ | ⟨g2, cap, cur, h1, h2, _⟩
  · omega
  · rw [e, e1] at h1
    injection h1 with h1 _ _
    injection h1 with h1
    injection h1 with h1 _
    omega
theorem NOut.tb {v : Value} {n : Nat} (h : NOut B m W v n) (t : TB B m W W1) : NOut B m W1 v n := by
  obtain ⟨A, c, e, hc, hn⟩ := h
  refine ⟨A, c, e, hc, fun hl => ?_⟩
  obtain ⟨g, off, e1, hg, hr, hcell⟩ := hn hl
  exact ⟨g, off, e1, Nat.lt_of_lt_of_le hg t.size, hr, fun i u hu => (World.cell?_of_block (t.block g hg hr)).trans (hcell i u hu)⟩
theorem NOut.grown {v : Value} {n : Nat} {row : Option Nat} (h : NOut B m W v n) (hg : W.grownBy W1 row) (hr : ∀ r, row = some r → ∃ o : Obj, W.heap[r]? = some o ∧ o.isCells = false) : NOut B m W1 v n := by
  obtain ⟨A, c, e, hc, hn⟩ := h
  refine ⟨A, c, e, hc, fun hl => ?_⟩
  obtain ⟨g, off, e1, hgl, ho, hcell⟩ := hn hl
  exact ⟨g, off, e1, Nat.lt_of_lt_of_le hgl hg.size, ho, fun i u hu => cell_kept (hcell i u hu) hg hr⟩
theorem boxed_grown {k : Nat} {t : TypeId} {v : Value} {row : Option Nat} (h : Boxed W k t v) (hg : W.grownBy W1 row) (hr : ∀ r, row = some r → ∃ o : Obj, W.heap[r]? = some o ∧ o.isCells = false) : Boxed W1 k t v :=
  h.kept hg (fun e' => by obtain ⟨o, ho, hc⟩ := hr k e'.symm; rw [show W.heap[k]? = _ from h] at ho; cases ho; cases hc)
theorem below_grown {n : Nat} {w : World} {row : Option Nat} (h : Below n w W) (hg : W.grownBy W1 row) (hn : n ≤ W.heap.size) (hr : ∀ r, row = some r → n ≤ r) : Below n w W1 :=
  h.grown hg hn hr
end

theorem nout_zero (B m : Nat) (W : World) (A : Option Addr) (c : Nat) : NOut B m W (.slice A 0 c) 0 :=
  ⟨A, c, by rw [dig_zero]; rfl, by rw [dig_zero]; exact Nat.zero_le _, fun h => by rw [dig_zero] at h; simp at h⟩
theorem len_base {b n K : Nat} (hb : 2 ≤ b) (h : (dig B32 n).length ≤ K) : (dig b n).length ≤ 32 * K := by
  refine dig_len_le hb (Nat.lt_of_lt_of_le (dig_len_lt b32_two) (Nat.le_trans (Nat.pow_le_pow_right b32_pos h) ?_))
  rw [show B32 ^ K = 2 ^ (32 * K) by rw [Nat.pow_mul]; rfl]
  exact Nat.pow_le_pow_left hb _
theorem len_low {b K n : Nat} (hb : b ≤ B32) (h : n < b ^ K) : (dig B32 n).length ≤ K := dig_len_le b32_two (Nat.lt_of_lt_of_le h (Nat.pow_le_pow_left hb _))

def OwnRet (w : World) (n : Nat) (e : Ending) (w' : World) : Prop := ∃ v, e = .returned v ∧ OwnL w.heap.size w' v n ∧ Below w.heap.size w w'
set_option maxHeartbeats 400000 in
theorem add_o (a b : Value) (m n : Nat) (w : World) (ha : N32 w a m) (hb : N32 w b n) (hm : (dig B32 m).length ≤ 1000) (hn : (dig B32 n).length ≤ 1000) : Calls Try.prog 71 #[a, b] w (OwnRet w (m + n)) := by
  have h := add_ok a b m n w ha hb (by omega) (by omega) (Nat.le_trans (bits_of_len (len_add hm hn)) (by omega))
  have H := Lib.hid h
  clear h ha hb
  go_enter Try.func71, Try.ntmps71
  go_wp2_with (go_at_call 37; refine H.out.mono ?_; rintro e w1 ⟨v, rfl, hv, hb1⟩)
  go_ret
  exact ⟨_, rfl, hv, hb1⟩
set_option maxHeartbeats 400000 in
theorem mul_o (a b : Value) (m n : Nat) (w : World) (ha : N32 w a m) (hb : N32 w b n) (hm : (dig B32 m).length ≤ 1000) (hn : (dig B32 n).length ≤ 1000) (hs : (dig B32 m).length ≤ 158 ∨ (dig B32 n).length ≤ 158) : Calls Try.prog 72 #[a, b] w (OwnRet w (m * n)) := by
  have lm := words_le (n := m) (K := 500) hm
  have ln := words_le (n := n) (K := 500) hn
  have hsh : (dig B64 m).length ≤ 79 ∨ (dig B64 n).length ≤ 79 := by
    rcases hs with h | h
    · exact .inl (words_le (K := 79) h)
    · exact .inr (words_le (K := 79) h)
  have h := mul_at (N := 500) a b m n w (mulAt_short (by omega) (by omega) hsh) (by omega) ha hb (by omega) (by omega) (by omega) (by omega) (Nat.le_trans (bits_of_len (len_mul hm hn)) (by omega))
  have H := Lib.hid h
  clear h ha hb hs hsh
  go_enter Try.func72, Try.ntmps72
  go_wp2_with (go_at_call 45; refine H.out.mono ?_; rintro e w1 ⟨v, rfl, hv, hb1⟩)
  go_ret
  exact ⟨_, rfl, hv, hb1⟩
end Go.Proofs.Ytaegkhdkhgemmaa

namespace Go.Proofs.Ytaegkhdkhgemmaa
open Go.RowKit Num
theorem make35 (n : Nat) (h : n ≤ 1000000000000) (w : World) : (Instr.makeSlice 35 (.int .i64 (n : Int)) (.int .i64 (n : Int))).run Try.prog w = .ok (.slice (some ⟨w.heap.size, 0, none⟩) n n) (w.alloc (.cells (madeCells #[.int .u32 0] n) 56)) :=
  run_make_row' 35 56 (.int .u32 0) 4 Try.underlying35 info56 rfl .i64 .i64 n (by omega) (by omega) w
/-- One step: a product, a digit and a carry that stay below 2^64, and the two halves of their sum: as the walk shows them. -/
theorem mac_ex (m x o c : Nat) (hm : m < B32) (hx : x < B32) (ho : o < B32) (hc : c < B32) : ∃ p s1 s lo hi : Nat,
    IntKind.u64.wrap ((m : Int) * (x : Int)) = (p : Int) ∧ IntKind.u64.wrap ((p : Int) + (o : Int)) = (s1 : Int) ∧ IntKind.u64.wrap ((s1 : Int) + (c : Int)) = (s : Int) ∧ (s : Int) % 4294967296 = (lo : Int) ∧ (s : Int) / 4294967296 = (hi : Int) ∧
    IntKind.u32.wrap (lo : Int) = (lo : Int) ∧ (lo : Int) % 4294967296 = (lo : Int) ∧ IntKind.u64.wrap (hi : Int) = (hi : Int) ∧ IntKind.u32.wrap (hi : Int) = (hi : Int) ∧ (hi : Int) % 4294967296 = (hi : Int) ∧ (s : Int).tmod 4294967296 = (lo : Int) ∧ (s : Int).tdiv 4294967296 = (hi : Int) ∧
    IntKind.u64.wrap (m : Int) = (m : Int) ∧ IntKind.u64.wrap (x : Int) = (x : Int) ∧ IntKind.u64.wrap (o : Int) = (o : Int) ∧ lo + B32 * hi = o + x * m + c ∧ lo < B32 ∧ hi < B32 := by
  have hb := word_bound (b := B32) ho hx hm hc (lo := (o + x * m + c) % 4294967296) (hi := (o + x * m + c) / 4294967296) (by unfold B32; omega)
  unfold B32 at *
  have hp : x * m < 4294967296 * 4294967296 := Nat.mul_lt_mul_of_lt_of_lt hx hm
  have hmx : (m : Int) * (x : Int) = ((x * m : Nat) : Int) := by push_cast; exact Int.mul_comm _ _
  generalize x * m = p at *
  refine ⟨p, p + o, p + o + c, (o + p + c) % 4294967296, (o + p + c) / 4294967296, ?_, ?_, ?_, by omega, by omega, ?_, by omega, ?_, ?_, by omega, ?_, ?_, ?_, ?_, ?_, by omega, by omega, by omega⟩
  · rw [IntKind.wrap_u64, hmx]; omega
  · rw [IntKind.wrap_u64]; omega
  · rw [IntKind.wrap_u64]; omega
  · rw [IntKind.wrap_u32']; omega
  · rw [IntKind.wrap_u64]; omega
  · rw [IntKind.wrap_u32']; omega
  · rw [Int.tmod_eq_emod_of_nonneg (by omega)]; omega
  · rw [Int.tdiv_eq_ediv_of_nonneg (by omega)]; omega
  · rw [IntKind.wrap_u64]; omega
  · rw [IntKind.wrap_u64]; omega
  · rw [IntKind.wrap_u64]; omega
set_option maxHeartbeats 2000000 in
set_option maxRecDepth 100000 in
theorem refMul_any (A A' : Option Addr) (c c' L L' : Nat) (xs ys : List Nat) (w : World) (hA : Nums .u32 w A xs) (hA' : Nums .u32 w A' ys) (hx : Low B32 xs) (hy : Low B32 ys) (hL : L = xs.length) (hL' : L' = ys.length)
    (hl : L ≤ 1000000) (hl' : L' ≤ 1000000) : Calls Try.prog 46 #[.slice A L c, .slice A' L' c'] w (LsPost w (dig B32 (val B32 xs * val B32 ys))) := by
  have hmk := make35 (L + L' + 1) (by omega)
  push_cast at hmk
  have hr0 := Row.made w .u32 (L + L' + 1) 56
  have hbA : Below w.heap.size w (w.alloc (.cells (madeCells #[.int .u32 0] (L + L' + 1)) 56)) := (Below.refl _ _).alloc (Nat.le_refl _) _
  have hst0 := MulSt.start b32_two ys (xs ++ [0])
  rw [List.length_append, List.length_singleton, ← hL, ← hL', show L' + (L + 1) = L + L' + 1 by omega] at hst0
  have HR0 := Lib.hid hr0
  have HL := Lib.hid hL
  have HL' := Lib.hid hL'
  clear hL hL' hr0
  go_enter Try.func46, Try.ntmps46
  go_wp2
  go_loopw [6] (fun t wr => ∃ (i : Nat) (zs : List Nat), i ≤ L ∧ t = .int .i64 (i : Int) ∧ MulSt B32 ys (xs ++ [0]) i zs ∧ Row .u32 56 wr w.heap.size zs ∧ Below w.heap.size w wr) (fun t _ => L - (intOf t).toNat)
  case atStart => exact ⟨0, _, Nat.zero_le _, rfl, hst0, HR0.out, hbA⟩
  case round =>
    clear hst0 HR0 hbA hmk
    obtain ⟨i, zs, hi, rfl, hst, hrow, hbl⟩ := hrel
    have hlen := hst.len
    rw [List.length_append, List.length_singleton, ← HL.out, ← HL'.out] at hlen
    have HLEN := Lib.hid hlen
    clear hlen
    by_cases hlt : i < L
    · obtain ⟨q, qo, v, rfl, hq, hv, hcv⟩ := (hA.keep hbl).at_ (i := i) (by have := HL.out; omega)
      have hvl : v < B32 := hx v (List.mem_of_getElem? hv)
      have HV := Lib.hid hv
      clear hv
      go_wp2_with (fail)
      go_loopw [7, 8] (fun q t wr2 => ∃ (k cy : Nat) (zs' : List Nat), k ≤ L' ∧ q = .int .u64 (cy : Int) ∧ t = .int .i64 (k : Int) ∧ ScaleSt B32 zs ys v i k zs' cy ∧ Row .u32 56 wr2 w.heap.size zs' ∧ Below w.heap.size w wr2) (fun _ t _ => L' - (intOf t).toNat)
      case atStart => exact ⟨0, 0, zs, Nat.zero_le _, rfl, rfl, ScaleSt.start b32_two hst.low, hrow, hbl⟩
      case round =>
        obtain ⟨k, cy, zs', hk, rfl, rfl, hsc, hrow2, hbl2⟩ := hrel
        by_cases hlk : k < L'
        · obtain ⟨q2, qo2, x, rfl, hq2, hxv, hcx⟩ := (hA'.keep hbl2).at_ (i := k) (by have := HL'.out; omega)
          have hxl : x < B32 := hy x (List.mem_of_getElem? hxv)
          obtain ⟨g', off', v', e', hq', hv', hcv'⟩ := (hA.keep hbl2).at_ (i := i) (by have := HL.out; omega)
          injection e' with e'
          injection e' with e1 e2
          subst e1 e2
          rw [HV.out] at hv'
          injection hv' with hv'
          subst hv'
          have hzl : i + k < zs'.length := by have h1 := hsc.len; have h2 := HLEN.out; omega
          obtain ⟨o, ho⟩ : ∃ o, zs'[i + k]? = some o := ⟨zs'[i + k], List.getElem?_eq_getElem _⟩
          have hol : o < B32 := hsc.low o (List.mem_of_getElem? ho)
          have hco := hrow2.cell ho
          have hfo := hrow2.frozen (i + k)
          obtain ⟨p, s1, s, lo, hi', w1, w2, w3, w4, w5, w6, w7, w8, w9, wa, wb, wc, wd, we, wf, hs, hlo, hhi⟩ := mac_ex v x o cy hvl hxl hol hsc.le
          have hstep := hsc.step ho hxv hs hlo hhi
          have HST := Lib.hid hstep
          clear hstep hs hlo hhi ho hxv hol hxl hsc hcv
          go_wp2_with (fail)
          go_quiet (fail)
          go_wp2
          go_roundw
          case rel => exact ⟨k + 1, hi', zs'.set (i + k) lo, by omega, rfl, by go_num, HST.out, (Row.of_block hrow2 (by rfl)).set (i + k) lo, below_set (below_drewN hbl2 _) (Nat.le_refl _) _⟩
          case measure => simp [intOf]; omega
        · have hkL : k = L' := by omega
          subst hkL
          have hzl : i + k < zs'.length := by have h1 := hsc.len; have h2 := HLEN.out; omega
          have hcy : IntKind.u32.wrap (cy : Int) = (cy : Int) := by have := hsc.le; unfold B32 at this; rw [IntKind.wrap_u32']; omega
          have hcy2 : (cy : Int) % 4294967296 = (cy : Int) := by have := hsc.le; unfold B32 at this; omega
          have hik : i + k < L + k + 1 := by omega
          obtain ⟨o, ho⟩ : ∃ o, zs'[i + k]? = some o := ⟨zs'[i + k], List.getElem?_eq_getElem _⟩
          have hco := hrow2.cell ho
          have hfo := hrow2.frozen (i + k)
          have HSC := Lib.hid hsc
          clear hsc ho
          go_wp2
          go_roundw
          case rel =>
            refine ⟨i + 1, zs'.set (i + k) cy, by omega, by go_num, ?_, hrow2.set (i + k) cy, below_set hbl2 (Nat.le_refl _) _⟩
            have := hst.step (by rw [List.length_append]; have := HL.out; omega) (by rw [List.getElem?_append_left (by have := HL.out; omega)]; exact HV.out) (by rw [← HL'.out]; exact HSC.out)
            rw [← HL'.out, Nat.add_comm k i] at this
            exact this
          case measure => simp [intOf]; omega
    · have hiL : i = L := by omega
      subst hiL
      have hv := hst.eq
      rw [HL.out, List.take_left, Nat.mul_comm] at hv
      have hn := hrow.nums0 zs.length
      rw [List.take_length] at hn
      have hzl : zs.length = i + L' + 1 := by have := HLEN.out; omega
      have htr := refTrim_l (.slice (some ⟨w.heap.size, 0, none⟩) (i + L' + 1) (i + L' + 1)) zs wr ⟨_, _, by rw [hzl], by omega, by omega, hn⟩ hst.low (by omega)
      rw [hv] at htr
      have HT := Lib.hid htr
      clear htr hv hn hzl hst hx hy hA hA'
      go_wp2_with (go_at_call 80; refine HT.out.mono ?_; rintro e w9 ⟨v9, rfl, hv9, hb9⟩)
      go_ret
      exact ⟨_, rfl, hv9.mono hbl.size, below_at hbl (Nat.le_refl _) hb9⟩
end Go.Proofs.Ytaegkhdkhgemmaa

namespace Go.Proofs.Ytaegkhdkhgemmaa
open Go.RowKit Num

theorem prod_len {m n K J : Nat} (hm : (dig B32 m).length ≤ K) (hn : (dig B32 n).length ≤ J) : (dig B32 (m * n)).length ≤ K + J := by
  have h1 := Nat.lt_of_lt_of_le (dig_len_lt b32_two (n := m)) (Nat.pow_le_pow_right b32_pos hm)
  have h2 := Nat.lt_of_lt_of_le (dig_len_lt b32_two (n := n)) (Nat.pow_le_pow_right b32_pos hn)
  refine dig_len_le b32_two ?_
  rw [Nat.pow_add]
  exact Nat.mul_lt_mul_of_lt_of_lt h1 h2
theorem refMul_call (a b : Value) (m n : Nat) (w : World) (ha : N32 w a m) (hb : N32 w b n) (hm : (dig B32 m).length ≤ 1000) (hn : (dig B32 n).length ≤ 1000) : Calls Try.prog 46 #[a, b] w (LsPost w (dig B32 (m * n))) := by
  obtain ⟨A, c, rfl, _, hA⟩ := ha
  obtain ⟨A', c', rfl, _, hB⟩ := hb
  have := refMul_any A A' c c' _ _ _ _ w hA hB (low_dig b32_two m) (low_dig b32_two n) rfl rfl (by omega) (by omega)
  rw [val_dig b32_two, val_dig b32_two] at this
  exact this

set_option maxHeartbeats 2000000 in
set_option maxRecDepth 100000 in
theorem muls_bad (A A' : Option Addr) (c c' L L' : Nat) (xs ys : List Nat) (w : World) (hA : Nums .u32 w A xs) (hA' : Nums .u32 w A' ys) (hL : L = xs.length) (hL' : L' = ys.length) (hc : L ≤ c) (hc' : L' ≤ c') (hnil : A = none → c = 0) (hnil' : A' = none → c' = 0)
    (hbad : chk2 (xs.take 160) (ys.take 160) ≠ 0) : Calls Try.prog 5 #[.slice A L c, .slice A' L' c'] w (LivesPost w) := by
  have hcut := fun w' (h : Below w.heap.size w w') => cut_any A c L 160 xs w' (hA.keep h) hL hc hnil (by omega)
  have hcut' := fun w' (h : Below w.heap.size w w') => cut_any A' c' L' 160 ys w' (hA'.keep h) hL' hc' hnil' (by omega)
  have l1 : (xs.take 160).length ≤ 160 := by rw [List.length_take]; omega
  have l2 : (ys.take 160).length ≤ 160 := by rw [List.length_take]; omega
  generalize xs.take 160 = us at *
  generalize ys.take 160 = vs at *
  have hlu : ∀ B w' a, OwnLs B w' a us → Limbs w' a us := fun B w' a h => h.limbs (by omega)
  have hlv : ∀ B w' a, OwnLs B w' a vs → Limbs w' a vs := fun B w' a h => h.limbs (by omega)
  have h45 := fun a b w h k => mul_bad a b us vs w h k hbad
  have h40 := fun a b w h k => both_any a b us vs w h k
  generalize chk2 us vs = r at *
  have hq : (r != 0) = true := by simp [hbad]
  have hq0 : (r == r) = true := by simp
  have h41 := fun b w => is_err b r w hbad
  have HC := Lib.hid hcut
  have HC' := Lib.hid hcut'
  have HLU := Lib.hid hlu
  have HLV := Lib.hid hlv
  have H45 := Lib.hid h45
  have H40 := Lib.hid h40
  have H41 := Lib.hid h41
  have HB := Lib.hid hbad
  clear hcut hcut' hlu hlv h45 h40 h41 hbad hA hA' hL hL' hnil hnil' l1 l2
  go_enter Try.func5, Try.ntmps5
  go_wp2_with (fail)
  refine (HC.out _ (Below.refl _ _)).mono ?_
  rintro e w1 ⟨va, rfl, hva, hb1⟩
  have ka := HLU.out _ _ _ hva
  go_wp2_with (fail)
  refine (HC'.out _ hb1).mono ?_
  rintro e w2 ⟨vb, rfl, hvb, hb2⟩
  have kb := HLV.out _ _ _ hvb
  have b2 := below_at hb1 (Nat.le_refl _) hb2
  have ka2 := ka.keep hb2
  go_wp2_with (first
    | (go_at_call 45; refine (H45.out _ _ _ ka2 kb).mono ?_; rintro e w3 ⟨rfl, hb3⟩
       have b3 := below_at b2 (Nat.le_refl _) hb3
       have ka3 := ka2.keep hb3
       have kb3 := kb.keep hb3)
    | (go_at_call 40; refine (H40.out _ _ _ ka3 kb3).mono ?_; rintro e w6 ⟨rfl, rfl⟩))
  refine (H41.out _ _).mono ?_
  rintro e w8 ⟨rfl, hb8⟩
  have b8 := below_at b3 (Nat.le_refl _) hb8
  go_wp2_with (fail)
  refine (lives_any _).mono ?_
  rintro e w9 ⟨rfl, hb9⟩
  have b9 := below_at b8 (Nat.le_refl _) hb9
  go_wp2
  go_ret
  exact ⟨rfl, b9⟩

set_option maxHeartbeats 2000000 in
set_option maxRecDepth 100000 in
theorem muls_ok (A A' : Option Addr) (c c' L L' m n : Nat) (xs ys : List Nat) (w : World) (hA : Nums .u32 w A xs) (hA' : Nums .u32 w A' ys) (hL : L = xs.length) (hL' : L' = ys.length) (hc : L ≤ c) (hc' : L' ≤ c') (hnil : A = none → c = 0) (hnil' : A' = none → c' = 0)
    (hm : xs.take 160 = dig B32 m) (hn : ys.take 160 = dig B32 n) : Calls Try.prog 5 #[.slice A L c, .slice A' L' c'] w (LivesPost w) := by
  have hcut := fun w' (h : Below w.heap.size w w') => cut_any A c L 160 xs w' (hA.keep h) hL hc hnil (by omega)
  have hcut' := fun w' (h : Below w.heap.size w w') => cut_any A' c' L' 160 ys w' (hA'.keep h) hL' hc' hnil' (by omega)
  have l1 : (xs.take 160).length ≤ 160 := by rw [List.length_take]; omega
  have l2 : (ys.take 160).length ≤ 160 := by rw [List.length_take]; omega
  rw [hm] at hcut l1
  rw [hn] at hcut' l2
  have ls : (dig B32 (m * n)).length ≤ 320 := prod_len l1 l2
  have hp : nbits (m * n) ≤ 8388608 := Nat.le_trans (bits_of_len ls) (by omega)
  have w1 := words_le (n := m) (K := 500) (by omega)
  have w2 := words_le (n := n) (K := 500) (by omega)
  have hat : MulAt m n := mulAt_all (by omega) (by omega)
  have hlu : ∀ B w' a, OwnLs B w' a (dig B32 m) → Limbs w' a (dig B32 m) := fun B w' a h => h.limbs (by omega)
  have hlv : ∀ B w' a, OwnLs B w' a (dig B32 n) → Limbs w' a (dig B32 n) := fun B w' a h => h.limbs (by omega)
  have h45 := fun a b w (h : Limbs w a (dig B32 m)) (k : Limbs w b (dig B32 n)) => mul_at (N := 500) a b m n w hat (by omega) h.is k.is (by omega) (by omega) (by omega) (by omega) hp
  have h40 := fun a b w h k => both_any a b (dig B32 m) (dig B32 n) w h k
  have h46 := fun a b w (h : Limbs w a (dig B32 m)) (k : Limbs w b (dig B32 n)) => refMul_call a b m n w h.is k.is (by omega) (by omega)
  have h41b : ∀ B a b w, N32 w a (m * n) → OwnLs B w b (dig B32 (m * n)) → Calls Try.prog 41 #[a, .int .i64 0, b, .int .i64 0] w (LivesPost w) := fun B a b w h k => is_ok a b (m * n) w h (k.limbs (by omega)) (by omega)
  rw [chk2, if_pos (chk_dig (by omega)), chk_dig (by omega)] at h40
  have HC := Lib.hid hcut
  have HC' := Lib.hid hcut'
  have HLU := Lib.hid hlu
  have HLV := Lib.hid hlv
  have H45 := Lib.hid h45
  have H40 := Lib.hid h40
  have H41 := Lib.hid h41b
  have H46 := Lib.hid h46
  clear hcut hcut' hlu hlv h45 h40 h41b h46 hA hA' hL hL' hnil hnil' l1 l2 hp ls hm hn hat w1 w2
  go_enter Try.func5, Try.ntmps5
  go_wp2_with (fail)
  refine (HC.out _ (Below.refl _ _)).mono ?_
  rintro e w1 ⟨va, rfl, hva, hb1⟩
  have ka := HLU.out _ _ _ hva
  go_wp2_with (fail)
  refine (HC'.out _ hb1).mono ?_
  rintro e w2 ⟨vb, rfl, hvb, hb2⟩
  have kb := HLV.out _ _ _ hvb
  have b2 := below_at hb1 (Nat.le_refl _) hb2
  have ka2 := ka.keep hb2
  go_wp2_with (first
    | (go_at_call 45; refine (H45.out _ _ _ ka2 kb).mono ?_; rintro e w3 ⟨vs, rfl, hvs, hb3⟩
       have b3 := below_at b2 (Nat.le_refl _) hb3
       have ka3 := ka2.keep hb3
       have kb3 := kb.keep hb3)
    | (go_at_call 40; refine (H40.out _ _ _ ka3 kb3).mono ?_; rintro e w6 ⟨rfl, rfl⟩)
    | (go_at_call 46; refine (H46.out _ _ _ ka3 kb3).mono ?_; rintro e w9 ⟨v9, rfl, hv9, hb9⟩
       have b9 := below_at b3 (Nat.le_refl _) hb9
       have ks9 := hvs.is.keep hb9))
  refine (H41.out _ _ _ _ ks9 hv9).mono ?_
  rintro e w10 ⟨rfl, hb10⟩
  have b10 := below_at b9 (Nat.le_refl _) hb10
  go_wp2_with (fail)
  refine (lives_any _).mono ?_
  rintro e w11 ⟨rfl, hb11⟩
  have b11 := below_at b10 (Nat.le_refl _) hb11
  go_wp2
  go_ret
  exact ⟨rfl, b11⟩

/-- The law NatMuls, for whatever limbs. -/
theorem muls_walk (A A' : Option Addr) (c c' L L' : Nat) (xs ys : List Nat) (w : World) (hA : Nums .u32 w A xs) (hA' : Nums .u32 w A' ys) (hlow : Low B32 xs) (hlow' : Low B32 ys) (hL : L = xs.length) (hL' : L' = ys.length) (hc : L ≤ c) (hc' : L' ≤ c') (hnil : A = none → c = 0) (hnil' : A' = none → c' = 0) :
    Calls Try.prog 5 #[.slice A L c, .slice A' L' c'] w (LivesPost w) := by
  by_cases h0 : chk2 (xs.take 160) (ys.take 160) = 0
  · have h1 : chk (xs.take 160) = 0 ∧ chk (ys.take 160) = 0 := by
      unfold chk2 at h0
      split at h0
      · rename_i h; exact ⟨h, h0⟩
      · rename_i h; exact absurd h0 h
    have hm := chk_zero (hlow.take 160) h1.1
    have hn := chk_zero (hlow'.take 160) h1.2
    exact muls_ok A A' c c' L L' _ _ xs ys w hA hA' hL hL' hc hc' hnil hnil' hm hn
  · exact muls_bad A A' c c' L L' xs ys w hA hA' hL hL' hc hc' hnil hnil' h0
end Go.Proofs.Ytaegkhdkhgemmaa

namespace Go.Proofs.Ytaegkhdkhgemmaa
open Go.RowKit Num

/-- Division by a small number from the top down: the limbs from k on are done. -/
structure OverSt (xs zs : List Nat) (v k l : Nat) : Prop where
  len : zs.length = xs.length
  low : Low B32 zs
  lt : l < v
  eq : val B32 (xs.drop k) = v * val B32 (zs.drop k) + l
theorem OverSt.start (xs : List Nat) {v : Nat} (hv : 0 < v) : OverSt xs (List.replicate xs.length 0) v xs.length 0 :=
  ⟨by simp, Low.replicate b32_pos _, hv, by simp [val]⟩
theorem OverSt.step {xs zs : List Nat} {v k l x q r : Nat} (h : OverSt xs zs v (k + 1) l) (hx : xs[k]? = some x) (hs : l * B32 + x = v * q + r) (hq : q < B32) (hr : r < v) : OverSt xs (zs.set k q) v k r := by
  have hk : k < xs.length := (List.getElem?_eq_some_iff.1 hx).1
  have hxe : xs[k] = x := (List.getElem?_eq_some_iff.1 hx).2
  have hkz : k < (zs.set k q).length := by rw [List.length_set, h.len]; exact hk
  refine ⟨by rw [List.length_set]; exact h.len, h.low.set hq, hr, ?_⟩
  rw [List.drop_eq_getElem_cons hk, List.drop_eq_getElem_cons hkz, hxe, List.getElem_set_self, List.drop_set_of_lt (by omega)]
  simp only [val]
  rw [h.eq]
  grind
theorem OverSt.fin {xs zs : List Nat} {v l : Nat} (h : OverSt xs zs v 0 l) : val B32 zs = val B32 xs / v ∧ val B32 xs % v = l := by
  have e := h.eq
  simp only [List.drop_zero] at e
  have hl := h.lt
  rw [e, Nat.mul_add_div (by omega), Nat.div_eq_of_lt hl, Nat.mul_add_mod, Nat.mod_eq_of_lt hl]
  simp

theorem over_ex (l x v : Nat) (hl : l < v) (hx : x < B32) (hv : v < B32) : ∃ p s q r : Nat,
    IntKind.u64.wrap ((l : Int) * 4294967296) = (p : Int) ∧ IntKind.u64.wrap (x : Int) = (x : Int) ∧ IntKind.u64.wrap (v : Int) = (v : Int) ∧ IntKind.u64.wrap ((p : Int) + (x : Int)) = (s : Int) ∧
    (s : Int) / (v : Int) = (q : Int) ∧ (s : Int).tdiv (v : Int) = (q : Int) ∧ (s : Int) % (v : Int) = (r : Int) ∧ (s : Int).tmod (v : Int) = (r : Int) ∧
    IntKind.u64.wrap (q : Int) = (q : Int) ∧ IntKind.u64.wrap (r : Int) = (r : Int) ∧ IntKind.u32.wrap (q : Int) = (q : Int) ∧ (q : Int) % 4294967296 = (q : Int) ∧ IntKind.u32.wrap (r : Int) = (r : Int) ∧ (r : Int) % 4294967296 = (r : Int) ∧
    ((v : Int) == 0) = false ∧ l * B32 + x = v * q + r ∧ q < B32 ∧ r < v := by
  have hlt : l * B32 + x < v * B32 := by
    have : (l + 1) * B32 ≤ v * B32 := Nat.mul_le_mul_right _ hl
    rw [Nat.add_mul] at this
    omega
  have hle : v * B32 ≤ B32 * B32 := Nat.mul_le_mul_right _ (by omega)
  have hq : (l * B32 + x) / v < B32 := Nat.div_lt_of_lt_mul hlt
  have hr : (l * B32 + x) % v < v := Nat.mod_lt _ (by omega)
  have hd := Nat.div_add_mod (l * B32 + x) v
  obtain ⟨q, hqe⟩ : ∃ q, (l * B32 + x) / v = q := ⟨_, rfl⟩
  obtain ⟨r, hre⟩ : ∃ r, (l * B32 + x) % v = r := ⟨_, rfl⟩
  have c1 : ((l * B32 + x : Nat) : Int) / (v : Int) = (q : Int) := by rw [← hqe]; exact (Int.natCast_ediv _ _).symm
  have c2 : ((l * B32 + x : Nat) : Int) % (v : Int) = (r : Int) := by rw [← hre]; exact (Int.natCast_emod _ _).symm
  rw [hqe] at hq hd
  rw [hre] at hr hd
  have hpv : (l : Int) * 4294967296 = ((l * B32 : Nat) : Int) := by unfold B32; omega
  have hp : l * B32 + x < B32 * B32 := by omega
  clear hqe hre
  refine ⟨l * B32, l * B32 + x, q, r, ?_, ?_, ?_, ?_, c1, ?_, c2, ?_, ?_, ?_, ?_, ?_, ?_, ?_, ?_, hd.symm, hq, hr⟩
  · rw [IntKind.wrap_u64]; unfold B32 at *; omega
  · rw [IntKind.wrap_u64]; unfold B32 at *; omega
  · rw [IntKind.wrap_u64]; unfold B32 at *; omega
  · rw [IntKind.wrap_u64]; unfold B32 at *; omega
  · rw [Int.tdiv_eq_ediv_of_nonneg (by omega)]; exact c1
  · rw [Int.tmod_eq_emod_of_nonneg (by omega)]; exact c2
  all_goals clear c1 c2 hd hp hpv hle hlt
  · rw [IntKind.wrap_u64]; unfold B32 at *; omega
  · rw [IntKind.wrap_u64]; unfold B32 at *; omega
  · rw [IntKind.wrap_u32']; unfold B32 at *; omega
  · unfold B32 at *; omega
  · rw [IntKind.wrap_u32']; unfold B32 at *; omega
  · unfold B32 at *; omega
  · simp; omega

def OverPost (w : World) (ys : List Nat) (r : Nat) (e : Ending) (w' : World) : Prop := ∃ v, e = .returned (.tuple #[v, .int .u32 (r : Int)]) ∧ OwnLs w.heap.size w' v ys ∧ Below w.heap.size w w'

set_option maxHeartbeats 2000000 in
set_option maxRecDepth 100000 in
theorem refOver_any (A : Option Addr) (c L v : Nat) (xs : List Nat) (w : World) (hA : Nums .u32 w A xs) (hx : Low B32 xs) (hL : L = xs.length) (hl : L ≤ 1000000) (hv0 : 0 < v) (hv : v < B32) :
    Calls Try.prog 94 #[.slice A L c, .int .u32 (v : Int)] w (OverPost w (dig B32 (val B32 xs / v)) (val B32 xs % v)) := by
  have hmk := make35 L (by omega) w
  have hr0 := Row.made w .u32 L 56
  have hbA : Below w.heap.size w (w.alloc (.cells (madeCells #[.int .u32 0] L) 56)) := (Below.refl _ _).alloc (Nat.le_refl _) _
  have hst0 := OverSt.start xs hv0
  rw [← hL] at hst0
  have HL := Lib.hid hL
  have HR0 := Lib.hid hr0
  have HV := Lib.hid hv
  clear hL hr0 hv
  go_enter Try.func94, Try.ntmps94
  go_wp2
  go_loopw [7, 8] (fun q t wr => ∃ (k l : Nat) (zs : List Nat), k ≤ L ∧ t = .int .i64 ((k : Int) - 1) ∧ q = .int .u64 (l : Int) ∧ OverSt xs zs v k l ∧ Row .u32 56 wr w.heap.size zs ∧ Below w.heap.size w wr) (fun _ t _ => (intOf t + 1).toNat)
  case atStart => exact ⟨L, 0, _, Nat.le_refl _, rfl, rfl, hst0, HR0.out, hbA⟩
  case round =>
    clear hst0 HR0 hbA hmk
    obtain ⟨k, l, zs, hk, rfl, rfl, hst, hrow, hbl⟩ := hrel
    have hlen := hst.len
    rw [← HL.out] at hlen
    have HLEN := Lib.hid hlen
    clear hlen
    by_cases h0 : k = 0
    · subst h0
      obtain ⟨f1, f2⟩ := hst.fin
      have hlt := hst.lt
      have hvv := HV.out
      have w1 : IntKind.u32.wrap (l : Int) = (l : Int) := by unfold B32 at hvv; rw [IntKind.wrap_u32']; omega
      have w2 : (l : Int) % 4294967296 = (l : Int) := by unfold B32 at hvv; omega
      have hn := hrow.nums0 zs.length
      rw [List.take_length] at hn
      have htr := refTrim_l (.slice (some ⟨w.heap.size, 0, none⟩) L L) zs wr ⟨_, _, by rw [HLEN.out], by have := HLEN.out; omega, by have := HLEN.out; omega, hn⟩ hst.low (by have := HLEN.out; omega)
      rw [f1] at htr
      have HT := Lib.hid htr
      have F2 := Lib.hid f2
      clear htr f1 f2 hn hst hx hA hvv
      go_wp2_with (go_at_call 80; refine HT.out.mono ?_; rintro e w9 ⟨v9, rfl, hv9, hb9⟩)
      go_ret2
      rw [F2.out]
      exact ⟨_, rfl, hv9.mono hbl.size, below_at hbl (Nat.le_refl _) hb9⟩
    · obtain ⟨j, rfl⟩ : ∃ j, k = j + 1 := ⟨k - 1, by omega⟩
      obtain ⟨g, off, x, rfl, hg, hxv, hcx⟩ := (hA.keep hbl).at_ (i := j) (by have := HL.out; omega)
      have hxl : x < B32 := hx x (List.mem_of_getElem? hxv)
      obtain ⟨p, s, q, r, w1, w2, w3, w4, w5, w6, w7, w8, w9, wa, wb, wc, wd, we, wf, hs, hq, hr⟩ := over_ex l x v hst.lt hxl HV.out
      have hst' := hst.step hxv hs hq hr
      obtain ⟨o, ho⟩ : ∃ o, zs[j]? = some o := ⟨zs[j]'(by have := HLEN.out; omega), List.getElem?_eq_getElem _⟩
      have hco := hrow.cell ho
      have hfo := hrow.frozen j
      have HST := Lib.hid hst'
      have HX := Lib.hid hxv
      have HO := Lib.hid ho
      clear hst' hxv ho hxl hs hq hr hst hA hx
      go_wp2
      go_roundw
      case rel => exact ⟨j, r, _, by omega, by first | rfl | go_num, rfl, HST.out, hrow.set j q, below_set hbl (Nat.le_refl _) _⟩
      case measure => simp [intOf]
end Go.Proofs.Ytaegkhdkhgemmaa

/- The reference's Digits. -/
namespace Go.Proofs.Ytaegkhdkhgemmaa
open Go.RowKit Num

def lenD : Value → Nat
  | .slice _ n _ => n
  | _ => 0
set_option maxHeartbeats 2000000 in
set_option maxRecDepth 100000 in
theorem refDigits_any (a : Value) (b x : Nat) (w : World) (ha : N32 w a x) (hx : (dig B32 x).length ≤ 1000) (hb : 2 ≤ b) (hbb : b < B32) (hlen : (dig b x).length ≤ 100000) : Calls Try.prog 66 #[a, .int .u32 (b : Int)] w (LsPost w (dig b x)) := by
  obtain ⟨i0, hi, hz0, hz1, hz2⟩ := info_parts info56
  have ho := own_empty w 56
  have hbA := below_new w (.cells #[] 56)
  have HO := Lib.hid ho
  have ha0 := ha.keep hbA
  have HA0 := Lib.hid ha0
  obtain ⟨ds, hds⟩ : ∃ ds, dig b x = ds := ⟨_, rfl⟩
  rw [hds] at hlen ⊢
  have HDS := Lib.hid hds
  have HXL := Lib.hid hx
  clear ho ha0 hds hx
  obtain ⟨A, c, rfl, _⟩ := ha
  generalize (dig B32 x).length = L0 at *
  go_enter Try.func66, Try.ntmps66
  go_wp2
  go_loopw [0, 5] (fun t out wr => ∃ (y L : Nat) (At : Option Addr) (ct : Nat) (os : List Nat), t = .slice At L ct ∧ N32 wr t y ∧ L = (dig B32 y).length ∧ L ≤ 1000 ∧ ds = os ++ dig b y ∧ wr.ownsRow w.heap.size 56 1 out os.length (ints .u32 os) ∧ Below w.heap.size w wr) (fun _ out _ => ds.length - lenD out)
  case atStart =>
    have h := HA0.out
    obtain ⟨A', c', e, _⟩ := id h
    injection e with e1 e2 e3
    refine ⟨x, L0, A, c, [], rfl, h, e2, ?_, HDS.out.symm, HO.out, hbA⟩
    first | exact HXL.out | omega
  case round =>
    clear HA0 HO hbA
    obtain ⟨y, L, At, ct, os, rfl, hy, hL, hL1, hd, hown, hbl⟩ := hrel
    rcases Nat.eq_zero_or_pos y with h0 | h0
    · subst h0
      rw [dig_zero] at hL hd
      rw [List.append_nil] at hd
      have hL0 : ¬ 0 < L := by rw [hL]; simp
      have HH := Lib.hid hd
      clear hd hL
      go_wp2
      go_ret
      exact ⟨_, rfl, by unfold OwnLs; rw [HH.out]; exact hown, hbl⟩
    · have hpos : 0 < L := by
        rw [hL]
        rcases Nat.eq_zero_or_pos (dig B32 y).length with h | h
        · have := (dig_nil_iff b32_two).1 (List.eq_nil_of_length_eq_zero h); omega
        · exact h
      rw [dig_pos hb (by omega)] at hd
      have hov : Calls Try.prog 94 #[.slice At L ct, .int .u32 (b : Int)] wr (OverPost wr (dig B32 (y / b)) (y % b)) := by
        obtain ⟨A', c', e, hc', hn⟩ := hy
        injection e with e1 e2 e3
        subst e1
        have := refOver_any At ct L b (dig B32 y) wr hn (low_dig b32_two y) hL (by omega) (by omega) hbb
        rwa [val_dig b32_two] at this
      have hdl : os.length + 1 ≤ ds.length := by rw [hd]; simp
      have hlq : (dig B32 (y / b)).length ≤ L := by rw [hL]; exact dig_len_le b32_two (Nat.lt_of_le_of_lt (Nat.div_le_self _ _) (dig_len_lt b32_two))
      have hmod : y % b < b := Nat.mod_lt _ (by omega)
      generalize y % b = r at *
      generalize y / b = q at *
      have HOV := Lib.hid hov
      have HD := Lib.hid hd
      have HLQ := Lib.hid hlq
      clear hov hd hL hlq
      obtain ⟨K, hK⟩ : ∃ K, os.length = K := ⟨_, rfl⟩
      have HK := Lib.hid hK
      rw [hK] at hown hdl
      clear hK
      go_wp2_with (fail)
      refine HOV.out.mono ?_
      rintro e w1 ⟨v, rfl, hv, hb1⟩
      obtain ⟨Av, cv, rfl⟩ : ∃ Av cv, v = .slice Av (dig B32 q).length cv := by
        obtain ⟨A, c, e, _⟩ := own_reads hv
        exact ⟨A, c, e⟩
      have hown1 : w1.ownsRow w.heap.size 56 1 u5 K (ints .u32 os) := by
        refine ⟨hown.1, ?_⟩
        rcases hown.2 with h | ⟨g, cap, cur, e, hg, hh, r⟩
        · exact .inl h
        · exact .inr ⟨g, cap, cur, e, hg, (hb1.block g (Array.getElem?_eq_some_iff.1 hh).1).trans hh, r⟩
      have b1 := below_at hbl (Nat.le_refl _) hb1
      go_wp2_with (at_builtin
                   refine wpList_append_own _ rfl _ _ 22 rfl w.heap.size 56 i0 (.int .u32 0) 1 4 Try.underlying22 hi hz0 hz1 hz2 rfl (by decide) _ K _ rfl (hown1.alloc _) ⟨w1.heap.size, 0, none⟩ 1 1 [.int .u32 (r : Int)] rfl rfl (cell_one_new _ _ _) (ints_one .u32 [r]) ?c4 ?c5 (Nat.le_trans b1.size (by simp)) ?_)
      case c4 => unfold maxLen; omega
      case c5 => omega
      intro v' w8 hown2 hgr1 _
      have hb8 : Below w.heap.size w w8 := (b1.alloc b1.size _).grown hgr1 (Nat.le_trans b1.size (by simp)) (fun g' hg' => by
        rcases hown1.2 with ⟨rfl, _⟩ | ⟨g2, cap, cur, rfl, hg2, _⟩
        · simp [Value.ownBlock] at hg'
        · simp [Value.ownBlock] at hg'; omega)
      have hlv : lenD v' = K + 1 := by
        rcases hown2.2 with ⟨_, h⟩ | ⟨g2, cap, cur, rfl, _⟩
        · omega
        · rfl
      have hlo : lenD u5 = K := by
        rcases hown1.2 with ⟨rfl, h⟩ | ⟨g2, cap, cur, rfl, _⟩
        · simp [lenD, h]
        · rfl
      have hq8 : N32 w8 (.slice Av (dig B32 q).length cv) q := by
        obtain ⟨A, c, e, hc, hn⟩ := own_reads hv
        refine ⟨A, c, e, hc, fun hl => ?_⟩
        obtain ⟨g, off, e1, hg, hcell⟩ := hn hl
        have hge : wr.heap.size ≤ g := by
          rcases hv.2 with ⟨h, _⟩ | ⟨g2, cap, cur, h, hg2, _⟩
          · rw [e, e1] at h; cases h
          · rw [e, e1] at h; injection h with h _ _; injection h with h; injection h with h _; subst h; exact hg2
        refine ⟨g, off, e1, Nat.lt_of_lt_of_le hg (Nat.le_trans (by simp) hgr1.size), fun i u hu => ?_⟩
        rw [← hcell i u hu, ← (below_new w1 (.cells #[.int .u32 (r : Int)] 56)).cell (p := ⟨g, off + i, none⟩) hg]
        refine World.cell?_of_block (hgr1.block g (by simp; omega) fun he => ?_)
        rcases hown.2 with ⟨rfl, _⟩ | ⟨g2, cap, cur, rfl, _, hh, _⟩
        · simp [Value.ownBlock] at he
        · have := (Array.getElem?_eq_some_iff.1 hh).1
          simp [Value.ownBlock] at he
          omega
      have H2 := Lib.hid hown2
      have HV8 := Lib.hid hlv
      have HLO := Lib.hid hlo
      clear hown2 hown1 hown hlv hlo hv
      go_wp2
      go_roundw
      case rel => exact ⟨q, _, Av, cv, os ++ [r], rfl, hq8, rfl, by have := HLQ.out; omega, by rw [HD.out]; simp, by have := H2.out; rw [List.length_append, List.length_singleton, HK.out]; simpa [ints] using this, hb8⟩
      case measure => rw [HV8.out, HLO.out]; omega
end Go.Proofs.Ytaegkhdkhgemmaa

/- Digits, whatever it is called with: a sequence of what is wanted. -/
namespace Go.Proofs.Ytaegkhdkhgemmaa
open Go.RowKit Num

/-- A list of limbs that lies in no block that E names. -/
def LX (E : Nat → Prop) (W : World) (v : Value) (xs : List Nat) : Prop :=
  ∃ A c, v = .slice A xs.length c ∧ xs.length ≤ c ∧ (0 < xs.length → ∃ g off, A = some ⟨g, off, none⟩ ∧ g < W.heap.size ∧ ¬ E g ∧ ∀ (i u : Nat), xs[i]? = some u → W.cell? ⟨g, off + i, none⟩ = some (.int .u32 (u : Int)))
section
variable {E : Nat → Prop} {W W1 : World} {v : Value} {xs : List Nat}
theorem LX.limbs (h : LX E W v xs) (hl : xs.length ≤ 1000000000000) : Limbs W v xs := by
  obtain ⟨A, c, e, hc, hn⟩ := h
  refine ⟨A, c, e, hc, hl, fun hl => ?_⟩
  obtain ⟨g, off, e1, hg, _, hcell⟩ := hn hl
  exact ⟨g, off, e1, hg, hcell⟩
theorem LX.of_own {B' : Nat} (h : OwnLs B' W v xs) (hB : ∀ k, E k → k < B') : LX E W v xs := by
  obtain ⟨A, c, e, hc, hn⟩ := own_reads h
  refine ⟨A, c, e, hc, fun hl => ?_⟩
  obtain ⟨g, off, e1, hg, hcell⟩ := hn hl
  refine ⟨g, off, e1, hg, fun hE => ?_, hcell⟩
  have := hB g hE
  rcases h.2 with ⟨h1, h2⟩ | ⟨g2, cap, cur, h1, h2, _⟩
  · omega
  · rw [e, e1] at h1
    injection h1 with h1 _ _
    injection h1 with h1
    injection h1 with h1 _
    omega
theorem LX.keep (h : LX E W v xs) (hs : W.heap.size ≤ W1.heap.size) (hk : ∀ k, k < W.heap.size → ¬ E k → W1.heap[k]? = W.heap[k]?) : LX E W1 v xs := by
  obtain ⟨A, c, e, hc, hn⟩ := h
  refine ⟨A, c, e, hc, fun hl => ?_⟩
  obtain ⟨g, off, e1, hg, hr, hcell⟩ := hn hl
  exact ⟨g, off, e1, Nat.lt_of_lt_of_le hg hs, hr, fun i u hu => (World.cell?_of_block (hk g hg hr)).trans (hcell i u hu)⟩
theorem LX.below (h : LX E W v xs) (hb : Below W.heap.size W W1) : LX E W1 v xs := h.keep hb.size (fun k hk _ => hb.block k hk)
theorem LX.set (h : LX E W v xs) {B : Nat} (hB : E B) (i : Nat) (u : Value) : LX E (W.setCell ⟨B, i, none⟩ u) v xs :=
  h.keep (by simp) (fun k _ hk => Below.heap_setCell W _ u k (by rintro rfl; exact hk hB))
theorem LX.mono {E' : Nat → Prop} (h : LX E W v xs) (he : ∀ k, k < W.heap.size → E' k → E k) : LX E' W v xs := by
  obtain ⟨A, c, e, hc, hn⟩ := h
  refine ⟨A, c, e, hc, fun hl => ?_⟩
  obtain ⟨g, off, e1, hg, hr, hcell⟩ := hn hl
  exact ⟨g, off, e1, hg, fun h' => hr (he g hg h'), hcell⟩
theorem lx_nil (A : Option Addr) (c : Nat) : LX E W (.slice A 0 c) [] := ⟨A, c, rfl, Nat.zero_le _, fun h => absurd h (by simp)⟩
end

/-- The digits that have come, as numbers. -/
def vals {b : Nat} (pre : List (Fin b)) : List Nat := pre.map (fun x => x.val)
theorem vals_snoc {b : Nat} (pre : List (Fin b)) (x : Fin b) : vals (pre ++ [x]) = vals pre ++ [x.val] := by simp [vals]
theorem vals_len {b : Nat} (pre : List (Fin b)) : (vals pre).length = pre.length := by simp [vals]
theorem vals_low {b : Nat} (pre : List (Fin b)) : Low b (vals pre) := by
  intro x hx
  simp only [vals, List.mem_map] at hx
  obtain ⟨y, _, rfl⟩ := hx
  exact y.2
theorem vals_fds {b : Nat} (hb : 2 ≤ b) {xs : List Nat} (h : Low b xs) : vals (fds b hb xs) = xs := by
  simp only [vals, fds, List.map_map]
  conv => rhs; rw [← List.map_id xs]
  apply List.map_congr_left
  intro x hx
  exact Nat.mod_eq_of_lt (h x hx)

/-- A function value whose sequence gives DS. -/
def SeqOf (gf : Nat) (lb : Array Value) (b : Nat) (DS : List (Fin b)) (w1 : World) : Prop :=
  ∀ (F : Fence) (_ : Free F Try.prog) (_ : F.round = none) (R : World → Nat → Prop) (n : Nat) (w' : World), Below w1.heap.size w1 w' → RB R w'.heap.size → Good R w' →
    SeqStopsK F n Try.prog gf lb (fun y : Fin b => #[Value.int .u32 ((y.val : Nat) : Int)]) (KpS R) (fun ys => ys = DS) (fun pre => pre <+: DS) DS.length w'

/-- What Digits gives of limbs in a base. -/
def wantOf (ys : List Nat) (base : Nat) : List Nat := if chk ys = 0 ∧ 2 ≤ base then dig base (val B32 ys) else []
def DigUPost (ys : List Nat) (base : Nat) (w : World) (e : Ending) (w' : World) : Prop :=
  ∃ (gf : Nat) (lb : Array Value) (b : Nat) (DS : List (Fin b)), e = .returned (.func (.func gf) #[] lb) ∧ b ≤ B32 ∧ (∀ args w, (callFunc gf args).run Try.prog w = .ok (.enter gf args) w) ∧ vals DS = wantOf ys base ∧ SeqOf gf lb b DS w' ∧ Below w.heap.size w w'

theorem digits_u (a : Value) (ys : List Nat) (base : Nat) (w : World) (ha : Limbs w a ys) (hlow : Low B32 ys) (hl : ys.length ≤ 200) (hb : base < B32) : Calls Try.prog 67 #[a, .int .u32 (base : Int)] w (DigUPost ys base w) := by
  by_cases h : chk ys = 0 ∧ 2 ≤ base
  · obtain ⟨h0, h2⟩ := h
    have hn := chk_zero hlow h0
    have hN : N32 w a (val B32 ys) := by
      obtain ⟨A, c, e, hc, _, hnum⟩ := ha
      exact ⟨A, c, by rw [← hn]; exact e, by rw [← hn]; exact hc, by rw [← hn]; exact hnum⟩
    have hlen : (dig B32 (val B32 ys)).length ≤ 200 := by rw [← hn]; exact hl
    refine (digits_ok a (val B32 ys) base w hN (by omega) h2).mono ?_
    rintro e w3 ⟨bb, bw, vw, rfl, g1, g2, g3, g4, g5, g6, g7, hb3⟩
    refine ⟨103, _, base, fds base h2 (dig base (val B32 ys)), rfl, Nat.le_of_lt hb, enters_of Try.func103 (by kernel_rfl) rfl, ?_, ?_, hb3⟩
    · rw [vals_fds h2 (low_dig h2 _), wantOf, if_pos ⟨h0, h2⟩]
    · intro F hF hro R n w' hw hR hG
      have := digits_stops F hF hro R n base bb bw (val B32 ys) vw w' h2 hb (by
        have := words_le (n := val B32 ys) (K := 100) hlen
        omega) (Nat.lt_of_lt_of_le g2 hw.size) ((hw.cell (p := ⟨bb, 0, none⟩) g2).trans g5) (Nat.lt_of_lt_of_le g4 hw.size) ((hw.cell (p := ⟨bw, 0, none⟩) g4).trans g6) (g7.is.keep hw) hR hG
      rwa [← fds_len base h2] at this
  · refine (digits_bad a base ys w ha (by
      rcases Nat.lt_or_ge base 2 with h2 | h2
      · exact .inl h2
      · exact .inr fun h0 => h ⟨h0, h2⟩)).mono ?_
    rintro e w3 ⟨rfl, hb3⟩
    refine ⟨102, #[], 2, [], rfl, by unfold B32; omega, enters_of Try.func102 (by kernel_rfl) rfl, ?_, ?_, hb3⟩
    · rw [wantOf, if_neg h]; rfl
    · intro F hF hro R n w' hw hR hG
      exact nothing_stops F hF hro R n 2 w' _
end Go.Proofs.Ytaegkhdkhgemmaa

/- A loop over a sequence that collects what comes in a slice of its own. -/
namespace Go.Proofs.Ytaegkhdkhgemmaa
open Go.RowKit Num

/-- The box, and the block of what it holds. -/
def RColl (Bg : Nat) (W : World) (k : Nat) : Prop := k = Bg ∨ ∃ v, W.cell? ⟨Bg, 0, none⟩ = some v ∧ v.ownBlock = some k
theorem rcoll_rb {Bg n : Nat} (h : Bg < n) : RB (RColl Bg) n := by
  rintro A B k hb (rfl | ⟨v, hv, ho⟩)
  · exact .inl rfl
  · exact .inr ⟨v, by rw [← hv]; exact (World.cell?_of_block (hb.block Bg h)).symm, ho⟩
theorem ownBlock_lt {W : World} {n₀ e size : Nat} {v : Value} {k g : Nat} {xs : List Value} (h : W.ownsRow n₀ e size v k xs) (hg : v.ownBlock = some g) : g < W.heap.size ∧ n₀ ≤ g ∧ ∃ cur, W.heap[g]? = some (.cells cur e (0, 0)) := by
  rcases h.2 with ⟨rfl, _⟩ | ⟨g2, cap, cur, rfl, h2, hh, _⟩
  · cases hg
  · simp only [Value.ownBlock, Option.some.injEq] at hg
    subst hg
    exact ⟨(Array.getElem?_eq_some_iff.1 hh).1, h2, cur, hh⟩
theorem rcoll_good {W : World} {Bg t n₀ e size k : Nat} {v : Value} {xs : List Value} (hv : Boxed W Bg t v) (hrow : W.ownsRow n₀ e size v k xs) : Good (RColl Bg) W := by
  rintro k (rfl | ⟨u, hu, ho⟩)
  · exact hv.lt
  · rw [hv.cell] at hu
    injection hu with hu
    subst hu
    exact (ownBlock_lt hrow ho).1
theorem ownsRow_grown {W W1 : World} {n₀ e size k : Nat} {v : Value} {xs : List Value} {row : Option Nat} (h : W.ownsRow n₀ e size v k xs) (hg : W.grownBy W1 row) (hr : ∀ r, row = some r → ∃ o : Obj, W.heap[r]? = some o ∧ o.isCells = false) : W1.ownsRow n₀ e size v k xs := by
  refine ⟨h.1, ?_⟩
  rcases h.2 with h | ⟨g, cap, cur, e1, h2, hh, r⟩
  · exact .inl h
  · refine .inr ⟨g, cap, cur, e1, h2, (hg.block g (Array.getElem?_eq_some_iff.1 hh).1 (fun e' => ?_)).trans hh, r⟩
    obtain ⟨o, ho, hc⟩ := hr g e'.symm
    rw [hh] at ho; cases ho; cases hc
/-- Behind an append and the store of what it gave. -/
theorem collected {W w1 : World} {n₀ Bg t e size k m : Nat} {v v' : Value} {xs ys : List Value} {tmp : Obj} (hv : Boxed W Bg t v) (hrow : W.ownsRow n₀ e size v k xs)
    (hown' : w1.ownsRow n₀ e size v' m ys) (hgrow : (W.alloc tmp).grownBy w1 v.ownBlock) (hat : v'.ownBlock = v.ownBlock ∨ v'.ownBlock = some (W.alloc tmp).heap.size) (hte : t ≠ e) : KpS (RColl Bg) W (w1.setCell ⟨Bg, 0, none⟩ v') := by
  have hs : W.heap.size ≤ w1.heap.size := Nat.le_trans (by simp) hgrow.size
  have hv1 : Boxed w1 Bg t v := (hv.alloc tmp).kept hgrow (hv.not_row hte hrow)
  refine ⟨by simpa using hs, fun _ => ⟨fun k o hk _ hn => ?_, fun k hk => ?_⟩⟩
  · have hkl := (Array.getElem?_eq_some_iff.1 hk).1
    have h1 : k ≠ Bg := fun h => hn (.inl h)
    have h2 : some k ≠ v.ownBlock := fun h => hn (.inr ⟨v, hv.cell, h.symm⟩)
    rw [Below.heap_setCell _ _ _ _ h1, hgrow.block k (by simp; omega) h2]
    exact ((Below.refl W.heap.size W).alloc (Nat.le_refl _) tmp).block k hkl |>.trans hk
  · rcases hk with rfl | ⟨u, hu, ho⟩
    · exact ⟨by simp; exact hv1.lt, .inl (.inl rfl)⟩
    · rw [(hv1.set v').cell] at hu
      injection hu with hu
      subst hu
      have hlt := (ownBlock_lt hown' ho).1
      refine ⟨by simpa using hlt, ?_⟩
      rcases hat with h | h
      · exact .inl (.inr ⟨v, hv.cell, by rw [← h]; exact ho⟩)
      · rw [h] at ho
        injection ho with ho
        simp at ho
        exact .inr (by omega)
end Go.Proofs.Ytaegkhdkhgemmaa

/- Out of a function with three loops over sequences. -/
namespace Go.Proofs.Ytaegkhdkhgemmaa
open Go.RowKit Go.Shelf

theorem leave3 {F : Fence} {n : Nat} {w W : World} {D0 D1 D2 R : Nat} {T : Array Value} (hb : Below w.heap.size w W) (hK2 : W.heap[D2]? = some (.deferred (some []))) (hK1 : W.heap[D1]? = some (.deferred (some []))) (hK0 : W.heap[D0]? = some (.deferred (some [])))
    (h01 : D0 ≠ D1) (h02 : D0 ≠ D2) (h12 : D1 ≠ D2) (h0 : w.heap.size ≤ D0) (h1 : w.heap.size ≤ D1) (h2 : w.heap.size ≤ D2) (hc : W.cell? ⟨R, 0, none⟩ = some (.bool true)) (hT : T.getD 6 undef = .pointer (some ⟨R, 0, none⟩)) :
    bodyPostM F n Try.prog Try.f13 (LivesPost w) Exit.ret { tmps := T, defers := [{ target := .collected D2, args := #[] }, { target := .collected D1, args := #[] }, { target := .collected D0, args := #[] }] } W := by
  have e1 : (W.putObj D2 (.deferred none)).heap[D1]? = some (.deferred (some [])) := (World.putObj_heap_other h12).trans hK1
  have e0 : ((W.putObj D2 (.deferred none)).putObj D1 (.deferred none)).heap[D0]? = some (.deferred (some [])) := (World.putObj_heap_other h01).trans ((World.putObj_heap_other h02).trans hK0)
  have c1 := cell_kept hc (grownBy_putObj' W D2 (.deferred none)) (fun r e => by cases e; exact ⟨_, hK2, rfl⟩)
  have c2 := cell_kept c1 (grownBy_putObj' _ D1 (.deferred none)) (fun r e => by cases e; exact ⟨_, e1, rfl⟩)
  have c3 := cell_kept c2 (grownBy_putObj' _ D0 (.deferred none)) (fun r e => by cases e; exact ⟨_, e0, rfl⟩)
  have b1 := hb.trans (belowK_b (w := w) (Nat.le_refl _) W D2 _ (.deferred none) h2 hK2 rfl rfl)
  have b2 := b1.trans (belowK_b (w := w) (Nat.le_refl _) _ D1 _ (.deferred none) h1 e1 rfl rfl)
  have b3 := b2.trans (belowK_b (w := w) (Nat.le_refl _) _ D0 _ (.deferred none) h0 e0 rfl rfl)
  refine ⟨by simp, .inl ⟨_, _, rfl, run_takeDeferred hK2, ?_⟩⟩
  refine ⟨by simp, .inl ⟨_, _, rfl, run_takeDeferred e1, ?_⟩⟩
  refine ⟨by simp, .inl ⟨_, _, rfl, run_takeDeferred e0, ?_⟩⟩
  refine ⟨.bool true, ?_, rfl, b3⟩
  simp only [Array.getD_eq_getD_getElem?] at hT
  simp [results, Try.f13, go_sem, c3, hT]
end Go.Proofs.Ytaegkhdkhgemmaa

/- The law NatDigits. -/
namespace Go.Proofs.Ytaegkhdkhgemmaa
open Go.RowKit Go.Shelf Num
attribute [local go_sem] Oper.semAt_some

theorem eqlFn (f : Fn) (a b : Array Value) (w : World) : (binOp .eql 69 (.func f a b) .nilFunc).run Try.prog w = .ok (.bool false) w := by kernel_rfl

/-- The three boxes. -/
def Bx (G B8 : Nat) (k : Nat) : Prop := k = G ∨ k = G + 1 ∨ k = B8
/-- Behind the reference's digits: the limbs in slot 7, the box of what is wanted. -/
def St1 (w wr : World) (G B8 : Nat) (ys want : List Nat) (most : Int) (v7 : Value) : Prop :=
  (∃ A c, v7 = .slice A ys.length c) ∧ LX (Bx G B8) wr v7 ys ∧ (∃ A L c, Boxed wr B8 22 (.slice A L c) ∧ LX (Bx G B8) wr (.slice A L c) want) ∧ G < B8 ∧ G + 1 < B8 ∧ Boxed wr G 3 (.int .i64 most) ∧ Boxed wr (G + 1) 4 (.bool false) ∧ w.heap.size ≤ G ∧ Below w.heap.size w wr

/-- Between two rounds that collect: the box of what has come. -/
def CI (b Bg n₀ : Nat) (w : World) (pre : List (Fin b)) (W : World) : Prop := (∃ v, Boxed W Bg 22 v ∧ W.ownsRow n₀ 56 1 v pre.length (ints .u32 (vals pre))) ∧ Below n₀ w W
theorem ci_own {b Bg n₀ n : Nat} {w : World} (hn : n₀ ≤ n) (hw : n₀ ≤ w.heap.size) : OwnFrom n (CI b Bg n₀ w) := by
  rintro pre X Y row ⟨⟨v, h1, h2⟩, h3⟩ hg hr
  have hr' : ∀ r, row = some r → ∃ o : Obj, X.heap[r]? = some o ∧ o.isCells = false := fun r e => (hr r e).2
  exact ⟨⟨v, boxed_grown h1 hg hr', ownsRow_grown h2 hg hr'⟩, below_grown h3 hg (Nat.le_trans hw h3.size) (fun r e => Nat.le_trans hn (hr r e).1)⟩
theorem ci_start (b : Nat) (Wj : World) : CI b (Wj.heap.size + 1) Wj.heap.size Wj ([] : List (Fin b)) ((Wj.alloc (.cells #[] 56)).alloc (.cells #[.slice (some ⟨Wj.heap.size, 0, none⟩) 0 0] 22)) := by
  have hbx := Boxed.new (Wj.alloc (.cells #[] 56)) 22 (.slice (some ⟨Wj.heap.size, 0, none⟩) 0 0)
  rw [World.size_alloc] at hbx
  exact ⟨⟨_, hbx, (own_empty Wj 56).alloc _⟩, ((Below.refl _ _).alloc (Nat.le_refl _) _).alloc (by simp) _⟩

/-- Between two rounds of the last loop: how many have come, and that they are those wanted. -/
def FI (b Bf : Nat) (want : List Nat) (w : World) (pre : List (Fin b)) (W : World) : Prop := Boxed W Bf 3 (.int .i64 (pre.length : Int)) ∧ vals pre = want.take pre.length ∧ Below Bf w W
def FX (b Bf : Nat) (want : List Nat) (M : Int) (w : World) (c : Code) (pre : List (Fin b)) (W : World) : Prop :=
  (c = .ret ∧ ¬ (vals pre <+: want)) ∨ (c = .exit 4 ∧ Boxed W Bf 3 (.int .i64 (pre.length : Int)) ∧ M ≤ (pre.length : Int) ∧ Below Bf w W)
theorem fi_own {b Bf n : Nat} {want : List Nat} {w : World} (hn : Bf ≤ n) (hw : Bf ≤ w.heap.size) : OwnFrom n (FI b Bf want w) := by
  rintro pre X Y row ⟨h1, h2, h3⟩ hg hr
  exact ⟨boxed_grown h1 hg (fun r e => (hr r e).2), h2, below_grown h3 hg (Nat.le_trans hw h3.size) (fun r e => Nat.le_trans hn (hr r e).1)⟩
theorem fx_own {b Bf n : Nat} {want : List Nat} {M : Int} {w : World} {c : Code} (hn : Bf ≤ n) (hw : Bf ≤ w.heap.size) : OwnFrom n (FX b Bf want M w c) := by
  rintro pre X Y row (h | ⟨h0, h1, h2, h3⟩) hg hr
  · exact .inl h
  · exact .inr ⟨h0, boxed_grown h1 hg (fun r e => (hr r e).2), h2, below_grown h3 hg (Nat.le_trans hw h3.size) (fun r e => Nat.le_trans hn (hr r e).1)⟩

theorem rounds_last {F : Fence} {n : Nat} {P : Program} {c : Code} {Q : Exit → Act → World → Prop} {a : Act} {w : World} (h : ∀ KR : Act → World → Prop, c.wpIn F n P (Exit.then KR Q) a w) : Code.roundsIn F n P c Q 1 a w := h _

set_option maxHeartbeats 4000000 in
set_option maxRecDepth 100000 in
theorem digits_walk (A : Option Addr) (c L base : Nat) (most : Int) (xs : List Nat) (w : World) (hA : Nums .u32 w A xs) (hx : Low B32 xs) (hL : L = xs.length) (hc : L ≤ c) (hnil : A = none → c = 0) (hbase : base < B32) (hm1 : -9223372036854775808 ≤ most) (hm2 : most ≤ 9223372036854775807) :
    Calls Try.prog 13 #[.slice A L c, .int .u32 (base : Int), .int .i64 most] w (LivesPost w) := by
  refine (callsIn_wide (n := 6)).1 ?_
  have hF : Free Fence.wide Try.prog := free_wide
  have hfn := hF.fn
  have hdd := hF.room
  have hcut := fun w' (h : Below w.heap.size w w') => cut_any A c L 6 xs w' (hA.keep h) hL hc hnil (by omega)
  have hlow := hx.take 6
  have hlen : (xs.take 6).length ≤ 6 := by rw [List.length_take]; omega
  generalize xs.take 6 = ys at *
  have hef := eqlFn
  have hwant : (wantOf ys base).length ≤ 192 := by
    unfold wantOf
    split
    · rename_i h
      have := len_base h.2 (K := 6) (n := val B32 ys) (by rw [← chk_zero hlow h.1]; exact hlen)
      omega
    · simp
  have HCUT := Lib.hid hcut
  clear hcut hA hx hL hnil
  have hb0 : Below w.heap.size w ((w.alloc (.cells #[.int .i64 most] 3)).alloc (.cells #[.bool false] 4)) := ((Below.refl _ _).alloc (Nat.le_refl _) _).alloc (by simp) _
  generalize hFd : Fence.wide = F at *
  have hro : F.round = none := by rw [← hFd]; rfl
  clear hFd
  refine callsIn_of_wp_marks Try.func13 rfl (hfn _) ?_ hro
  simp only [Try.ntmps13, List.size_toArray, List.length_cons, List.length_nil, Nat.reduceAdd, Nat.reduceSub, Array.replicate_succ, Array.replicate_zero, List.push_toArray, List.append_toArray, List.nil_append, List.cons_append]
  gi_upto_region 3 with ((try refine ⟨hdd _, ?_⟩); gi_at_call 26; refine (hF.calls _ _ _ _ _ (HCUT.out _ hb0)).mono ?_; rintro e w1 ⟨v1, rfl, hv1, hb1⟩)
  have hs1 : w.heap.size + 2 ≤ w1.heap.size := by have := hb1.size; simp at this; omega
  have hst1 : St1 w ((w1.alloc (.cells #[] 56)).alloc (.cells #[.slice (some ⟨w1.heap.size, 0, none⟩) 0 0] 22)) w.heap.size (w1.heap.size + 1) ys [] most v1 := by
    have hg : Boxed w1 w.heap.size 3 (.int .i64 most) := (hb1.block w.heap.size (by simp; omega)).trans ((Boxed.new w 3 (.int .i64 most)).alloc _)
    have hr : Boxed w1 (w.heap.size + 1) 4 (.bool false) := (hb1.block (w.heap.size + 1) (by simp)).trans (by have e0 := Boxed.new (w.alloc (.cells #[.int .i64 most] 3)) 4 (.bool false); rw [World.size_alloc] at e0; exact e0)
    have hbx := Boxed.new (w1.alloc (.cells #[] 56)) 22 (.slice (some ⟨w1.heap.size, 0, none⟩) 0 0)
    rw [World.size_alloc] at hbx
    have hB2 : Below w1.heap.size w1 ((w1.alloc (.cells #[] 56)).alloc (.cells #[.slice (some ⟨w1.heap.size, 0, none⟩) 0 0] 22)) := ((Below.refl _ _).alloc (Nat.le_refl _) _).alloc (by simp) _
    have hl7 : LX (Bx w.heap.size (w1.heap.size + 1)) w1 v1 ys := (LX.of_own (E := fun k => k = w.heap.size ∨ k = w.heap.size + 1) hv1 (by rintro k (rfl | rfl) <;> simp <;> omega)).mono (by rintro k hk (rfl | rfl | rfl); exact .inl rfl; exact .inr rfl; omega)
    obtain ⟨A', c', e, _⟩ := own_reads hv1
    exact ⟨⟨A', c', e⟩, hl7.below hB2, ⟨_, _, _, hbx, lx_nil _ _⟩, by omega, by omega, (hg.alloc _).alloc _, (hr.alloc _).alloc _, Nat.le_refl _, below_at (below_at hb0 (Nat.le_refl _) hb1) (Nat.le_refl _) hB2⟩
  obtain ⟨W1, hW1⟩ : ∃ W1, (w1.alloc (.cells #[] 56)).alloc (.cells #[.slice (some ⟨w1.heap.size, 0, none⟩) 0 0] 22) = W1 := ⟨_, rfl⟩
  rw [hW1] at hst1 ⊢
  obtain ⟨B8, hB8⟩ : ∃ B8, w1.heap.size + 1 = B8 := ⟨_, rfl⟩
  rw [hB8] at hst1 ⊢
  obtain ⟨⟨A7, c7, rfl⟩, _⟩ := id hst1
  generalize hG : w.heap.size = G at *
  clear hv1 hb1 hs1 hW1 hB8 HCUT hb0
  have hck := fun W' (h : LX (Bx G B8) W' (.slice A7 ys.length c7) ys) => refCheck_l (.slice A7 ys.length c7) ys W' (h.limbs (by omega))
  have hrd := fun W' (h : LX (Bx G B8) W' (.slice A7 ys.length c7) ys) (hg : chk ys = 0 ∧ 2 ≤ base) => refDigits_any (.slice A7 ys.length c7) base (val B32 ys) W' (by
      have hn := chk_zero hlow hg.1
      obtain ⟨A, c, e, hc, _, hnum⟩ := h.limbs (by omega)
      exact ⟨A, c, by rw [← hn]; exact e, by rw [← hn]; exact hc, by rw [← hn]; exact hnum⟩) (by rw [← chk_zero hlow hg.1]; omega) hg.2 hbase (by
      have := len_base hg.2 (K := 6) (n := val B32 ys) (by rw [← chk_zero hlow hg.1]; exact hlen)
      omega)
  have HCK := Lib.hid hck
  have HRD := Lib.hid hrd
  clear hck hrd
  gi_cut [24] from 15 (fun s wr => s = .bool (decide (chk ys = 0 ∧ 2 ≤ base)) ∧ St1 w wr G B8 ys [] most (.slice A7 ys.length c7))
  case first =>
    have hlim := hst1.2.1
    by_cases h0 : chk ys = 0
    · have hq : (chk ys == 0) = true := by simp [h0]
      have hdc : decide (chk ys = 0 ∧ 2 ≤ base) = decide ((2 : Int) ≤ (base : Int)) := by simp [h0]; omega
      clear h0
      gi_wp2_with ((try refine ⟨hdd _, ?_⟩); gi_at_call 27; refine (hF.calls _ _ _ _ _ (HCK.out _ hlim)).mono ?_; rintro e w2 ⟨rfl, rfl⟩)
      gi_meet
      case rel => exact ⟨by rw [hdc], hst1⟩
    · have hq : (chk ys == 0) = false := by simp [h0]
      have hdc : decide (chk ys = 0 ∧ 2 ≤ base) = false := by simp [h0]
      clear h0
      gi_wp2_with ((try refine ⟨hdd _, ?_⟩); gi_at_call 27; refine (hF.calls _ _ _ _ _ (HCK.out _ hlim)).mono ?_; rintro e w2 ⟨rfl, rfl⟩)
      gi_meet
      case rel => exact ⟨by rw [hdc], hst1⟩
  case rest =>
    clear hst1
    obtain ⟨rfl, hst⟩ := hcut
    generalize hyd : decide (chk ys = 0 ∧ 2 ≤ base) = y at *
    gi_upto_if 24 with (fail)
    gi_cut [] from 15 (fun wr => St1 w wr G B8 ys (wantOf ys base) most (.slice A7 ys.length c7))
    case first =>
      obtain ⟨_, hl7, ⟨Aw, Lw, cw, hbw, hlw⟩, hG8, hG8', hbg, hbr, hGw, hbl⟩ := id hst
      cases y with
      | true =>
        have hg : chk ys = 0 ∧ 2 ≤ base := of_decide_eq_true hyd
        clear hyd
        have hrr := HRD.out wc hl7 hg
        have hwt : wantOf ys base = dig base (val B32 ys) := by rw [wantOf, if_pos hg]
        have HWT := Lib.hid hwt
        have HR := Lib.hid hrr
        have kw := hbw.cell
        clear hwt hrr hg
        gi_wp2_with ((try refine ⟨hdd _, ?_⟩); gi_at_call 66; refine (hF.calls _ _ _ _ _ HR.out).mono ?_; rintro e w2 ⟨v2, rfl, hv2, hb2⟩
                     obtain ⟨A2, c2, rfl⟩ : ∃ A2 c2, v2 = .slice A2 (dig base (val B32 ys)).length c2 := (by obtain ⟨A, c, e, _⟩ := own_reads hv2; exact ⟨A, c, e⟩)
                     have hbw2 : Boxed w2 B8 22 (.slice Aw Lw cw) := (hb2.block B8 hbw.lt).trans hbw
                     have kw2 := hbw2.cell
                     have fw2 := hbw2.frozen)
        gi_meet
        case rel =>
          have t2 : TB B8 1 wc (w2.setCell ⟨B8, 0, none⟩ (.slice A2 (dig base (val B32 ys)).length c2)) := (TB.below hb2).trans (TB.set w2 (Nat.le_refl _) (by omega) 0 _)
          refine ⟨⟨_, _, rfl⟩, ?_, ⟨_, _, _, hbw2.set _, ?_⟩, hG8, hG8', t2.boxed hbg (.inl hG8), t2.boxed hbr (.inl (by omega)), hGw, t2.belowAt hbl (by omega) hbl.size⟩
          · exact (hl7.below hb2).set (.inr (.inr rfl)) 0 _
          · rw [HWT.out]
            exact (LX.of_own hv2 (by rintro k (rfl | rfl | rfl); exact hbg.lt; exact hbr.lt; exact hbw.lt)).set (.inr (.inr rfl)) 0 _
      | false =>
        have hg : ¬ (chk ys = 0 ∧ 2 ≤ base) := of_decide_eq_false hyd
        clear hyd
        have hwt : wantOf ys base = [] := by rw [wantOf, if_neg hg]
        have HWT := Lib.hid hwt
        clear hwt hg
        gi_wp2
        gi_meet
        case rel => rw [HWT.out]; exact hst
    case rest =>
      clear hst hyd HCK HRD
      clear y
      gi_upto_region 5 with (fail)
      gi_cut [33] from 15 (fun s wr => (∃ y : Bool, s = .bool y) ∧ St1 w wr G B8 ys (wantOf ys base) most (.slice A7 ys.length c7))
      case first =>
        obtain ⟨_, hl7, ⟨Aw, Lw, cw, hbw, hlw⟩, hG8, hG8', hbg, hbr, hGw, hbl⟩ := id hcut
        have kg := hbg.cell
        clear hl7 hlw
        gi_wp2
        all_goals (gi_meet)
        all_goals exact ⟨⟨_, rfl⟩, hcut⟩
      case rest =>
        obtain ⟨⟨y, rfl⟩, hst⟩ := hcut
        gi_upto_if 33 with (fail)
        gi_cut [] from 15 (fun wr => ∃ M, St1 w wr G B8 ys (wantOf ys base) M (.slice A7 ys.length c7))
        case first =>
          obtain ⟨_, hl7, ⟨Aw, Lw, cw, hbw, hlw⟩, hG8, hG8', hbg, hbr, hGw, hbl⟩ := id hst
          have kg := hbg.cell
          have fg := hbg.frozen
          have hlt := hbg.lt
          cases y with
          | true =>
            gi_wp2
            gi_meet
            case rel =>
              exact ⟨_, ⟨_, _, rfl⟩, hl7.set (.inl rfl) 0 _, ⟨_, _, _, hbw.other (by omega) _, hlw.set (.inl rfl) 0 _⟩, hG8, hG8', hbg.set _, hbr.other (by omega) _, hGw, hbl.setCell (p := ⟨G, 0, none⟩) hGw _⟩
          | false =>
            gi_wp2
            gi_meet
            case rel => exact ⟨_, hst⟩
        case rest =>
          clear hst hm1 hm2
          clear y
          obtain ⟨M, hst⟩ := hcut
          obtain ⟨_, hl7, ⟨Aw, Lw, cw, hbw, hlw⟩, hG8, hG8', hbg, hbr, hGw, hbl⟩ := hst
          have hdg := digits_u (.slice A7 ys.length c7) ys base wc (hl7.limbs (by omega)) hlow (by omega) hbase
          have HDG := Lib.hid hdg
          clear hdg
          gi_wp2_with ((try refine ⟨hdd _, ?_⟩); gi_at_call 67; refine (hF.calls _ _ _ _ _ HDG.out).mono ?_; rintro e W2 ⟨gf, lb, b, DS, rfl, hbB, hen, hvd, hseq, hb2⟩)
          have hDl : DS.length ≤ 192 := by rw [← vals_len, hvd]; exact hwant
          obtain ⟨i0, hi, hz0, hz1, hz2⟩ := info_parts info56
          clear HDG
          refine wpIn_loop_rounds 3 ?_
          rw [roundsIn_succ]
          have hBj0 : Below W2.heap.size W2 W2 := Below.refl _ _
          obtain ⟨Wj0, hWj0⟩ : ∃ Wj, W2 = Wj := ⟨_, rfl⟩
          rw [show Code.wpIn F 6 Try.prog _ _ _ W2 = Code.wpIn F 6 Try.prog _ _ _ Wj0 by rw [hWj0]]
          have hBj0 : Below W2.heap.size W2 Wj0 := by rw [← hWj0]; exact Below.refl _ _
          clear hWj0
          -- ROUND 0
          gi_wp2
          obtain ⟨Ws0, hWs0⟩ : ∃ Ws, (Wj0.alloc (.cells #[] 56)).alloc (.cells #[.slice (some ⟨Wj0.heap.size, 0, none⟩) 0 0] 22) = Ws := ⟨_, rfl⟩
          have hci0 := ci_start b Wj0
          rw [hWs0] at hci0 ⊢
          obtain ⟨n0, hn0⟩ : ∃ n, Wj0.heap.size = n := ⟨_, rfl⟩
          rw [hn0] at hci0 ⊢
          have hsz0 : n0 + 2 ≤ Ws0.heap.size := by rw [← hWs0, ← hn0]; simp
          have hjs0 : Below W2.heap.size W2 Ws0 := hBj0.trans ⟨hci0.2.os, hci0.2.tape, hci0.2.output, hci0.2.size, fun k hk => hci0.2.block k (by have := hBj0.size; omega)⟩
          have hgood0 : Good (RColl (n0 + 1)) Ws0 := by obtain ⟨⟨v, h1, h2⟩, _⟩ := hci0; exact rcoll_good h1 h2
          have hrb0 : RB (RColl (n0 + 1)) Ws0.heap.size := rcoll_rb (by omega)
          refine wpIn_rangeFunc_ownG hro (by omega) (gf := gf) (lb := lb) rfl (hfn _) hen (hseq F hF hro _ 5 Ws0 hjs0 hrb0 hgood0) kpS_t (kpS_b hrb0 (Nat.le_refl _)) (Below.refl _ _) (fun _ => rfl)
            (CI b (n0 + 1) n0 Wj0) (fun _ _ _ => False) (ci_own (by omega) (by omega)) (fun _ _ _ _ _ hs _ _ => hs) hci0 ?a1 ?assign ?body ?done ?stop
          case assign =>
            intro l x W K hK
            gi_wp2
            exact hK
          case body =>
            rintro l pre x W ⟨⟨v, h1, h2⟩, h3⟩ hlen
            have k1 := h1.cell
            have f1 := h1.frozen
            have hfi := (hF.inRound l).fn
            have hdi := (hF.inRound l).room
            have hnW : n0 ≤ W.heap.size := by have := h1.lt; omega
            have h200 : ¬ (200 : Int) < (pre.length : Int) + 1 := by omega
            have h200' : ¬ 200 < pre.length + 1 := by omega
            have H2 := Lib.hid h2
            have H1 := Lib.hid h1
            have H3 := Lib.hid h3
            clear h2 h3 hgood0 hci0 hjs0 hrb0
            gi_wp2_with (gi_at_builtin
                         refine wpListIn_append_own_at _ rfl _ _ 22 rfl n0 56 i0 (.int .u32 0) 1 4 Try.underlying22 hi hz0 hz1 hz2 rfl (by decide) _ pre.length _ rfl (H2.out.alloc _) ⟨W.heap.size, 0, none⟩ 1 1 [.int .u32 ((x.val : Nat) : Int)] rfl rfl (cell_one_new _ _ _) (ints_one .u32 [x.val]) (by unfold maxLen; omega) (by omega) (by simp; omega) ?_
                         intro v' w8 hown8 hgr8 _ hat8
                         obtain ⟨g8, cap8, rfl⟩ := ownsRow_succ hown8
                         obtain ⟨a1, a2, a3, a4, a5⟩ := H1.out.appended (by decide) H2.out hnW (by omega) hown8 hgr8
                         have a1c := a1.cell
                         have a1f := a1.frozen
                         have A3 := Lib.hid a3
                         have A6 := Lib.hid (collected H1.out H2.out hown8 hgr8 hat8 (by decide))
                         clear a3 hown8 hgr8 hat8)
            refine ⟨a4.from _, A6.out, ⟨_, a2, ?_⟩, H3.out.trans a5⟩
            have := A3.out
            rw [vals_snoc, List.length_append, List.length_singleton]
            simpa [ints] using this
          case stop =>
            rintro D c pre W hD _ h _
            exact h.elim
          case done =>
            rintro D0 ys' W hD0 hDS hci hK
            rw [hDS] at hci
            clear hDS
            obtain ⟨⟨v, h1, h2⟩, h3⟩ := hci
            have k1 := h1.cell
            have hlv : (vals DS).length = DS.length := vals_len DS
            have hlim : Limbs W v (vals DS) := by
              obtain ⟨A', c', e', hc', hn'⟩ := own_reads (xs := vals DS) (by rw [hlv]; exact h2)
              exact ⟨A', c', e', hc', by omega, hn'⟩
            have hBW : Below W2.heap.size W2 W := hBj0.trans ⟨h3.os, h3.tape, h3.output, h3.size, fun k hk => h3.block k (by have := hBj0.size; omega)⟩
            have hlw2 := (hlw.below hb2).below hBW
            have hbw2 : Boxed W B8 22 (.slice Aw Lw cw) := (hBW.block B8 (by have := hb2.size; have := hbw.lt; omega)).trans ((hb2.block B8 hbw.lt).trans hbw)
            have k8 := hbw2.cell
            have hsm := same_nums v (.slice Aw Lw cw) (vals DS) (wantOf ys base) W hlim (hlw2.limbs (by omega))
            rw [decide_eq_true hvd] at hsm
            have HSM := Lib.hid hsm
            have H2 := Lib.hid h2
            have H3 := Lib.hid h3
            clear hsm h2 h3 hlim hlw2 hgood0 hci0 hjs0 hrb0
            gi_wp2_with ((try refine ⟨hdd _, ?_⟩); gi_at_call 32; refine (hF.calls _ _ _ _ _ HSM.out).mono ?_; rintro e Wj1 ⟨rfl, hbx⟩)
            have hBj1 : Below W2.heap.size W2 Wj1 := below_at hBW (Nat.le_refl _) hbx
            have hK0 := (hbx.block D0 (Array.getElem?_eq_some_iff.1 hK).1).trans hK
            have hD0' : w.heap.size ≤ D0 := by have := hBj0.size; have := hb2.size; have := hbl.size; omega
            have HK0 := Lib.hid hK0
            clear hK hK0 H2 H3 HSM h1 k1 k8 hbw2 hbx hBW hWs0
            rw [roundsIn_succ]
            -- ROUND 1
            gi_wp2
            obtain ⟨Ws1, hWs1⟩ : ∃ Ws, (Wj1.alloc (.cells #[] 56)).alloc (.cells #[.slice (some ⟨Wj1.heap.size, 0, none⟩) 0 0] 22) = Ws := ⟨_, rfl⟩
            have hci1 := ci_start b Wj1
            rw [hWs1] at hci1 ⊢
            obtain ⟨n1, hn1⟩ : ∃ n, Wj1.heap.size = n := ⟨_, rfl⟩
            rw [hn1] at hci1 ⊢
            have hsz1 : n1 + 2 ≤ Ws1.heap.size := by rw [← hWs1, ← hn1]; simp
            have hjs1 : Below W2.heap.size W2 Ws1 := hBj1.trans ⟨hci1.2.os, hci1.2.tape, hci1.2.output, hci1.2.size, fun k hk => hci1.2.block k (by have := hBj1.size; omega)⟩
            have hgood1 : Good (RColl (n1 + 1)) Ws1 := by obtain ⟨⟨v, h1, h2⟩, _⟩ := hci1; exact rcoll_good h1 h2
            have hrb1 : RB (RColl (n1 + 1)) Ws1.heap.size := rcoll_rb (by omega)
            refine wpIn_rangeFunc_ownG hro (by omega) (gf := gf) (lb := lb) rfl (hfn _) hen (hseq F hF hro _ 5 Ws1 hjs1 hrb1 hgood1) kpS_t (kpS_b hrb1 (Nat.le_refl _)) (Below.refl _ _) (fun _ => rfl)
              (CI b (n1 + 1) n1 Wj1) (fun _ _ _ => False) (ci_own (by omega) (by omega)) (fun _ _ _ _ _ hs _ _ => hs) hci1 ?a1b ?assignb ?bodyb ?doneb ?stopb
            case assignb =>
              intro l x W K hK
              gi_wp2
              exact hK
            case bodyb =>
              rintro l pre x W ⟨⟨v, h1, h2⟩, h3⟩ hlen
              have k1 := h1.cell
              have f1 := h1.frozen
              have hfi := (hF.inRound l).fn
              have hdi := (hF.inRound l).room
              have hnW : n1 ≤ W.heap.size := by have := h1.lt; omega
              have h200 : ¬ (200 : Int) < (pre.length : Int) + 1 := by omega
              have h200' : ¬ 200 < pre.length + 1 := by omega
              have H2 := Lib.hid h2
              have H1 := Lib.hid h1
              have H3 := Lib.hid h3
              clear h2 h3 hgood1 hci1 hjs1 hrb1
              gi_wp2_with (gi_at_builtin
                           refine wpListIn_append_own_at _ rfl _ _ 22 rfl n1 56 i0 (.int .u32 0) 1 4 Try.underlying22 hi hz0 hz1 hz2 rfl (by decide) _ pre.length _ rfl (H2.out.alloc _) ⟨W.heap.size, 0, none⟩ 1 1 [.int .u32 ((x.val : Nat) : Int)] rfl rfl (cell_one_new _ _ _) (ints_one .u32 [x.val]) (by unfold maxLen; omega) (by omega) (by simp; omega) ?_
                           intro v' w8 hown8 hgr8 _ hat8
                           obtain ⟨g8, cap8, rfl⟩ := ownsRow_succ hown8
                           obtain ⟨a1, a2, a3, a4, a5⟩ := H1.out.appended (by decide) H2.out hnW (by omega) hown8 hgr8
                           have a1c := a1.cell
                           have a1f := a1.frozen
                           have A3 := Lib.hid a3
                           have A6 := Lib.hid (collected H1.out H2.out hown8 hgr8 hat8 (by decide))
                           clear a3 hown8 hgr8 hat8)
              refine ⟨a4.from _, A6.out, ⟨_, a2, ?_⟩, H3.out.trans a5⟩
              have := A3.out
              rw [vals_snoc, List.length_append, List.length_singleton]
              simpa [ints] using this
            case stopb =>
              rintro D c pre W hD _ h _
              exact h.elim
            case doneb =>
              rintro D1 ys' W hD1 hDS hci hK
              rw [hDS] at hci
              clear hDS
              obtain ⟨⟨v, h1, h2⟩, h3⟩ := hci
              have k1 := h1.cell
              have hlv : (vals DS).length = DS.length := vals_len DS
              have hlim : Limbs W v (vals DS) := by
                obtain ⟨A', c', e', hc', hn'⟩ := own_reads (xs := vals DS) (by rw [hlv]; exact h2)
                exact ⟨A', c', e', hc', by omega, hn'⟩
              have hBW : Below W2.heap.size W2 W := hBj1.trans ⟨h3.os, h3.tape, h3.output, h3.size, fun k hk => h3.block k (by have := hBj1.size; omega)⟩
              have hlw2 := (hlw.below hb2).below hBW
              have hbw2 : Boxed W B8 22 (.slice Aw Lw cw) := (hBW.block B8 (by have := hb2.size; have := hbw.lt; omega)).trans ((hb2.block B8 hbw.lt).trans hbw)
              have k8 := hbw2.cell
              have hsm := same_nums v (.slice Aw Lw cw) (vals DS) (wantOf ys base) W hlim (hlw2.limbs (by omega))
              rw [decide_eq_true hvd] at hsm
              have HSM := Lib.hid hsm
              have H2 := Lib.hid h2
              have H3 := Lib.hid h3
              clear hsm h2 h3 hlim hlw2 hgood1 hci1 hjs1 hrb1
              gi_wp2_with ((try refine ⟨hdd _, ?_⟩); gi_at_call 32; refine (hF.calls _ _ _ _ _ HSM.out).mono ?_; rintro e Wj2 ⟨rfl, hbx⟩)
              have hBj2 : Below W2.heap.size W2 Wj2 := below_at hBW (Nat.le_refl _) hbx
              have hK1 := (hbx.block D1 (Array.getElem?_eq_some_iff.1 hK).1).trans hK
              have hD1' : w.heap.size ≤ D1 := by have := hBj1.size; have := hb2.size; have := hbl.size; omega
              have HK0b := Lib.hid ((hbx.block D0 (by have := (Array.getElem?_eq_some_iff.1 HK0.out).1; have := H3.out.size; omega)).trans ((H3.out.block D0 (by have := (Array.getElem?_eq_some_iff.1 HK0.out).1; omega)).trans HK0.out))
              have HK1 := Lib.hid hK1
              clear hK hK1 H2 H3 HSM h1 k1 k8 hbw2 hbx hBW hWs1
              refine rounds_last (fun KR => ?_)
              gi_wp2
              obtain ⟨Bf, hBf⟩ : ∃ Bf, Wj2.heap.size = Bf := ⟨_, rfl⟩
              obtain ⟨Ws3, hWs3⟩ : ∃ Ws, Wj2.alloc (.cells #[.int .i64 0] 3) = Ws := ⟨_, rfl⟩
              have hbx3 : Boxed Ws3 Bf 3 (.int .i64 0) := by rw [← hWs3, ← hBf]; exact Boxed.new Wj2 3 _
              have hbl3 : Below Bf Wj2 Ws3 := by rw [← hWs3, ← hBf]; exact below_new _ _
              have hsz3 : Bf + 1 ≤ Ws3.heap.size := hbx3.lt
              rw [hBf, hWs3]
              have hjs3 : Below W2.heap.size W2 Ws3 := hBj2.trans ⟨hbl3.os, hbl3.tape, hbl3.output, hbl3.size, fun k hk => hbl3.block k (by have := hBj2.size; omega)⟩
              obtain ⟨g7, hg7⟩ : ∃ want, wantOf ys base = want := ⟨_, rfl⟩
              have hWb : W2.heap.size ≤ Bf := by have := hBj2.size; omega
              have hcutB : ∀ W, Below Bf Wj2 W → Below W2.heap.size W2 W := fun W h => hBj2.trans (h.mono hWb)
              rw [hg7] at hvd hlw hwant
              have hlB : G + 1 < Bf ∧ B8 < Bf ∧ w.heap.size ≤ Bf := by have := hbw.lt; have := hb2.size; have := hbr.lt; omega
              have h80 : Boxed Wj2 B8 22 (.slice Aw Lw cw) := (hBj2.block B8 (by have := hb2.size; have := hbw.lt; omega)).trans ((hb2.block B8 hbw.lt).trans hbw)
              have hg0 : Boxed Wj2 G 3 (.int .i64 M) := (hBj2.block G (by have := hb2.size; have := hbg.lt; omega)).trans ((hb2.block G hbg.lt).trans hbg)
              have hr0 : Boxed Wj2 (G + 1) 4 (.bool false) := (hBj2.block (G + 1) (by have := hb2.size; have := hbr.lt; omega)).trans ((hb2.block (G + 1) hbr.lt).trans hbr)
              have hw0 : LX (Bx G B8) Wj2 (.slice Aw Lw cw) g7 := (hlw.below hb2).below hBj2
              have hLw : Lw = g7.length := by obtain ⟨A', c', e, _⟩ := hw0; injection e
              have hDSl : DS.length = g7.length := by rw [← vals_len, hvd]
              have hBw : Below w.heap.size w Wj2 := (below_at hbl (Nat.le_refl _) hb2).trans (hBj2.mono (by have := hb2.size; have := hbl.size; omega))
              clear hlw hbw hbg hbr hb2 hbl
              refine wpIn_rangeFunc_ownG hro (by omega) (gf := gf) (lb := lb) rfl (hfn _) hen (hseq F hF hro (RBox Bf 1) 5 Ws3 hjs3 (rbox_rb _) (fun k hk => by have := hk.2; omega)) kpS_t (kpS_b (rbox_rb _) (Nat.le_refl _)) (Below.refl _ _) (fun _ => rfl)
                (FI b Bf g7 Wj2) (FX b Bf g7 M Wj2) (fi_own (by omega) (by omega)) (fun c => fx_own (by omega) (by omega)) ⟨hbx3, by simp [vals], hbl3⟩ ?a1c ?assignc ?bodyc ?donec ?stopc
              case assignc =>
                intro l x W K hK
                gi_wp2
                exact hK
              case bodyc =>
                rintro l pre x W ⟨h1, h2, h3⟩ hlen
                have kf := h1.cell
                have ff := h1.frozen
                have b8 : Boxed W B8 22 (.slice Aw Lw cw) := (h3.block B8 hlB.2.1).trans h80
                have bg : Boxed W G 3 (.int .i64 M) := (h3.block G (by omega)).trans hg0
                have br : Boxed W (G + 1) 4 (.bool false) := (h3.block (G + 1) hlB.1).trans hr0
                have k8 := b8.cell
                have kg := bg.cell
                have kr := br.cell
                have fr := br.frozen
                have hfi := (hF.inRound l).fn
                have hdi := (hF.inRound l).room
                have hBfW := h1.lt
                have hpl : (pre.length : Int) < (Lw : Int) := by omega
                have hpl' : pre.length < Lw := by omega
                have hl192 : (pre.length : Int) + 1 ≤ 193 := by omega
                obtain ⟨A', c', e', hc', hn'⟩ := id hw0
                injection e' with e1 e2 e3
                subst e1
                obtain ⟨g, off, rfl, hgl, _, hcell⟩ := hn' (by omega)
                obtain ⟨u, hu⟩ : ∃ u, g7[pre.length]? = some u := ⟨g7[pre.length]'(by omega), List.getElem?_eq_getElem _⟩
                have hcu : W.cell? ⟨g, off + pre.length, none⟩ = some (.int .u32 (u : Int)) := (h3.cell (p := ⟨g, off + pre.length, none⟩) (by show g < Bf; omega)).trans (hcell _ _ hu)
                have hsn : vals (pre ++ [x]) = vals pre ++ [x.val] := vals_snoc pre x
                have hlp : (pre ++ [x]).length = pre.length + 1 := by simp
                have HU := Lib.hid hu
                have HSN := Lib.hid hsn
                have HLP := Lib.hid hlp
                have H2 := Lib.hid h2
                have H3 := Lib.hid h3
                have HW0 := Lib.hid hw0
                have HLw := Lib.hid hLw
                have HDSl := Lib.hid hDSl
                clear hu hsn hlp h2 h3 hw0 hn' hcell hDSl hLw e2 e3 hc' hvd hjs3 hbl3 hbx3 hg0 hr0 h80 hBw hcutB hWs3 hBf hg7
                by_cases hux : u = x.val
                · have hne : (((u : Nat) : Int) != ((x.val : Nat) : Int)) = false := by simp [hux]
                  have HUX := Lib.hid hux
                  clear hux
                  have hnew : vals (pre ++ [x]) = g7.take (pre ++ [x]).length := by
                    rw [HSN.out, HLP.out, H2.out, ← HUX.out]
                    have := List.take_add_one (l := g7) (i := pre.length)
                    rw [this, HU.out]; rfl
                  have HNEW := Lib.hid hnew
                  clear hnew
                  by_cases hM : M ≤ (pre.length : Int) + 1
                  · gi_wp2
                    refine ⟨(KeepsOthers.setCell _ _ _).from _, .inr ⟨rfl, ?_, by rw [HLP.out]; push_cast; exact hM, H3.out.setCell (p := ⟨Bf, 0, none⟩) (Nat.le_refl _) _⟩⟩
                    rw [HLP.out]; exact h1.set _
                  · gi_wp2
                    refine ⟨(KeepsOthers.setCell _ _ _).from _, (TB.set W (Nat.le_refl _) (by omega) 0 _).kpS, ?_, HNEW.out, H3.out.setCell (p := ⟨Bf, 0, none⟩) (Nat.le_refl _) _⟩
                    rw [HLP.out]; exact h1.set _
                · have hne : (((u : Nat) : Int) != ((x.val : Nat) : Int)) = true := by simp; omega
                  have HUX := Lib.hid hux
                  clear hux
                  gi_wp2
                  refine ⟨(KeepsOthers.setCell _ _ _).from _, .inl ⟨rfl, fun hp => ?_⟩⟩
                  obtain ⟨t, ht⟩ := hp
                  have h5 := HU.out
                  rw [← ht, HSN.out, List.append_assoc, List.getElem?_append_right (by rw [vals_len]; exact Nat.le_refl _), vals_len, Nat.sub_self] at h5
                  simp at h5
                  exact HUX.out h5.symm
              case donec =>
                rintro D2 ys2 W hD2 hDS ⟨h1, h2, h3⟩ hK
                rw [hDS] at h1
                clear h2 hDS
                have kf := h1.cell
                have b8 : Boxed W B8 22 (.slice Aw Lw cw) := (h3.block B8 hlB.2.1).trans h80
                have bg : Boxed W G 3 (.int .i64 M) := (h3.block G (by omega)).trans hg0
                have br : Boxed W (G + 1) 4 (.bool false) := (h3.block (G + 1) hlB.1).trans hr0
                have k8 := b8.cell
                have kg := bg.cell
                have hbW : Below w.heap.size w W := hBw.trans (h3.mono hlB.2.2)
                have hd0 := (Array.getElem?_eq_some_iff.1 HK0b.out).1
                have hd1 := (Array.getElem?_eq_some_iff.1 HK1.out).1
                have hkd0 := (h3.block D0 (by omega)).trans HK0b.out
                have hkd1 := (h3.block D1 (by omega)).trans HK1.out
                have hd01 : D0 ≠ D1 := by have := (Array.getElem?_eq_some_iff.1 HK0.out).1; omega
                have hd02 : D0 ≠ D2 := by omega
                have hd12 : D1 ≠ D2 := by omega
                have hd2 : w.heap.size ≤ D2 := by omega
                have FIN : ∀ W3, Below W.heap.size W W3 → Below w.heap.size w (W3.setCell ⟨G + 1, 0, none⟩ (.bool true)) ∧ W3.cell? ⟨G + 1, 0, none⟩ = some (.bool false) ∧ W3.frozen? ⟨G + 1, 0, none⟩ = false ∧ (W3.setCell ⟨G + 1, 0, none⟩ (.bool true)).heap[D2]? = some (.deferred (some [])) ∧
                    (W3.setCell ⟨G + 1, 0, none⟩ (.bool true)).heap[D1]? = some (.deferred (some [])) ∧ (W3.setCell ⟨G + 1, 0, none⟩ (.bool true)).heap[D0]? = some (.deferred (some [])) := fun W3 h => by
                  have br3 : Boxed W3 (G + 1) 4 (.bool false) := (h.block (G + 1) br.lt).trans br
                  have g2 := (h.block D2 (Array.getElem?_eq_some_iff.1 hK).1).trans hK
                  have g1 := (h.block D1 (Array.getElem?_eq_some_iff.1 hkd1).1).trans hkd1
                  have g0 := (h.block D0 (Array.getElem?_eq_some_iff.1 hkd0).1).trans hkd0
                  exact ⟨(below_at hbW (Nat.le_refl _) h).setCell (p := ⟨G + 1, 0, none⟩) (by show w.heap.size ≤ G + 1; omega) _, br3.cell, br3.frozen, (KeepsOthers.setCell _ _ _).same D2 _ g2 rfl, (KeepsOthers.setCell _ _ _).same D1 _ g1 rfl, (KeepsOthers.setCell _ _ _).same D0 _ g0 rfl⟩
                have HFIN := Lib.hid FIN
                clear FIN hkd0 hkd1 hK h1 h3 b8 bg br hbW hw0 hvd hjs3 hbl3 hbx3 hg0 hr0 h80 hBw hcutB hWs3 hBf hg7
                have hkL : (((DS.length : Nat) : Int) == (Lw : Int)) = true := by simp; omega
                by_cases hM : M ≤ (DS.length : Int)
                · gi_wp2_with ((try refine ⟨hdd _, ?_⟩); gi_at_call 30; refine (hF.calls _ _ _ _ _ (lives_any _)).mono ?_; rintro e W3 ⟨rfl, hb3⟩
                               obtain ⟨q1, q2, q3, q4, q5, q6⟩ := HFIN.out W3 hb3)
                  exact leave3 q1 q4 q5 q6 hd01 hd02 hd12 hD0' hD1' hd2 (World.cell?_setCell_same' W3 ⟨G + 1, 0, none⟩ (.bool true) (by rw [q2]; rfl)) rfl
                · gi_wp2_with ((try refine ⟨hdd _, ?_⟩); gi_at_call 30; refine (hF.calls _ _ _ _ _ (lives_any _)).mono ?_; rintro e W3 ⟨rfl, hb3⟩
                               obtain ⟨q1, q2, q3, q4, q5, q6⟩ := HFIN.out W3 hb3)
                  exact leave3 q1 q4 q5 q6 hd01 hd02 hd12 hD0' hD1' hd2 (World.cell?_setCell_same' W3 ⟨G + 1, 0, none⟩ (.bool true) (by rw [q2]; rfl)) rfl
              case stopc =>
                rintro D2 c2 pre W hD2 hpre hx hK
                rcases hx with ⟨rfl, hno⟩ | ⟨rfl, h1, hM, h3⟩
                · exfalso
                  obtain ⟨t, ht⟩ := hpre
                  refine hno ⟨vals t, ?_⟩
                  rw [← hvd, ← ht]
                  simp [vals]
                · clear hpre
                  have kf := h1.cell
                  have b8 : Boxed W B8 22 (.slice Aw Lw cw) := (h3.block B8 hlB.2.1).trans h80
                  have bg : Boxed W G 3 (.int .i64 M) := (h3.block G (by omega)).trans hg0
                  have br : Boxed W (G + 1) 4 (.bool false) := (h3.block (G + 1) hlB.1).trans hr0
                  have k8 := b8.cell
                  have kg := bg.cell
                  have hbW : Below w.heap.size w W := hBw.trans (h3.mono hlB.2.2)
                  have hd0 := (Array.getElem?_eq_some_iff.1 HK0b.out).1
                  have hd1 := (Array.getElem?_eq_some_iff.1 HK1.out).1
                  have hkd0 := (h3.block D0 (by omega)).trans HK0b.out
                  have hkd1 := (h3.block D1 (by omega)).trans HK1.out
                  have hd01 : D0 ≠ D1 := by have := (Array.getElem?_eq_some_iff.1 HK0.out).1; omega
                  have hd02 : D0 ≠ D2 := by omega
                  have hd12 : D1 ≠ D2 := by omega
                  have hd2 : w.heap.size ≤ D2 := by omega
                  have FIN : ∀ W3, Below W.heap.size W W3 → Below w.heap.size w (W3.setCell ⟨G + 1, 0, none⟩ (.bool true)) ∧ W3.cell? ⟨G + 1, 0, none⟩ = some (.bool false) ∧ W3.frozen? ⟨G + 1, 0, none⟩ = false ∧ (W3.setCell ⟨G + 1, 0, none⟩ (.bool true)).heap[D2]? = some (.deferred (some [])) ∧
                      (W3.setCell ⟨G + 1, 0, none⟩ (.bool true)).heap[D1]? = some (.deferred (some [])) ∧ (W3.setCell ⟨G + 1, 0, none⟩ (.bool true)).heap[D0]? = some (.deferred (some [])) := fun W3 h => by
                    have br3 : Boxed W3 (G + 1) 4 (.bool false) := (h.block (G + 1) br.lt).trans br
                    have g2 := (h.block D2 (Array.getElem?_eq_some_iff.1 hK).1).trans hK
                    have g1 := (h.block D1 (Array.getElem?_eq_some_iff.1 hkd1).1).trans hkd1
                    have g0 := (h.block D0 (Array.getElem?_eq_some_iff.1 hkd0).1).trans hkd0
                    exact ⟨(below_at hbW (Nat.le_refl _) h).setCell (p := ⟨G + 1, 0, none⟩) (by show w.heap.size ≤ G + 1; omega) _, br3.cell, br3.frozen, (KeepsOthers.setCell _ _ _).same D2 _ g2 rfl, (KeepsOthers.setCell _ _ _).same D1 _ g1 rfl, (KeepsOthers.setCell _ _ _).same D0 _ g0 rfl⟩
                  have HFIN := Lib.hid FIN
                  clear FIN hkd0 hkd1 hK h1 h3 b8 bg br hbW hw0 hvd hjs3 hbl3 hbx3 hg0 hr0 h80 hBw hcutB hWs3 hBf hg7
                  gi_wp2_with ((try refine ⟨hdd _, ?_⟩); gi_at_call 30; refine (hF.calls _ _ _ _ _ (lives_any _)).mono ?_; rintro e W3 ⟨rfl, hb3⟩
                               obtain ⟨q1, q2, q3, q4, q5, q6⟩ := HFIN.out W3 hb3)
                  exact leave3 q1 q4 q5 q6 hd01 hd02 hd12 hD0' hD1' hd2 (World.cell?_setCell_same' W3 ⟨G + 1, 0, none⟩ (.bool true) (by rw [q2]; rfl)) rfl
end Go.Proofs.Ytaegkhdkhgemmaa
