/- Part of the proof of NatTexts: Rounds, RefMul, MulsW, RefOver, RefDig, DigU, Collect, IsTxt, RefSh, RefPar, RefTxt, Rev. -/
import Derived.Test.YtaegkhdkhgemmaaPartG
import Derived.RangeFuncNested
import Derived.Test.YtaegkhdkhgemmaaPartF
import Derived.Test.YtaegkhdkhgemmaaPartE
import Derived.RangeFuncBox
import Derived.Test.YtaegkhdkhgemmaaPartB
import Derived.Laws.Strings
import Derived.Deep.RegionHeld3
import Derived.Laws.BytesArg
import Derived.Laws.Concat
import Derived.Test.YtaegkhdkhgemmaaPartD
import Derived.Lib.SliceRun
/- What a round of a loop over a sequence may do: lay new blocks, and write m boxes in a row. -/
namespace Go.Proofs.Ytaegkhdkhgemmaa
open Go.RowKit Num

/-- W' is W with new blocks, and with the m boxes from B on written. -/
structure TB (B m : Nat) (W W' : World) : Prop where
  os : W'.os = W.os
  tape : W'.tape = W.tape
  output : W'.output = W.output
  size : W.heap.size ≤ W'.heap.size
  block : ∀ k, k < W.heap.size → (k < B ∨ B + m ≤ k) → W'.heap[k]? = W.heap[k]?
section
variable {B m : Nat} {W W1 W2 : World}
theorem TB.refl (W : World) : TB B m W W := ⟨rfl, rfl, rfl, Nat.le_refl _, fun _ _ _ => rfl⟩
theorem TB.trans (h : TB B m W W1) (j : TB B m W1 W2) : TB B m W W2 :=
  ⟨j.os.trans h.os, j.tape.trans h.tape, j.output.trans h.output, Nat.le_trans h.size j.size, fun k hk hr => (j.block k (Nat.lt_of_lt_of_le hk h.size) hr).trans (h.block k hk hr)⟩
theorem TB.below (h : Below W.heap.size W W1) : TB B m W W1 := ⟨h.os, h.tape, h.output, h.size, fun k hk _ => h.block k hk⟩
theorem TB.set (W : World) {k : Nat} (hk : B ≤ k) (hk' : k < B + m) (i : Nat) (v : Value) : TB B m W (W.setCell ⟨k, i, none⟩ v) :=
  ⟨rfl, rfl, rfl, by simp, fun j _ hr => Below.heap_setCell W _ v j (by show j ≠ k; omega)⟩
theorem TB.drew (W : World) : TB B m W W.drew := ⟨rfl, rfl, rfl, Nat.le_refl _, fun _ _ _ => rfl⟩
theorem TB.belowAt {n : Nat} {w : World} (h : TB B m W W1) (hb : Below n w W) (hn : n ≤ B) (hw : n ≤ W.heap.size) : Below n w W1 :=
  hb.trans ⟨h.os, h.tape, h.output, h.size, fun k hk => h.block k (by omega) (.inl (by omega))⟩
/-- The boxes that a round names. -/
def RBox (B m : Nat) : World → Nat → Prop := fun _ k => B ≤ k ∧ k < B + m
theorem rbox_rb (n₀ : Nat) : RB (RBox B m) n₀ := fun _ _ _ _ h => h
theorem TB.kpS (h : TB B m W W1) : KpS (RBox B m) W W1 :=
  ⟨h.size, fun g => ⟨fun k o hk _ hn => (h.block k (Array.getElem?_eq_some_iff.1 hk).1 (by unfold RBox at hn; omega)).trans hk, fun k hk => ⟨Nat.lt_of_lt_of_le (g k hk) h.size, .inl hk⟩⟩⟩
theorem TB.keeps {n : Nat} (h : TB B m W W1) (hb : ∀ k, B ≤ k → k < B + m → ∃ o, W.heap[k]? = some o ∧ o.isCells = true) : KeepsFrom n W W1 :=
  ⟨h.size, fun k o _ hk ho => by
    by_cases hr : B ≤ k ∧ k < B + m
    · obtain ⟨o', h1, h2⟩ := hb k hr.1 hr.2
      rw [hk] at h1; injection h1 with h1; subst h1; rw [ho] at h2; cases h2
    · exact (h.block k (Array.getElem?_eq_some_iff.1 hk).1 (by omega)).trans hk⟩
theorem TB.cell {k i : Nat} (h : TB B m W W1) (hl : k < W.heap.size) (hr : k < B ∨ B + m ≤ k) : W1.cell? ⟨k, i, none⟩ = W.cell? ⟨k, i, none⟩ := World.cell?_of_block (h.block k hl hr)
theorem TB.boxed {k : Nat} {t : TypeId} {v : Value} (h : TB B m W W1) (hb : Boxed W k t v) (hr : k < B ∨ B + m ≤ k) : Boxed W1 k t v := (h.block k hb.lt hr).trans hb

/-- A number (limbs) that lies in none of the boxes. -/
def NOut (B m : Nat) (W : World) (v : Value) (n : Nat) : Prop :=
  ∃ A c, v = .slice A (dig B32 n).length c ∧ (dig B32 n).length ≤ c ∧ (0 < (dig B32 n).length → ∃ g off, A = some ⟨g, off, none⟩ ∧ g < W.heap.size ∧ (g < B ∨ B + m ≤ g) ∧ ∀ (i u : Nat), (dig B32 n)[i]? = some u → W.cell? ⟨g, off + i, none⟩ = some (.int .u32 (u : Int)))
theorem NOut.n32 {v : Value} {n : Nat} (h : NOut B m W v n) : N32 W v n := by
  obtain ⟨A, c, e, hc, hn⟩ := h
  refine ⟨A, c, e, hc, fun hl => ?_⟩
  obtain ⟨g, off, e1, hg, _, hcell⟩ := hn hl
  exact ⟨g, off, e1, hg, hcell⟩
theorem NOut.of_lt {v : Value} {n : Nat} (h : N32 W v n) (hB : W.heap.size ≤ B) : NOut B m W v n := by
  obtain ⟨A, c, e, hc, hn⟩ := h
  refine ⟨A, c, e, hc, fun hl => ?_⟩
  obtain ⟨g, off, e1, hg, hcell⟩ := hn hl
  exact ⟨g, off, e1, hg, .inl (by omega), hcell⟩
theorem NOut.of_own {v : Value} {n B' : Nat} (h : OwnL B' W v n) (hB : B + m ≤ B') : NOut B m W v n := by
  obtain ⟨A, c, e, hc, hn⟩ := own_reads h
  refine ⟨A, c, e, hc, fun hl => ?_⟩
  obtain ⟨g, off, e1, hg, hcell⟩ := hn hl
  refine ⟨g, off, e1, hg, .inr ?_, hcell⟩
  rcases h.2 with ⟨h1, h2⟩ | ⟨g2, cap, cur, h1, h2, _⟩
  · omega
  · rw [e, e1] at h1
    injection h1 with h1 _ _
    injection h1 with h1
    injection h1 with h1 _
    omega
theorem NOut.tb {v : Value} {n : Nat} (h : NOut B m W v n) (t : TB B m W W1) : NOut B m W1 v n := by
  obtain ⟨A, c, e, hc, hn⟩ := h
  refine ⟨A, c, e, hc, fun hl => ?_⟩
  obtain ⟨g, off, e1, hg, hr, hcell⟩ := hn hl
  exact ⟨g, off, e1, Nat.lt_of_lt_of_le hg t.size, hr, fun i u hu => (World.cell?_of_block (t.block g hg hr)).trans (hcell i u hu)⟩
theorem NOut.grown {v : Value} {n : Nat} {row : Option Nat} (h : NOut B m W v n) (hg : W.grownBy W1 row) (hr : ∀ r, row = some r → ∃ o : Obj, W.heap[r]? = some o ∧ o.isCells = false) : NOut B m W1 v n := by
  obtain ⟨A, c, e, hc, hn⟩ := h
  refine ⟨A, c, e, hc, fun hl => ?_⟩
  obtain ⟨g, off, e1, hgl, ho, hcell⟩ := hn hl
  exact ⟨g, off, e1, Nat.lt_of_lt_of_le hgl hg.size, ho, fun i u hu => cell_kept (hcell i u hu) hg hr⟩
theorem boxed_grown {k : Nat} {t : TypeId} {v : Value} {row : Option Nat} (h : Boxed W k t v) (hg : W.grownBy W1 row) (hr : ∀ r, row = some r → ∃ o : Obj, W.heap[r]? = some o ∧ o.isCells = false) : Boxed W1 k t v :=
  h.kept hg (fun e' => by obtain ⟨o, ho, hc⟩ := hr k e'.symm; rw [show W.heap[k]? = _ from h] at ho; cases ho; cases hc)
theorem below_grown {n : Nat} {w : World} {row : Option Nat} (h : Below n w W) (hg : W.grownBy W1 row) (hn : n ≤ W.heap.size) (hr : ∀ r, row = some r → n ≤ r) : Below n w W1 :=
  h.grown hg hn hr
end

theorem nout_zero (B m : Nat) (W : World) (A : Option Addr) (c : Nat) : NOut B m W (.slice A 0 c) 0 :=
  ⟨A, c, by rw [dig_zero]; rfl, by rw [dig_zero]; exact Nat.zero_le _, fun h => by rw [dig_zero] at h; simp at h⟩
theorem len_base {b n K : Nat} (hb : 2 ≤ b) (h : (dig B32 n).length ≤ K) : (dig b n).length ≤ 32 * K := by
  refine dig_len_le hb (Nat.lt_of_lt_of_le (dig_len_lt b32_two) (Nat.le_trans (Nat.pow_le_pow_right b32_pos h) ?_))
  rw [show B32 ^ K = 2 ^ (32 * K) by rw [Nat.pow_mul]; rfl]
  exact Nat.pow_le_pow_left hb _
theorem len_low {b K n : Nat} (hb : b ≤ B32) (h : n < b ^ K) : (dig B32 n).length ≤ K := dig_len_le b32_two (Nat.lt_of_lt_of_le h (Nat.pow_le_pow_left hb _))

def OwnRet (w : World) (n : Nat) (e : Ending) (w' : World) : Prop := ∃ v, e = .returned v ∧ OwnL w.heap.size w' v n ∧ Below w.heap.size w w'
set_option maxHeartbeats 400000 in
theorem add_o (a b : Value) (m n : Nat) (w : World) (ha : N32 w a m) (hb : N32 w b n) (hm : (dig B32 m).length ≤ 1000) (hn : (dig B32 n).length ≤ 1000) : Calls Try.prog 71 #[a, b] w (OwnRet w (m + n)) := by
  have h := add_ok a b m n w ha hb (by omega) (by omega) (Nat.le_trans (bits_of_len (len_add hm hn)) (by omega))
  have H := Lib.hid h
  clear h ha hb
  go_enter Try.func71, Try.ntmps71
  go_wp2_with (go_at_call 37; refine H.out.mono ?_; rintro e w1 ⟨v, rfl, hv, hb1⟩)
  go_ret
  exact ⟨_, rfl, hv, hb1⟩
set_option maxHeartbeats 400000 in
theorem mul_o (a b : Value) (m n : Nat) (w : World) (ha : N32 w a m) (hb : N32 w b n) (hm : (dig B32 m).length ≤ 1000) (hn : (dig B32 n).length ≤ 1000) (hs : (dig B32 m).length ≤ 158 ∨ (dig B32 n).length ≤ 158) : Calls Try.prog 72 #[a, b] w (OwnRet w (m * n)) := by
  have lm := words_le (n := m) (K := 500) hm
  have ln := words_le (n := n) (K := 500) hn
  have hsh : (dig B64 m).length ≤ 79 ∨ (dig B64 n).length ≤ 79 := by
    rcases hs with h | h
    · exact .inl (words_le (K := 79) h)
    · exact .inr (words_le (K := 79) h)
  have h := mul_at (N := 500) a b m n w (mulAt_short (by omega) (by omega) hsh) (by omega) ha hb (by omega) (by omega) (by omega) (by omega) (Nat.le_trans (bits_of_len (len_mul hm hn)) (by omega))
  have H := Lib.hid h
  clear h ha hb hs hsh
  go_enter Try.func72, Try.ntmps72
  go_wp2_with (go_at_call 45; refine H.out.mono ?_; rintro e w1 ⟨v, rfl, hv, hb1⟩)
  go_ret
  exact ⟨_, rfl, hv, hb1⟩
end Go.Proofs.Ytaegkhdkhgemmaa

namespace Go.Proofs.Ytaegkhdkhgemmaa
open Go.RowKit Num
theorem make35 (n : Nat) (h : n ≤ 1000000000000) (w : World) : (Instr.makeSlice 35 (.int .i64 (n : Int)) (.int .i64 (n : Int))).run Try.prog w = .ok (.slice (some ⟨w.heap.size, 0, none⟩) n n) (w.alloc (.cells (madeCells #[.int .u32 0] n) 56)) :=
  run_make_row' 35 56 (.int .u32 0) 4 Try.underlying35 info56 rfl .i64 .i64 n (by omega) (by omega) w
/-- One step: a product, a digit and a carry that stay below 2^64, and the two halves of their sum: as the walk shows them. -/
theorem mac_ex (m x o c : Nat) (hm : m < B32) (hx : x < B32) (ho : o < B32) (hc : c < B32) : ∃ p s1 s lo hi : Nat,
    IntKind.u64.wrap ((m : Int) * (x : Int)) = (p : Int) ∧ IntKind.u64.wrap ((p : Int) + (o : Int)) = (s1 : Int) ∧ IntKind.u64.wrap ((s1 : Int) + (c : Int)) = (s : Int) ∧ (s : Int) % 4294967296 = (lo : Int) ∧ (s : Int) / 4294967296 = (hi : Int) ∧
    IntKind.u32.wrap (lo : Int) = (lo : Int) ∧ (lo : Int) % 4294967296 = (lo : Int) ∧ IntKind.u64.wrap (hi : Int) = (hi : Int) ∧ IntKind.u32.wrap (hi : Int) = (hi : Int) ∧ (hi : Int) % 4294967296 = (hi : Int) ∧ (s : Int).tmod 4294967296 = (lo : Int) ∧ (s : Int).tdiv 4294967296 = (hi : Int) ∧
    IntKind.u64.wrap (m : Int) = (m : Int) ∧ IntKind.u64.wrap (x : Int) = (x : Int) ∧ IntKind.u64.wrap (o : Int) = (o : Int) ∧ lo + B32 * hi = o + x * m + c ∧ lo < B32 ∧ hi < B32 := by
  have hb := word_bound (b := B32) ho hx hm hc (lo := (o + x * m + c) % 4294967296) (hi := (o + x * m + c) / 4294967296) (by unfold B32; omega)
  unfold B32 at *
  have hp : x * m < 4294967296 * 4294967296 := Nat.mul_lt_mul_of_lt_of_lt hx hm
  have hmx : (m : Int) * (x : Int) = ((x * m : Nat) : Int) := by push_cast; exact Int.mul_comm _ _
  generalize x * m = p at *
  refine ⟨p, p + o, p + o + c, (o + p + c) % 4294967296, (o + p + c) / 4294967296, ?_, ?_, ?_, by omega, by omega, ?_, by omega, ?_, ?_, by omega, ?_, ?_, ?_, ?_, ?_, by omega, by omega, by omega⟩
  · rw [IntKind.wrap_u64, hmx]; omega
  · rw [IntKind.wrap_u64]; omega
  · rw [IntKind.wrap_u64]; omega
  · rw [IntKind.wrap_u32']; omega
  · rw [IntKind.wrap_u64]; omega
  · rw [IntKind.wrap_u32']; omega
  · rw [Int.tmod_eq_emod_of_nonneg (by omega)]; omega
  · rw [Int.tdiv_eq_ediv_of_nonneg (by omega)]; omega
  · rw [IntKind.wrap_u64]; omega
  · rw [IntKind.wrap_u64]; omega
  · rw [IntKind.wrap_u64]; omega
set_option maxHeartbeats 2000000 in
set_option maxRecDepth 100000 in
theorem refMul_any (A A' : Option Addr) (c c' L L' : Nat) (xs ys : List Nat) (w : World) (hA : Nums .u32 w A xs) (hA' : Nums .u32 w A' ys) (hx : Low B32 xs) (hy : Low B32 ys) (hL : L = xs.length) (hL' : L' = ys.length)
    (hl : L ≤ 1000000) (hl' : L' ≤ 1000000) : Calls Try.prog 46 #[.slice A L c, .slice A' L' c'] w (LsPost w (dig B32 (val B32 xs * val B32 ys))) := by
  have hmk := make35 (L + L' + 1) (by omega)
  push_cast at hmk
  have hr0 := Row.made w .u32 (L + L' + 1) 56
  have hbA : Below w.heap.size w (w.alloc (.cells (madeCells #[.int .u32 0] (L + L' + 1)) 56)) := (Below.refl _ _).alloc (Nat.le_refl _) _
  have hst0 := MulSt.start b32_two ys (xs ++ [0])
  rw [List.length_append, List.length_singleton, ← hL, ← hL', show L' + (L + 1) = L + L' + 1 by omega] at hst0
  have HR0 := Lib.hid hr0
  have HL := Lib.hid hL
  have HL' := Lib.hid hL'
  clear hL hL' hr0
  go_enter Try.func46, Try.ntmps46
  go_wp2
  go_loopw [6] (fun t wr => ∃ (i : Nat) (zs : List Nat), i ≤ L ∧ t = .int .i64 (i : Int) ∧ MulSt B32 ys (xs ++ [0]) i zs ∧ Row .u32 56 wr w.heap.size zs ∧ Below w.heap.size w wr) (fun t _ => L - (intOf t).toNat)
  case atStart => exact ⟨0, _, Nat.zero_le _, rfl, hst0, HR0.out, hbA⟩
  case round =>
    clear hst0 HR0 hbA hmk
    obtain ⟨i, zs, hi, rfl, hst, hrow, hbl⟩ := hrel
    have hlen := hst.len
    rw [List.length_append, List.length_singleton, ← HL.out, ← HL'.out] at hlen
    have HLEN := Lib.hid hlen
    clear hlen
    by_cases hlt : i < L
    · obtain ⟨q, qo, v, rfl, hq, hv, hcv⟩ := (hA.keep hbl).at_ (i := i) (by have := HL.out; omega)
      have hvl : v < B32 := hx v (List.mem_of_getElem? hv)
      have HV := Lib.hid hv
      clear hv
      go_wp2_with (fail)
      go_loopw [7, 8] (fun q t wr2 => ∃ (k cy : Nat) (zs' : List Nat), k ≤ L' ∧ q = .int .u64 (cy : Int) ∧ t = .int .i64 (k : Int) ∧ ScaleSt B32 zs ys v i k zs' cy ∧ Row .u32 56 wr2 w.heap.size zs' ∧ Below w.heap.size w wr2) (fun _ t _ => L' - (intOf t).toNat)
      case atStart => exact ⟨0, 0, zs, Nat.zero_le _, rfl, rfl, ScaleSt.start b32_two hst.low, hrow, hbl⟩
      case round =>
        obtain ⟨k, cy, zs', hk, rfl, rfl, hsc, hrow2, hbl2⟩ := hrel
        by_cases hlk : k < L'
        · obtain ⟨q2, qo2, x, rfl, hq2, hxv, hcx⟩ := (hA'.keep hbl2).at_ (i := k) (by have := HL'.out; omega)
          have hxl : x < B32 := hy x (List.mem_of_getElem? hxv)
          obtain ⟨g', off', v', e', hq', hv', hcv'⟩ := (hA.keep hbl2).at_ (i := i) (by have := HL.out; omega)
          injection e' with e'
          injection e' with e1 e2
          subst e1 e2
          rw [HV.out] at hv'
          injection hv' with hv'
          subst hv'
          have hzl : i + k < zs'.length := by have h1 := hsc.len; have h2 := HLEN.out; omega
          obtain ⟨o, ho⟩ : ∃ o, zs'[i + k]? = some o := ⟨zs'[i + k], List.getElem?_eq_getElem _⟩
          have hol : o < B32 := hsc.low o (List.mem_of_getElem? ho)
          have hco := hrow2.cell ho
          have hfo := hrow2.frozen (i + k)
          obtain ⟨p, s1, s, lo, hi', w1, w2, w3, w4, w5, w6, w7, w8, w9, wa, wb, wc, wd, we, wf, hs, hlo, hhi⟩ := mac_ex v x o cy hvl hxl hol hsc.le
          have hstep := hsc.step ho hxv hs hlo hhi
          have HST := Lib.hid hstep
          clear hstep hs hlo hhi ho hxv hol hxl hsc hcv
          go_wp2_with (fail)
          go_quiet (fail)
          go_wp2
          go_roundw
          case rel => exact ⟨k + 1, hi', zs'.set (i + k) lo, by omega, rfl, by go_num, HST.out, (Row.of_block hrow2 (by rfl)).set (i + k) lo, below_set (below_drewN hbl2 _) (Nat.le_refl _) _⟩
          case measure => simp [intOf]; omega
        · have hkL : k = L' := by omega
          subst hkL
          have hzl : i + k < zs'.length := by have h1 := hsc.len; have h2 := HLEN.out; omega
          have hcy : IntKind.u32.wrap (cy : Int) = (cy : Int) := by have := hsc.le; unfold B32 at this; rw [IntKind.wrap_u32']; omega
          have hcy2 : (cy : Int) % 4294967296 = (cy : Int) := by have := hsc.le; unfold B32 at this; omega
          have hik : i + k < L + k + 1 := by omega
          obtain ⟨o, ho⟩ : ∃ o, zs'[i + k]? = some o := ⟨zs'[i + k], List.getElem?_eq_getElem _⟩
          have hco := hrow2.cell ho
          have hfo := hrow2.frozen (i + k)
          have HSC := Lib.hid hsc
          clear hsc ho
          go_wp2
          go_roundw
          case rel =>
            refine ⟨i + 1, zs'.set (i + k) cy, by omega, by go_num, ?_, hrow2.set (i + k) cy, below_set hbl2 (Nat.le_refl _) _⟩
            have := hst.step (by rw [List.length_append]; have := HL.out; omega) (by rw [List.getElem?_append_left (by have := HL.out; omega)]; exact HV.out) (by rw [← HL'.out]; exact HSC.out)
            rw [← HL'.out, Nat.add_comm k i] at this
            exact this
          case measure => simp [intOf]; omega
    · have hiL : i = L := by omega
      subst hiL
      have hv := hst.eq
      rw [HL.out, List.take_left, Nat.mul_comm] at hv
      have hn := hrow.nums0 zs.length
      rw [List.take_length] at hn
      have hzl : zs.length = i + L' + 1 := by have := HLEN.out; omega
      have htr := refTrim_l (.slice (some ⟨w.heap.size, 0, none⟩) (i + L' + 1) (i + L' + 1)) zs wr ⟨_, _, by rw [hzl], by omega, by omega, hn⟩ hst.low (by omega)
      rw [hv] at htr
      have HT := Lib.hid htr
      clear htr hv hn hzl hst hx hy hA hA'
      go_wp2_with (go_at_call 80; refine HT.out.mono ?_; rintro e w9 ⟨v9, rfl, hv9, hb9⟩)
      go_ret
      exact ⟨_, rfl, hv9.mono hbl.size, below_at hbl (Nat.le_refl _) hb9⟩
end Go.Proofs.Ytaegkhdkhgemmaa

namespace Go.Proofs.Ytaegkhdkhgemmaa
open Go.RowKit Num

theorem prod_len {m n K J : Nat} (hm : (dig B32 m).length ≤ K) (hn : (dig B32 n).length ≤ J) : (dig B32 (m * n)).length ≤ K + J := by
  have h1 := Nat.lt_of_lt_of_le (dig_len_lt b32_two (n := m)) (Nat.pow_le_pow_right b32_pos hm)
  have h2 := Nat.lt_of_lt_of_le (dig_len_lt b32_two (n := n)) (Nat.pow_le_pow_right b32_pos hn)
  refine dig_len_le b32_two ?_
  rw [Nat.pow_add]
  exact Nat.mul_lt_mul_of_lt_of_lt h1 h2
theorem refMul_call (a b : Value) (m n : Nat) (w : World) (ha : N32 w a m) (hb : N32 w b n) (hm : (dig B32 m).length ≤ 1000) (hn : (dig B32 n).length ≤ 1000) : Calls Try.prog 46 #[a, b] w (LsPost w (dig B32 (m * n))) := by
  obtain ⟨A, c, rfl, _, hA⟩ := ha
  obtain ⟨A', c', rfl, _, hB⟩ := hb
  have := refMul_any A A' c c' _ _ _ _ w hA hB (low_dig b32_two m) (low_dig b32_two n) rfl rfl (by omega) (by omega)
  rw [val_dig b32_two, val_dig b32_two] at this
  exact this

set_option maxHeartbeats 2000000 in
set_option maxRecDepth 100000 in
theorem muls_bad (A A' : Option Addr) (c c' L L' : Nat) (xs ys : List Nat) (w : World) (hA : Nums .u32 w A xs) (hA' : Nums .u32 w A' ys) (hL : L = xs.length) (hL' : L' = ys.length) (hc : L ≤ c) (hc' : L' ≤ c') (hnil : A = none → c = 0) (hnil' : A' = none → c' = 0)
    (hbad : chk2 (xs.take 160) (ys.take 160) ≠ 0) : Calls Try.prog 5 #[.slice A L c, .slice A' L' c'] w (LivesPost w) := by
  have hcut := fun w' (h : Below w.heap.size w w') => cut_any A c L 160 xs w' (hA.keep h) hL hc hnil (by omega)
  have hcut' := fun w' (h : Below w.heap.size w w') => cut_any A' c' L' 160 ys w' (hA'.keep h) hL' hc' hnil' (by omega)
  have l1 : (xs.take 160).length ≤ 160 := by rw [List.length_take]; omega
  have l2 : (ys.take 160).length ≤ 160 := by rw [List.length_take]; omega
  generalize xs.take 160 = us at *
  generalize ys.take 160 = vs at *
  have hlu : ∀ B w' a, OwnLs B w' a us → Limbs w' a us := fun B w' a h => h.limbs (by omega)
  have hlv : ∀ B w' a, OwnLs B w' a vs → Limbs w' a vs := fun B w' a h => h.limbs (by omega)
  have h45 := fun a b w h k => mul_bad a b us vs w h k hbad
  have h40 := fun a b w h k => both_any a b us vs w h k
  generalize chk2 us vs = r at *
  have hq : (r != 0) = true := by simp [hbad]
  have hq0 : (r == r) = true := by simp
  have h41 := fun b w => is_err b r w hbad
  have HC := Lib.hid hcut
  have HC' := Lib.hid hcut'
  have HLU := Lib.hid hlu
  have HLV := Lib.hid hlv
  have H45 := Lib.hid h45
  have H40 := Lib.hid h40
  have H41 := Lib.hid h41
  have HB := Lib.hid hbad
  clear hcut hcut' hlu hlv h45 h40 h41 hbad hA hA' hL hL' hnil hnil' l1 l2
  go_enter Try.func5, Try.ntmps5
  go_wp2_with (fail)
  refine (HC.out _ (Below.refl _ _)).mono ?_
  rintro e w1 ⟨va, rfl, hva, hb1⟩
  have ka := HLU.out _ _ _ hva
  go_wp2_with (fail)
  refine (HC'.out _ hb1).mono ?_
  rintro e w2 ⟨vb, rfl, hvb, hb2⟩
  have kb := HLV.out _ _ _ hvb
  have b2 := below_at hb1 (Nat.le_refl _) hb2
  have ka2 := ka.keep hb2
  go_wp2_with (first
    | (go_at_call 45; refine (H45.out _ _ _ ka2 kb).mono ?_; rintro e w3 ⟨rfl, hb3⟩
       have b3 := below_at b2 (Nat.le_refl _) hb3
       have ka3 := ka2.keep hb3
       have kb3 := kb.keep hb3)
    | (go_at_call 40; refine (H40.out _ _ _ ka3 kb3).mono ?_; rintro e w6 ⟨rfl, rfl⟩))
  refine (H41.out _ _).mono ?_
  rintro e w8 ⟨rfl, hb8⟩
  have b8 := below_at b3 (Nat.le_refl _) hb8
  go_wp2_with (fail)
  refine (lives_any _).mono ?_
  rintro e w9 ⟨rfl, hb9⟩
  have b9 := below_at b8 (Nat.le_refl _) hb9
  go_wp2
  go_ret
  exact ⟨rfl, b9⟩

set_option maxHeartbeats 2000000 in
set_option maxRecDepth 100000 in
theorem muls_ok (A A' : Option Addr) (c c' L L' m n : Nat) (xs ys : List Nat) (w : World) (hA : Nums .u32 w A xs) (hA' : Nums .u32 w A' ys) (hL : L = xs.length) (hL' : L' = ys.length) (hc : L ≤ c) (hc' : L' ≤ c') (hnil : A = none → c = 0) (hnil' : A' = none → c' = 0)
    (hm : xs.take 160 = dig B32 m) (hn : ys.take 160 = dig B32 n) : Calls Try.prog 5 #[.slice A L c, .slice A' L' c'] w (LivesPost w) := by
  have hcut := fun w' (h : Below w.heap.size w w') => cut_any A c L 160 xs w' (hA.keep h) hL hc hnil (by omega)
  have hcut' := fun w' (h : Below w.heap.size w w') => cut_any A' c' L' 160 ys w' (hA'.keep h) hL' hc' hnil' (by omega)
  have l1 : (xs.take 160).length ≤ 160 := by rw [List.length_take]; omega
  have l2 : (ys.take 160).length ≤ 160 := by rw [List.length_take]; omega
  rw [hm] at hcut l1
  rw [hn] at hcut' l2
  have ls : (dig B32 (m * n)).length ≤ 320 := prod_len l1 l2
  have hp : nbits (m * n) ≤ 8388608 := Nat.le_trans (bits_of_len ls) (by omega)
  have w1 := words_le (n := m) (K := 500) (by omega)
  have w2 := words_le (n := n) (K := 500) (by omega)
  have hat : MulAt m n := mulAt_all (by omega) (by omega)
  have hlu : ∀ B w' a, OwnLs B w' a (dig B32 m) → Limbs w' a (dig B32 m) := fun B w' a h => h.limbs (by omega)
  have hlv : ∀ B w' a, OwnLs B w' a (dig B32 n) → Limbs w' a (dig B32 n) := fun B w' a h => h.limbs (by omega)
  have h45 := fun a b w (h : Limbs w a (dig B32 m)) (k : Limbs w b (dig B32 n)) => mul_at (N := 500) a b m n w hat (by omega) h.is k.is (by omega) (by omega) (by omega) (by omega) hp
  have h40 := fun a b w h k => both_any a b (dig B32 m) (dig B32 n) w h k
  have h46 := fun a b w (h : Limbs w a (dig B32 m)) (k : Limbs w b (dig B32 n)) => refMul_call a b m n w h.is k.is (by omega) (by omega)
  have h41b : ∀ B a b w, N32 w a (m * n) → OwnLs B w b (dig B32 (m * n)) → Calls Try.prog 41 #[a, .int .i64 0, b, .int .i64 0] w (LivesPost w) := fun B a b w h k => is_ok a b (m * n) w h (k.limbs (by omega)) (by omega)
  rw [chk2, if_pos (chk_dig (by omega)), chk_dig (by omega)] at h40
  have HC := Lib.hid hcut
  have HC' := Lib.hid hcut'
  have HLU := Lib.hid hlu
  have HLV := Lib.hid hlv
  have H45 := Lib.hid h45
  have H40 := Lib.hid h40
  have H41 := Lib.hid h41b
  have H46 := Lib.hid h46
  clear hcut hcut' hlu hlv h45 h40 h41b h46 hA hA' hL hL' hnil hnil' l1 l2 hp ls hm hn hat w1 w2
  go_enter Try.func5, Try.ntmps5
  go_wp2_with (fail)
  refine (HC.out _ (Below.refl _ _)).mono ?_
  rintro e w1 ⟨va, rfl, hva, hb1⟩
  have ka := HLU.out _ _ _ hva
  go_wp2_with (fail)
  refine (HC'.out _ hb1).mono ?_
  rintro e w2 ⟨vb, rfl, hvb, hb2⟩
  have kb := HLV.out _ _ _ hvb
  have b2 := below_at hb1 (Nat.le_refl _) hb2
  have ka2 := ka.keep hb2
  go_wp2_with (first
    | (go_at_call 45; refine (H45.out _ _ _ ka2 kb).mono ?_; rintro e w3 ⟨vs, rfl, hvs, hb3⟩
       have b3 := below_at b2 (Nat.le_refl _) hb3
       have ka3 := ka2.keep hb3
       have kb3 := kb.keep hb3)
    | (go_at_call 40; refine (H40.out _ _ _ ka3 kb3).mono ?_; rintro e w6 ⟨rfl, rfl⟩)
    | (go_at_call 46; refine (H46.out _ _ _ ka3 kb3).mono ?_; rintro e w9 ⟨v9, rfl, hv9, hb9⟩
       have b9 := below_at b3 (Nat.le_refl _) hb9
       have ks9 := hvs.is.keep hb9))
  refine (H41.out _ _ _ _ ks9 hv9).mono ?_
  rintro e w10 ⟨rfl, hb10⟩
  have b10 := below_at b9 (Nat.le_refl _) hb10
  go_wp2_with (fail)
  refine (lives_any _).mono ?_
  rintro e w11 ⟨rfl, hb11⟩
  have b11 := below_at b10 (Nat.le_refl _) hb11
  go_wp2
  go_ret
  exact ⟨rfl, b11⟩

/-- The law NatMuls, for whatever limbs. -/
theorem muls_walk (A A' : Option Addr) (c c' L L' : Nat) (xs ys : List Nat) (w : World) (hA : Nums .u32 w A xs) (hA' : Nums .u32 w A' ys) (hlow : Low B32 xs) (hlow' : Low B32 ys) (hL : L = xs.length) (hL' : L' = ys.length) (hc : L ≤ c) (hc' : L' ≤ c') (hnil : A = none → c = 0) (hnil' : A' = none → c' = 0) :
    Calls Try.prog 5 #[.slice A L c, .slice A' L' c'] w (LivesPost w) := by
  by_cases h0 : chk2 (xs.take 160) (ys.take 160) = 0
  · have h1 : chk (xs.take 160) = 0 ∧ chk (ys.take 160) = 0 := by
      unfold chk2 at h0
      split at h0
      · rename_i h; exact ⟨h, h0⟩
      · rename_i h; exact absurd h0 h
    have hm := chk_zero (hlow.take 160) h1.1
    have hn := chk_zero (hlow'.take 160) h1.2
    exact muls_ok A A' c c' L L' _ _ xs ys w hA hA' hL hL' hc hc' hnil hnil' hm hn
  · exact muls_bad A A' c c' L L' xs ys w hA hA' hL hL' hc hc' hnil hnil' h0
end Go.Proofs.Ytaegkhdkhgemmaa

namespace Go.Proofs.Ytaegkhdkhgemmaa
open Go.RowKit Num

/-- Division by a small number from the top down: the limbs from k on are done. -/
structure OverSt (xs zs : List Nat) (v k l : Nat) : Prop where
  len : zs.length = xs.length
  low : Low B32 zs
  lt : l < v
  eq : val B32 (xs.drop k) = v * val B32 (zs.drop k) + l
theorem OverSt.start (xs : List Nat) {v : Nat} (hv : 0 < v) : OverSt xs (List.replicate xs.length 0) v xs.length 0 :=
  ⟨by simp, Low.replicate b32_pos _, hv, by simp [val]⟩
theorem OverSt.step {xs zs : List Nat} {v k l x q r : Nat} (h : OverSt xs zs v (k + 1) l) (hx : xs[k]? = some x) (hs : l * B32 + x = v * q + r) (hq : q < B32) (hr : r < v) : OverSt xs (zs.set k q) v k r := by
  have hk : k < xs.length := (List.getElem?_eq_some_iff.1 hx).1
  have hxe : xs[k] = x := (List.getElem?_eq_some_iff.1 hx).2
  have hkz : k < (zs.set k q).length := by rw [List.length_set, h.len]; exact hk
  refine ⟨by rw [List.length_set]; exact h.len, h.low.set hq, hr, ?_⟩
  rw [List.drop_eq_getElem_cons hk, List.drop_eq_getElem_cons hkz, hxe, List.getElem_set_self, List.drop_set_of_lt (by omega)]
  simp only [val]
  rw [h.eq]
  grind
theorem OverSt.fin {xs zs : List Nat} {v l : Nat} (h : OverSt xs zs v 0 l) : val B32 zs = val B32 xs / v ∧ val B32 xs % v = l := by
  have e := h.eq
  simp only [List.drop_zero] at e
  have hl := h.lt
  rw [e, Nat.mul_add_div (by omega), Nat.div_eq_of_lt hl, Nat.mul_add_mod, Nat.mod_eq_of_lt hl]
  simp

theorem over_ex (l x v : Nat) (hl : l < v) (hx : x < B32) (hv : v < B32) : ∃ p s q r : Nat,
    IntKind.u64.wrap ((l : Int) * 4294967296) = (p : Int) ∧ IntKind.u64.wrap (x : Int) = (x : Int) ∧ IntKind.u64.wrap (v : Int) = (v : Int) ∧ IntKind.u64.wrap ((p : Int) + (x : Int)) = (s : Int) ∧
    (s : Int) / (v : Int) = (q : Int) ∧ (s : Int).tdiv (v : Int) = (q : Int) ∧ (s : Int) % (v : Int) = (r : Int) ∧ (s : Int).tmod (v : Int) = (r : Int) ∧
    IntKind.u64.wrap (q : Int) = (q : Int) ∧ IntKind.u64.wrap (r : Int) = (r : Int) ∧ IntKind.u32.wrap (q : Int) = (q : Int) ∧ (q : Int) % 4294967296 = (q : Int) ∧ IntKind.u32.wrap (r : Int) = (r : Int) ∧ (r : Int) % 4294967296 = (r : Int) ∧
    ((v : Int) == 0) = false ∧ l * B32 + x = v * q + r ∧ q < B32 ∧ r < v := by
  have hlt : l * B32 + x < v * B32 := by
    have : (l + 1) * B32 ≤ v * B32 := Nat.mul_le_mul_right _ hl
    rw [Nat.add_mul] at this
    omega
  have hle : v * B32 ≤ B32 * B32 := Nat.mul_le_mul_right _ (by omega)
  have hq : (l * B32 + x) / v < B32 := Nat.div_lt_of_lt_mul hlt
  have hr : (l * B32 + x) % v < v := Nat.mod_lt _ (by omega)
  have hd := Nat.div_add_mod (l * B32 + x) v
  obtain ⟨q, hqe⟩ : ∃ q, (l * B32 + x) / v = q := ⟨_, rfl⟩
  obtain ⟨r, hre⟩ : ∃ r, (l * B32 + x) % v = r := ⟨_, rfl⟩
  have c1 : ((l * B32 + x : Nat) : Int) / (v : Int) = (q : Int) := by rw [← hqe]; exact (Int.natCast_ediv _ _).symm
  have c2 : ((l * B32 + x : Nat) : Int) % (v : Int) = (r : Int) := by rw [← hre]; exact (Int.natCast_emod _ _).symm
  rw [hqe] at hq hd
  rw [hre] at hr hd
  have hpv : (l : Int) * 4294967296 = ((l * B32 : Nat) : Int) := by unfold B32; omega
  have hp : l * B32 + x < B32 * B32 := by omega
  clear hqe hre
  refine ⟨l * B32, l * B32 + x, q, r, ?_, ?_, ?_, ?_, c1, ?_, c2, ?_, ?_, ?_, ?_, ?_, ?_, ?_, ?_, hd.symm, hq, hr⟩
  · rw [IntKind.wrap_u64]; unfold B32 at *; omega
  · rw [IntKind.wrap_u64]; unfold B32 at *; omega
  · rw [IntKind.wrap_u64]; unfold B32 at *; omega
  · rw [IntKind.wrap_u64]; unfold B32 at *; omega
  · rw [Int.tdiv_eq_ediv_of_nonneg (by omega)]; exact c1
  · rw [Int.tmod_eq_emod_of_nonneg (by omega)]; exact c2
  all_goals clear c1 c2 hd hp hpv hle hlt
  · rw [IntKind.wrap_u64]; unfold B32 at *; omega
  · rw [IntKind.wrap_u64]; unfold B32 at *; omega
  · rw [IntKind.wrap_u32']; unfold B32 at *; omega
  · unfold B32 at *; omega
  · rw [IntKind.wrap_u32']; unfold B32 at *; omega
  · unfold B32 at *; omega
  · simp; omega

def OverPost (w : World) (ys : List Nat) (r : Nat) (e : Ending) (w' : World) : Prop := ∃ v, e = .returned (.tuple #[v, .int .u32 (r : Int)]) ∧ OwnLs w.heap.size w' v ys ∧ Below w.heap.size w w'

set_option maxHeartbeats 2000000 in
set_option maxRecDepth 100000 in
theorem refOver_any (A : Option Addr) (c L v : Nat) (xs : List Nat) (w : World) (hA : Nums .u32 w A xs) (hx : Low B32 xs) (hL : L = xs.length) (hl : L ≤ 1000000) (hv0 : 0 < v) (hv : v < B32) :
    Calls Try.prog 94 #[.slice A L c, .int .u32 (v : Int)] w (OverPost w (dig B32 (val B32 xs / v)) (val B32 xs % v)) := by
  have hmk := make35 L (by omega) w
  have hr0 := Row.made w .u32 L 56
  have hbA : Below w.heap.size w (w.alloc (.cells (madeCells #[.int .u32 0] L) 56)) := (Below.refl _ _).alloc (Nat.le_refl _) _
  have hst0 := OverSt.start xs hv0
  rw [← hL] at hst0
  have HL := Lib.hid hL
  have HR0 := Lib.hid hr0
  have HV := Lib.hid hv
  clear hL hr0 hv
  go_enter Try.func94, Try.ntmps94
  go_wp2
  go_loopw [7, 8] (fun q t wr => ∃ (k l : Nat) (zs : List Nat), k ≤ L ∧ t = .int .i64 ((k : Int) - 1) ∧ q = .int .u64 (l : Int) ∧ OverSt xs zs v k l ∧ Row .u32 56 wr w.heap.size zs ∧ Below w.heap.size w wr) (fun _ t _ => (intOf t + 1).toNat)
  case atStart => exact ⟨L, 0, _, Nat.le_refl _, rfl, rfl, hst0, HR0.out, hbA⟩
  case round =>
    clear hst0 HR0 hbA hmk
    obtain ⟨k, l, zs, hk, rfl, rfl, hst, hrow, hbl⟩ := hrel
    have hlen := hst.len
    rw [← HL.out] at hlen
    have HLEN := Lib.hid hlen
    clear hlen
    by_cases h0 : k = 0
    · subst h0
      obtain ⟨f1, f2⟩ := hst.fin
      have hlt := hst.lt
      have hvv := HV.out
      have w1 : IntKind.u32.wrap (l : Int) = (l : Int) := by unfold B32 at hvv; rw [IntKind.wrap_u32']; omega
      have w2 : (l : Int) % 4294967296 = (l : Int) := by unfold B32 at hvv; omega
      have hn := hrow.nums0 zs.length
      rw [List.take_length] at hn
      have htr := refTrim_l (.slice (some ⟨w.heap.size, 0, none⟩) L L) zs wr ⟨_, _, by rw [HLEN.out], by have := HLEN.out; omega, by have := HLEN.out; omega, hn⟩ hst.low (by have := HLEN.out; omega)
      rw [f1] at htr
      have HT := Lib.hid htr
      have F2 := Lib.hid f2
      clear htr f1 f2 hn hst hx hA hvv
      go_wp2_with (go_at_call 80; refine HT.out.mono ?_; rintro e w9 ⟨v9, rfl, hv9, hb9⟩)
      go_ret2
      rw [F2.out]
      exact ⟨_, rfl, hv9.mono hbl.size, below_at hbl (Nat.le_refl _) hb9⟩
    · obtain ⟨j, rfl⟩ : ∃ j, k = j + 1 := ⟨k - 1, by omega⟩
      obtain ⟨g, off, x, rfl, hg, hxv, hcx⟩ := (hA.keep hbl).at_ (i := j) (by have := HL.out; omega)
      have hxl : x < B32 := hx x (List.mem_of_getElem? hxv)
      obtain ⟨p, s, q, r, w1, w2, w3, w4, w5, w6, w7, w8, w9, wa, wb, wc, wd, we, wf, hs, hq, hr⟩ := over_ex l x v hst.lt hxl HV.out
      have hst' := hst.step hxv hs hq hr
      obtain ⟨o, ho⟩ : ∃ o, zs[j]? = some o := ⟨zs[j]'(by have := HLEN.out; omega), List.getElem?_eq_getElem _⟩
      have hco := hrow.cell ho
      have hfo := hrow.frozen j
      have HST := Lib.hid hst'
      have HX := Lib.hid hxv
      have HO := Lib.hid ho
      clear hst' hxv ho hxl hs hq hr hst hA hx
      go_wp2
      go_roundw
      case rel => exact ⟨j, r, _, by omega, by first | rfl | go_num, rfl, HST.out, hrow.set j q, below_set hbl (Nat.le_refl _) _⟩
      case measure => simp [intOf]
end Go.Proofs.Ytaegkhdkhgemmaa

/- The reference's Digits. -/
namespace Go.Proofs.Ytaegkhdkhgemmaa
open Go.RowKit Num

def lenD : Value → Nat
  | .slice _ n _ => n
  | _ => 0
set_option maxHeartbeats 2000000 in
set_option maxRecDepth 100000 in
theorem refDigits_any (a : Value) (b x : Nat) (w : World) (ha : N32 w a x) (hx : (dig B32 x).length ≤ 1000) (hb : 2 ≤ b) (hbb : b < B32) (hlen : (dig b x).length ≤ 100000) : Calls Try.prog 66 #[a, .int .u32 (b : Int)] w (LsPost w (dig b x)) := by
  obtain ⟨i0, hi, hz0, hz1, hz2⟩ := info_parts info56
  have ho := own_empty w 56
  have hbA := below_new w (.cells #[] 56)
  have HO := Lib.hid ho
  have ha0 := ha.keep hbA
  have HA0 := Lib.hid ha0
  obtain ⟨ds, hds⟩ : ∃ ds, dig b x = ds := ⟨_, rfl⟩
  rw [hds] at hlen ⊢
  have HDS := Lib.hid hds
  have HXL := Lib.hid hx
  clear ho ha0 hds hx
  obtain ⟨A, c, rfl, _⟩ := ha
  generalize (dig B32 x).length = L0 at *
  go_enter Try.func66, Try.ntmps66
  go_wp2
  go_loopw [0, 5] (fun t out wr => ∃ (y L : Nat) (At : Option Addr) (ct : Nat) (os : List Nat), t = .slice At L ct ∧ N32 wr t y ∧ L = (dig B32 y).length ∧ L ≤ 1000 ∧ ds = os ++ dig b y ∧ wr.ownsRow w.heap.size 56 1 out os.length (ints .u32 os) ∧ Below w.heap.size w wr) (fun _ out _ => ds.length - lenD out)
  case atStart =>
    have h := HA0.out
    obtain ⟨A', c', e, _⟩ := id h
    injection e with e1 e2 e3
    refine ⟨x, L0, A, c, [], rfl, h, e2, ?_, HDS.out.symm, HO.out, hbA⟩
    first | exact HXL.out | omega
  case round =>
    clear HA0 HO hbA
    obtain ⟨y, L, At, ct, os, rfl, hy, hL, hL1, hd, hown, hbl⟩ := hrel
    rcases Nat.eq_zero_or_pos y with h0 | h0
    · subst h0
      rw [dig_zero] at hL hd
      rw [List.append_nil] at hd
      have hL0 : ¬ 0 < L := by rw [hL]; simp
      have HH := Lib.hid hd
      clear hd hL
      go_wp2
      go_ret
      exact ⟨_, rfl, by unfold OwnLs; rw [HH.out]; exact hown, hbl⟩
    · have hpos : 0 < L := by
        rw [hL]
        rcases Nat.eq_zero_or_pos (dig B32 y).length with h | h
        · have := (dig_nil_iff b32_two).1 (List.eq_nil_of_length_eq_zero h); omega
        · exact h
      rw [dig_pos hb (by omega)] at hd
      have hov : Calls Try.prog 94 #[.slice At L ct, .int .u32 (b : Int)] wr (OverPost wr (dig B32 (y / b)) (y % b)) := by
        obtain ⟨A', c', e, hc', hn⟩ := hy
        injection e with e1 e2 e3
        subst e1
        have := refOver_any At ct L b (dig B32 y) wr hn (low_dig b32_two y) hL (by omega) (by omega) hbb
        rwa [val_dig b32_two] at this
      have hdl : os.length + 1 ≤ ds.length := by rw [hd]; simp
      have hlq : (dig B32 (y / b)).length ≤ L := by rw [hL]; exact dig_len_le b32_two (Nat.lt_of_le_of_lt (Nat.div_le_self _ _) (dig_len_lt b32_two))
      have hmod : y % b < b := Nat.mod_lt _ (by omega)
      generalize y % b = r at *
      generalize y / b = q at *
      have HOV := Lib.hid hov
      have HD := Lib.hid hd
      have HLQ := Lib.hid hlq
      clear hov hd hL hlq
      obtain ⟨K, hK⟩ : ∃ K, os.length = K := ⟨_, rfl⟩
      have HK := Lib.hid hK
      rw [hK] at hown hdl
      clear hK
      go_wp2_with (fail)
      refine HOV.out.mono ?_
      rintro e w1 ⟨v, rfl, hv, hb1⟩
      obtain ⟨Av, cv, rfl⟩ : ∃ Av cv, v = .slice Av (dig B32 q).length cv := by
        obtain ⟨A, c, e, _⟩ := own_reads hv
        exact ⟨A, c, e⟩
      have hown1 : w1.ownsRow w.heap.size 56 1 u5 K (ints .u32 os) := by
        refine ⟨hown.1, ?_⟩
        rcases hown.2 with h | ⟨g, cap, cur, e, hg, hh, r⟩
        · exact .inl h
        · exact .inr ⟨g, cap, cur, e, hg, (hb1.block g (Array.getElem?_eq_some_iff.1 hh).1).trans hh, r⟩
      have b1 := below_at hbl (Nat.le_refl _) hb1
      go_wp2_with (at_builtin
                   refine wpList_append_own _ rfl _ _ 22 rfl w.heap.size 56 i0 (.int .u32 0) 1 4 Try.underlying22 hi hz0 hz1 hz2 rfl (by decide) _ K _ rfl (hown1.alloc _) ⟨w1.heap.size, 0, none⟩ 1 1 [.int .u32 (r : Int)] rfl rfl (cell_one_new _ _ _) (ints_one .u32 [r]) ?c4 ?c5 (Nat.le_trans b1.size (by simp)) ?_)
      case c4 => unfold maxLen; omega
      case c5 => omega
      intro v' w8 hown2 hgr1 _
      have hb8 : Below w.heap.size w w8 := (b1.alloc b1.size _).grown hgr1 (Nat.le_trans b1.size (by simp)) (fun g' hg' => by
        rcases hown1.2 with ⟨rfl, _⟩ | ⟨g2, cap, cur, rfl, hg2, _⟩
        · simp [Value.ownBlock] at hg'
        · simp [Value.ownBlock] at hg'; omega)
      have hlv : lenD v' = K + 1 := by
        rcases hown2.2 with ⟨_, h⟩ | ⟨g2, cap, cur, rfl, _⟩
        · omega
        · rfl
      have hlo : lenD u5 = K := by
        rcases hown1.2 with ⟨rfl, h⟩ | ⟨g2, cap, cur, rfl, _⟩
        · simp [lenD, h]
        · rfl
      have hq8 : N32 w8 (.slice Av (dig B32 q).length cv) q := by
        obtain ⟨A, c, e, hc, hn⟩ := own_reads hv
        refine ⟨A, c, e, hc, fun hl => ?_⟩
        obtain ⟨g, off, e1, hg, hcell⟩ := hn hl
        have hge : wr.heap.size ≤ g := by
          rcases hv.2 with ⟨h, _⟩ | ⟨g2, cap, cur, h, hg2, _⟩
          · rw [e, e1] at h; cases h
          · rw [e, e1] at h; injection h with h _ _; injection h with h; injection h with h _; subst h; exact hg2
        refine ⟨g, off, e1, Nat.lt_of_lt_of_le hg (Nat.le_trans (by simp) hgr1.size), fun i u hu => ?_⟩
        rw [← hcell i u hu, ← (below_new w1 (.cells #[.int .u32 (r : Int)] 56)).cell (p := ⟨g, off + i, none⟩) hg]
        refine World.cell?_of_block (hgr1.block g (by simp; omega) fun he => ?_)
        rcases hown.2 with ⟨rfl, _⟩ | ⟨g2, cap, cur, rfl, _, hh, _⟩
        · simp [Value.ownBlock] at he
        · have := (Array.getElem?_eq_some_iff.1 hh).1
          simp [Value.ownBlock] at he
          omega
      have H2 := Lib.hid hown2
      have HV8 := Lib.hid hlv
      have HLO := Lib.hid hlo
      clear hown2 hown1 hown hlv hlo hv
      go_wp2
      go_roundw
      case rel => exact ⟨q, _, Av, cv, os ++ [r], rfl, hq8, rfl, by have := HLQ.out; omega, by rw [HD.out]; simp, by have := H2.out; rw [List.length_append, List.length_singleton, HK.out]; simpa [ints] using this, hb8⟩
      case measure => rw [HV8.out, HLO.out]; omega
end Go.Proofs.Ytaegkhdkhgemmaa

/- Digits, whatever it is called with: a sequence of what is wanted. -/
namespace Go.Proofs.Ytaegkhdkhgemmaa
open Go.RowKit Num

/-- A list of limbs that lies in no block that E names. -/
def LX (E : Nat → Prop) (W : World) (v : Value) (xs : List Nat) : Prop :=
  ∃ A c, v = .slice A xs.length c ∧ xs.length ≤ c ∧ (0 < xs.length → ∃ g off, A = some ⟨g, off, none⟩ ∧ g < W.heap.size ∧ ¬ E g ∧ ∀ (i u : Nat), xs[i]? = some u → W.cell? ⟨g, off + i, none⟩ = some (.int .u32 (u : Int)))
section
variable {E : Nat → Prop} {W W1 : World} {v : Value} {xs : List Nat}
theorem LX.limbs (h : LX E W v xs) (hl : xs.length ≤ 1000000000000) : Limbs W v xs := by
  obtain ⟨A, c, e, hc, hn⟩ := h
  refine ⟨A, c, e, hc, hl, fun hl => ?_⟩
  obtain ⟨g, off, e1, hg, _, hcell⟩ := hn hl
  exact ⟨g, off, e1, hg, hcell⟩
theorem LX.of_own {B' : Nat} (h : OwnLs B' W v xs) (hB : ∀ k, E k → k < B') : LX E W v xs := by
  obtain ⟨A, c, e, hc, hn⟩ := own_reads h
  refine ⟨A, c, e, hc, fun hl => ?_⟩
  obtain ⟨g, off, e1, hg, hcell⟩ := hn hl
  refine ⟨g, off, e1, hg, fun hE => ?_, hcell⟩
  have := hB g hE
  rcases h.2 with ⟨h1, h2⟩ | ⟨g2, cap, cur, h1, h2, _⟩
  · omega
  · rw [e, e1] at h1
    injection h1 with h1 _ _
    injection h1 with h1
    injection h1 with h1 _
    omega
theorem LX.keep (h : LX E W v xs) (hs : W.heap.size ≤ W1.heap.size) (hk : ∀ k, k < W.heap.size → ¬ E k → W1.heap[k]? = W.heap[k]?) : LX E W1 v xs := by
  obtain ⟨A, c, e, hc, hn⟩ := h
  refine ⟨A, c, e, hc, fun hl => ?_⟩
  obtain ⟨g, off, e1, hg, hr, hcell⟩ := hn hl
  exact ⟨g, off, e1, Nat.lt_of_lt_of_le hg hs, hr, fun i u hu => (World.cell?_of_block (hk g hg hr)).trans (hcell i u hu)⟩
theorem LX.below (h : LX E W v xs) (hb : Below W.heap.size W W1) : LX E W1 v xs := h.keep hb.size (fun k hk _ => hb.block k hk)
theorem LX.set (h : LX E W v xs) {B : Nat} (hB : E B) (i : Nat) (u : Value) : LX E (W.setCell ⟨B, i, none⟩ u) v xs :=
  h.keep (by simp) (fun k _ hk => Below.heap_setCell W _ u k (by rintro rfl; exact hk hB))
theorem LX.mono {E' : Nat → Prop} (h : LX E W v xs) (he : ∀ k, k < W.heap.size → E' k → E k) : LX E' W v xs := by
  obtain ⟨A, c, e, hc, hn⟩ := h
  refine ⟨A, c, e, hc, fun hl => ?_⟩
  obtain ⟨g, off, e1, hg, hr, hcell⟩ := hn hl
  exact ⟨g, off, e1, hg, fun h' => hr (he g hg h'), hcell⟩
theorem lx_nil (A : Option Addr) (c : Nat) : LX E W (.slice A 0 c) [] := ⟨A, c, rfl, Nat.zero_le _, fun h => absurd h (by simp)⟩
end

/-- The digits that have come, as numbers. -/
def vals {b : Nat} (pre : List (Fin b)) : List Nat := pre.map (fun x => x.val)
theorem vals_snoc {b : Nat} (pre : List (Fin b)) (x : Fin b) : vals (pre ++ [x]) = vals pre ++ [x.val] := by simp [vals]
theorem vals_len {b : Nat} (pre : List (Fin b)) : (vals pre).length = pre.length := by simp [vals]
theorem vals_low {b : Nat} (pre : List (Fin b)) : Low b (vals pre) := by
  intro x hx
  simp only [vals, List.mem_map] at hx
  obtain ⟨y, _, rfl⟩ := hx
  exact y.2
theorem vals_fds {b : Nat} (hb : 2 ≤ b) {xs : List Nat} (h : Low b xs) : vals (fds b hb xs) = xs := by
  simp only [vals, fds, List.map_map]
  conv => rhs; rw [← List.map_id xs]
  apply List.map_congr_left
  intro x hx
  exact Nat.mod_eq_of_lt (h x hx)

/-- A function value whose sequence gives DS. -/
def SeqOf (gf : Nat) (lb : Array Value) (b : Nat) (DS : List (Fin b)) (w1 : World) : Prop :=
  ∀ (F : Fence) (_ : Free F Try.prog) (_ : F.round = none) (R : World → Nat → Prop) (n : Nat) (w' : World), Below w1.heap.size w1 w' → RB R w'.heap.size → Good R w' →
    SeqStopsK F n Try.prog gf lb (fun y : Fin b => #[Value.int .u32 ((y.val : Nat) : Int)]) (KpS R) (fun ys => ys = DS) (fun pre => pre <+: DS) DS.length w'

/-- What Digits gives of limbs in a base. -/
def wantOf (ys : List Nat) (base : Nat) : List Nat := if chk ys = 0 ∧ 2 ≤ base then dig base (val B32 ys) else []
def DigUPost (ys : List Nat) (base : Nat) (w : World) (e : Ending) (w' : World) : Prop :=
  ∃ (gf : Nat) (lb : Array Value) (b : Nat) (DS : List (Fin b)), e = .returned (.func (.func gf) #[] lb) ∧ b ≤ B32 ∧ (∀ args w, (callFunc gf args).run Try.prog w = .ok (.enter gf args) w) ∧ vals DS = wantOf ys base ∧ SeqOf gf lb b DS w' ∧ Below w.heap.size w w'

theorem digits_u (a : Value) (ys : List Nat) (base : Nat) (w : World) (ha : Limbs w a ys) (hlow : Low B32 ys) (hl : ys.length ≤ 200) (hb : base < B32) : Calls Try.prog 67 #[a, .int .u32 (base : Int)] w (DigUPost ys base w) := by
  by_cases h : chk ys = 0 ∧ 2 ≤ base
  · obtain ⟨h0, h2⟩ := h
    have hn := chk_zero hlow h0
    have hN : N32 w a (val B32 ys) := by
      obtain ⟨A, c, e, hc, _, hnum⟩ := ha
      exact ⟨A, c, by rw [← hn]; exact e, by rw [← hn]; exact hc, by rw [← hn]; exact hnum⟩
    have hlen : (dig B32 (val B32 ys)).length ≤ 200 := by rw [← hn]; exact hl
    refine (digits_ok a (val B32 ys) base w hN (by omega) h2).mono ?_
    rintro e w3 ⟨bb, bw, vw, rfl, g1, g2, g3, g4, g5, g6, g7, hb3⟩
    refine ⟨103, _, base, fds base h2 (dig base (val B32 ys)), rfl, Nat.le_of_lt hb, enters_of Try.func103 (by kernel_rfl) rfl, ?_, ?_, hb3⟩
    · rw [vals_fds h2 (low_dig h2 _), wantOf, if_pos ⟨h0, h2⟩]
    · intro F hF hro R n w' hw hR hG
      have := digits_stops F hF hro R n base bb bw (val B32 ys) vw w' h2 hb (by
        have := words_le (n := val B32 ys) (K := 100) hlen
        omega) (Nat.lt_of_lt_of_le g2 hw.size) ((hw.cell (p := ⟨bb, 0, none⟩) g2).trans g5) (Nat.lt_of_lt_of_le g4 hw.size) ((hw.cell (p := ⟨bw, 0, none⟩) g4).trans g6) (g7.is.keep hw) hR hG
      rwa [← fds_len base h2] at this
  · refine (digits_bad a base ys w ha (by
      rcases Nat.lt_or_ge base 2 with h2 | h2
      · exact .inl h2
      · exact .inr fun h0 => h ⟨h0, h2⟩)).mono ?_
    rintro e w3 ⟨rfl, hb3⟩
    refine ⟨102, #[], 2, [], rfl, by unfold B32; omega, enters_of Try.func102 (by kernel_rfl) rfl, ?_, ?_, hb3⟩
    · rw [wantOf, if_neg h]; rfl
    · intro F hF hro R n w' hw hR hG
      exact nothing_stops F hF hro R n 2 w' _
end Go.Proofs.Ytaegkhdkhgemmaa

/- A loop over a sequence that collects what comes in a slice of its own. -/
namespace Go.Proofs.Ytaegkhdkhgemmaa
open Go.RowKit Num

/-- The box, and the block of what it holds. -/
def RColl (Bg : Nat) (W : World) (k : Nat) : Prop := k = Bg ∨ ∃ v, W.cell? ⟨Bg, 0, none⟩ = some v ∧ v.ownBlock = some k
theorem rcoll_rb {Bg n : Nat} (h : Bg < n) : RB (RColl Bg) n := by
  rintro A B k hb (rfl | ⟨v, hv, ho⟩)
  · exact .inl rfl
  · exact .inr ⟨v, by rw [← hv]; exact (World.cell?_of_block (hb.block Bg h)).symm, ho⟩
theorem ownBlock_lt {W : World} {n₀ e size : Nat} {v : Value} {k g : Nat} {xs : List Value} (h : W.ownsRow n₀ e size v k xs) (hg : v.ownBlock = some g) : g < W.heap.size ∧ n₀ ≤ g ∧ ∃ cur, W.heap[g]? = some (.cells cur e (0, 0)) := by
  rcases h.2 with ⟨rfl, _⟩ | ⟨g2, cap, cur, rfl, h2, hh, _⟩
  · cases hg
  · simp only [Value.ownBlock, Option.some.injEq] at hg
    subst hg
    exact ⟨(Array.getElem?_eq_some_iff.1 hh).1, h2, cur, hh⟩
theorem rcoll_good {W : World} {Bg t n₀ e size k : Nat} {v : Value} {xs : List Value} (hv : Boxed W Bg t v) (hrow : W.ownsRow n₀ e size v k xs) : Good (RColl Bg) W := by
  rintro k (rfl | ⟨u, hu, ho⟩)
  · exact hv.lt
  · rw [hv.cell] at hu
    injection hu with hu
    subst hu
    exact (ownBlock_lt hrow ho).1
theorem ownsRow_grown {W W1 : World} {n₀ e size k : Nat} {v : Value} {xs : List Value} {row : Option Nat} (h : W.ownsRow n₀ e size v k xs) (hg : W.grownBy W1 row) (hr : ∀ r, row = some r → ∃ o : Obj, W.heap[r]? = some o ∧ o.isCells = false) : W1.ownsRow n₀ e size v k xs := by
  refine ⟨h.1, ?_⟩
  rcases h.2 with h | ⟨g, cap, cur, e1, h2, hh, r⟩
  · exact .inl h
  · refine .inr ⟨g, cap, cur, e1, h2, (hg.block g (Array.getElem?_eq_some_iff.1 hh).1 (fun e' => ?_)).trans hh, r⟩
    obtain ⟨o, ho, hc⟩ := hr g e'.symm
    rw [hh] at ho; cases ho; cases hc
/-- Behind an append and the store of what it gave. -/
theorem collected {W w1 : World} {n₀ Bg t e size k m : Nat} {v v' : Value} {xs ys : List Value} {tmp : Obj} (hv : Boxed W Bg t v) (hrow : W.ownsRow n₀ e size v k xs)
    (hown' : w1.ownsRow n₀ e size v' m ys) (hgrow : (W.alloc tmp).grownBy w1 v.ownBlock) (hat : v'.ownBlock = v.ownBlock ∨ v'.ownBlock = some (W.alloc tmp).heap.size) (hte : t ≠ e) : KpS (RColl Bg) W (w1.setCell ⟨Bg, 0, none⟩ v') := by
  have hs : W.heap.size ≤ w1.heap.size := Nat.le_trans (by simp) hgrow.size
  have hv1 : Boxed w1 Bg t v := (hv.alloc tmp).kept hgrow (hv.not_row hte hrow)
  refine ⟨by simpa using hs, fun _ => ⟨fun k o hk _ hn => ?_, fun k hk => ?_⟩⟩
  · have hkl := (Array.getElem?_eq_some_iff.1 hk).1
    have h1 : k ≠ Bg := fun h => hn (.inl h)
    have h2 : some k ≠ v.ownBlock := fun h => hn (.inr ⟨v, hv.cell, h.symm⟩)
    rw [Below.heap_setCell _ _ _ _ h1, hgrow.block k (by simp; omega) h2]
    exact ((Below.refl W.heap.size W).alloc (Nat.le_refl _) tmp).block k hkl |>.trans hk
  · rcases hk with rfl | ⟨u, hu, ho⟩
    · exact ⟨by simp; exact hv1.lt, .inl (.inl rfl)⟩
    · rw [(hv1.set v').cell] at hu
      injection hu with hu
      subst hu
      have hlt := (ownBlock_lt hown' ho).1
      refine ⟨by simpa using hlt, ?_⟩
      rcases hat with h | h
      · exact .inl (.inr ⟨v, hv.cell, by rw [← h]; exact ho⟩)
      · rw [h] at ho
        injection ho with ho
        simp at ho
        exact .inr (by omega)
end Go.Proofs.Ytaegkhdkhgemmaa

/- Which strings are the texts of numbers: isNumber and ref.IsText. -/
namespace Go.Proofs.Ytaegkhdkhgemmaa
open Go.RowKit Num

/-- The bytes of a string, as numbers. -/
def codes (s : ByteArray) : List Nat := s.data.toList.map UInt8.toNat
theorem codes_len (s : ByteArray) : (codes s).length = s.size := by simp [codes]
theorem codes_at (s : ByteArray) (i : Nat) (h : i < s.size) : (codes s)[i]? = some (s[i]'h).toNat := by
  have h2 : i < s.data.toList.length := by simpa using h
  simp only [codes, List.getElem?_map, List.getElem?_eq_getElem h2, Option.map_some]
  rfl
/-- A decimal text: digits only, at least one, and no zero ahead of others. -/
def numTxt (cs : List Nat) : Bool := decide (cs ≠ [] ∧ (∀ x ∈ cs, 48 ≤ x ∧ x ≤ 57) ∧ (cs.length = 1 ∨ cs[0]? ≠ some 48))
theorem numTxt_bad {cs : List Nat} {i x : Nat} (h : cs[i]? = some x) (hx : x < 48 ∨ 57 < x) : numTxt cs = false := by
  refine decide_eq_false fun ⟨_, h2, _⟩ => ?_
  have := h2 x (List.mem_of_getElem? h)
  omega
theorem numTxt_good {cs : List Nat} (h0 : cs ≠ []) (h : ∀ (i : Nat) x, cs[i]? = some x → 48 ≤ x ∧ x ≤ 57) : numTxt cs = decide (cs.length = 1 ∨ cs[0]? ≠ some 48) := by
  unfold numTxt
  refine decide_eq_decide.2 ⟨fun h => h.2.2, fun h1 => ⟨h0, fun x hx => ?_, h1⟩⟩
  obtain ⟨i, hi⟩ := List.getElem?_of_mem hx
  exact h i x hi

theorem toList_codes (s : ByteArray) : codes s = s.toList.map UInt8.toNat := by rw [codes, ByteArray.toList_eq]
theorem toList_eql (s : ByteArray) : (s.toList == [48]) = decide (codes s = [48]) := by
  have h : s.toList = [48] ↔ codes s = [48] := by
    rw [toList_codes]
    constructor
    · intro h; rw [h]; rfl
    · intro h
      obtain ⟨x, l, e, hx, hl⟩ := List.map_eq_cons_iff.1 h
      have hl : l = [] := by simpa using hl
      have hx : x = 48 := UInt8.toNat_inj.1 hx
      rw [e, hl, hx]
  by_cases e : s.toList = [48]
  · rw [decide_eq_true (h.1 e), e]; rfl
  · rw [decide_eq_false fun k => e (h.2 k)]
    exact beq_eq_false_iff_ne.2 e
theorem toList_empty (s : ByteArray) : s.toList.isEmpty = decide (s.size = 0) := by
  have h := codes_len s
  rw [toList_codes, List.length_map] at h
  cases hs : s.toList with
  | nil => rw [hs] at h; simp at h; simp [← h]
  | cons x l => rw [hs] at h; simp at h; simp [← h]

set_option maxHeartbeats 1000000 in
set_option maxRecDepth 100000 in
theorem isNumber_any (s : ByteArray) (w : World) (hl : s.size ≤ 1000000) : Calls Try.prog 99 #[.string s] w fun e w' => e = .returned (.bool (numTxt (codes s))) ∧ w = w' := by
  obtain ⟨r, hr⟩ : ∃ r, numTxt (codes s) = r := ⟨_, rfl⟩
  rw [hr]
  have HR := Lib.hid hr
  clear hr
  go_enter Try.func99, Try.ntmps99
  go_wp2_with (fail)
  go_loop [6] (fun t => ∃ i : Nat, i ≤ s.size ∧ t = .int .i64 (i : Int) ∧ Hid (∀ (j : Nat) x, j < i → (codes s)[j]? = some x → 48 ≤ x ∧ x ≤ 57)) (fun t => s.size - (intOf t).toNat)
  case atStart => exact ⟨0, Nat.zero_le _, rfl, Lib.hid fun j x h => by omega⟩
  case round =>
    obtain ⟨i, hi, rfl, hp⟩ := hrel
    by_cases hlt : i < s.size
    · obtain ⟨x, hx⟩ : ∃ x, (s[i]'hlt).toNat = x := ⟨_, rfl⟩
      have hc := codes_at s i hlt
      rw [hx] at hc
      have HC := Lib.hid hc
      clear hc
      by_cases h1 : x < 48
      · have d1 : decide ((x : Int) < 48) = true := decide_eq_true (by omega)
        go_wp2
        go_ret
        exact ⟨ret_b (a := false) (by rw [← HR.out, numTxt_bad HC.out (.inl h1)]), rfl⟩
      · have d1 : decide ((x : Int) < 48) = false := decide_eq_false (by omega)
        by_cases h2 : 57 < x
        · have d2 : decide ((57 : Int) < x) = true := decide_eq_true (by omega)
          go_wp2
          go_ret
          exact ⟨ret_b (a := false) (by rw [← HR.out, numTxt_bad HC.out (.inr h2)]), rfl⟩
        · have d2 : decide ((57 : Int) < x) = false := decide_eq_false (by omega)
          go_wp2_with (fail)
          go_round
          case rel =>
            refine ⟨i + 1, hlt, by go_num, Lib.hid fun j y hj hy => ?_⟩
            by_cases e : j = i
            · subst e; rw [HC.out] at hy; injection hy with hy; omega
            · exact hp.out j y (by omega) hy
          case measure => simp [intOf]; omega
    · obtain rfl : i = s.size := by omega
      have hall : ∀ (j : Nat) x, (codes s)[j]? = some x → 48 ≤ x ∧ x ≤ 57 := fun j x h => hp.out j x (by have := (List.getElem?_eq_some_iff.1 h).1; rw [codes_len] at this; exact this) h
      have q1 := toList_eql s
      have q2 := toList_empty s
      by_cases h0 : s.size = 0
      · have hc : codes s = [] := List.eq_nil_of_length_eq_zero (by rw [codes_len]; exact h0)
        rw [hc] at q1 HR
        rw [decide_eq_true h0] at q2
        have q1 : (s.toList == [48]) = false := by rw [q1]; rfl
        clear hp hall
        go_wp2
        go_ret
        exact ⟨ret_b (a := false) (by rw [← HR.out]; rfl), rfl⟩
      · obtain ⟨x, hx⟩ : ∃ x, (s[0]'(by omega)).toNat = x := ⟨_, rfl⟩
        have hc := codes_at s 0 (by omega)
        rw [hx] at hc
        rw [decide_eq_false h0] at q2
        have hne : codes s ≠ [] := fun h => by rw [h] at hc; cases hc
        have hg := numTxt_good hne hall
        rw [HR.out] at hg
        obtain ⟨b, hb⟩ : ∃ b, ((x : Int) != 48) = b := ⟨_, rfl⟩
        have hlen := codes_len s
        have fin : (decide (codes s = [48]) || b) = r := by
          rw [hg, ← hb]
          by_cases e : x = 48
          · subst e
            have : codes s = [48] ↔ (codes s).length = 1 := by
              constructor
              · intro h; rw [h]; rfl
              · intro h
                match hcs : codes s, h with
                | [y], _ => rw [hcs] at hc; simp at hc; rw [hc]
            simp [this, hc]
          · have h1 : ((x : Int) != 48) = true := by simp; omega
            have h2 : (codes s)[0]? ≠ some 48 := by rw [hc]; intro h; injection h with h; omega
            rw [h1, Bool.or_true]; exact (decide_eq_true (Or.inr h2)).symm
        obtain ⟨b1, hb1⟩ : ∃ b, decide (codes s = [48]) = b := ⟨_, rfl⟩
        rw [hb1] at q1 fin
        have FIN := Lib.hid fin
        have hpos : 0 < s.size := by omega
        clear hp hall hg hlen fin hne hc hb1
        cases b1 <;> cases b <;> (
          go_wp2
          go_ret
          exact ⟨ret_b FIN.out, rfl⟩)

set_option maxHeartbeats 1000000 in
set_option maxRecDepth 100000 in
theorem isText_any (s : ByteArray) (w : World) (hl : s.size ≤ 1000000) : Calls Try.prog 64 #[.string s] w fun e w' => e = .returned (.bool (numTxt (codes s))) ∧ w = w' := by
  obtain ⟨r, hr⟩ : ∃ r, numTxt (codes s) = r := ⟨_, rfl⟩
  rw [hr]
  have HR := Lib.hid hr
  clear hr
  by_cases h0 : s.size = 0
  · have hc : codes s = [] := List.eq_nil_of_length_eq_zero (by rw [codes_len]; exact h0)
    rw [hc] at HR
    go_enter Try.func64, Try.ntmps64
    go_wp2
    go_ret
    exact ⟨ret_b (a := false) (by rw [← HR.out]; rfl), rfl⟩
  · obtain ⟨x0, hx⟩ : ∃ x, (s[0]'(by omega)).toNat = x := ⟨_, rfl⟩
    have hc := codes_at s 0 (by omega)
    rw [hx] at hc
    have hlen := codes_len s
    have hq : ((s.size : Int) == 0) = false := beq_eq_false_iff_ne.2 (by omega)
    have hne : codes s ≠ [] := fun h => by rw [h] at hc; cases hc
    have hlen' := hlen
    by_cases hbad : 1 < s.size ∧ x0 = 48
    · obtain ⟨h1, rfl⟩ := hbad
      have hf : numTxt (codes s) = false := decide_eq_false fun ⟨_, _, h⟩ => by
        rcases h with h | h
        · omega
        · exact h hc
      have HF := Lib.hid hf
      clear hc hlen hne hf
      have hd : decide ((1 : Int) < (s.size : Int)) = true := decide_eq_true (by omega)
      go_enter Try.func64, Try.ntmps64
      go_wp2
      go_ret
      exact ⟨ret_b (a := false) (by rw [← HR.out, HF.out]), rfl⟩
    · have hok : (codes s).length = 1 ∨ (codes s)[0]? ≠ some 48 := by
        rw [hc, hlen]
        by_cases h1 : s.size = 1
        · exact .inl h1
        · refine .inr fun h => ?_
          injection h with h
          exact hbad ⟨by omega, h⟩
      have HOK := Lib.hid hok
      have HNE := Lib.hid hne
      obtain ⟨b, hb⟩ : ∃ b, ((x0 : Int) == 48) = b := ⟨_, rfl⟩
      have hdb : decide ((1 : Int) < (s.size : Int)) = false ∨ (decide ((1 : Int) < (s.size : Int)) = true ∧ b = false) := by
        by_cases h1 : 1 < s.size
        · refine .inr ⟨decide_eq_true (by omega), ?_⟩
          rw [← hb]
          have : x0 ≠ 48 := fun h => hbad ⟨h1, h⟩
          simp; omega
        · exact .inl (decide_eq_false (by omega))
      clear hok hne hbad hc hlen
      rcases hdb with hd | ⟨hd, rfl⟩
      · go_enter Try.func64, Try.ntmps64
        go_wp2_with (fail)
        go_loop [3] (fun t => ∃ i : Nat, i ≤ s.size ∧ t = .int .i64 (i : Int) ∧ Hid (∀ (j : Nat) x, j < i → (codes s)[j]? = some x → 48 ≤ x ∧ x ≤ 57)) (fun t => s.size - (intOf t).toNat)
        case atStart => exact ⟨0, Nat.zero_le _, rfl, Lib.hid fun j x h => by omega⟩
        case round =>
          clear hx hb hd hq
          obtain ⟨i, hi, rfl, hp⟩ := hrel
          by_cases hlt : i < s.size
          · obtain ⟨x, hx⟩ : ∃ x, (s[i]'hlt).toNat = x := ⟨_, rfl⟩
            have hc := codes_at s i hlt
            rw [hx] at hc
            have HC := Lib.hid hc
            clear hc
            by_cases h1 : x < 48
            · have d1 : decide ((x : Int) < 48) = true := decide_eq_true (by omega)
              go_wp2
              go_ret
              exact ⟨ret_b (a := false) (by rw [← HR.out, numTxt_bad HC.out (.inl h1)]), rfl⟩
            · have d1 : decide ((x : Int) < 48) = false := decide_eq_false (by omega)
              by_cases h2 : 57 < x
              · have d2 : decide ((57 : Int) < x) = true := decide_eq_true (by omega)
                go_wp2
                go_ret
                exact ⟨ret_b (a := false) (by rw [← HR.out, numTxt_bad HC.out (.inr h2)]), rfl⟩
              · have d2 : decide ((57 : Int) < x) = false := decide_eq_false (by omega)
                go_wp2_with (fail)
                go_round
                case rel =>
                  refine ⟨i + 1, hlt, by go_num, Lib.hid fun j y hj hy => ?_⟩
                  by_cases e : j = i
                  · subst e; rw [HC.out] at hy; injection hy with hy; omega
                  · exact hp.out j y (by omega) hy
                case measure => simp [intOf]; omega
          · obtain rfl : i = s.size := by omega
            go_wp2
            go_ret
            exact ⟨ret_b (a := true) (by rw [← HR.out, numTxt_good HNE.out (fun j x h => hp.out j x (by have := (List.getElem?_eq_some_iff.1 h).1; rw [codes_len] at this; exact this) h), decide_eq_true HOK.out]), rfl⟩
      · go_enter Try.func64, Try.ntmps64
        go_wp2_with (fail)
        go_loop [3] (fun t => ∃ i : Nat, i ≤ s.size ∧ t = .int .i64 (i : Int) ∧ Hid (∀ (j : Nat) x, j < i → (codes s)[j]? = some x → 48 ≤ x ∧ x ≤ 57)) (fun t => s.size - (intOf t).toNat)
        case atStart => exact ⟨0, Nat.zero_le _, rfl, Lib.hid fun j x h => by omega⟩
        case round =>
          clear hx hb hd hq
          obtain ⟨i, hi, rfl, hp⟩ := hrel
          by_cases hlt : i < s.size
          · obtain ⟨x, hx⟩ : ∃ x, (s[i]'hlt).toNat = x := ⟨_, rfl⟩
            have hc := codes_at s i hlt
            rw [hx] at hc
            have HC := Lib.hid hc
            clear hc
            by_cases h1 : x < 48
            · have d1 : decide ((x : Int) < 48) = true := decide_eq_true (by omega)
              go_wp2
              go_ret
              exact ⟨ret_b (a := false) (by rw [← HR.out, numTxt_bad HC.out (.inl h1)]), rfl⟩
            · have d1 : decide ((x : Int) < 48) = false := decide_eq_false (by omega)
              by_cases h2 : 57 < x
              · have d2 : decide ((57 : Int) < x) = true := decide_eq_true (by omega)
                go_wp2
                go_ret
                exact ⟨ret_b (a := false) (by rw [← HR.out, numTxt_bad HC.out (.inr h2)]), rfl⟩
              · have d2 : decide ((57 : Int) < x) = false := decide_eq_false (by omega)
                go_wp2_with (fail)
                go_round
                case rel =>
                  refine ⟨i + 1, hlt, by go_num, Lib.hid fun j y hj hy => ?_⟩
                  by_cases e : j = i
                  · subst e; rw [HC.out] at hy; injection hy with hy; omega
                  · exact hp.out j y (by omega) hy
                case measure => simp [intOf]; omega
          · obtain rfl : i = s.size := by omega
            go_wp2
            go_ret
            exact ⟨ret_b (a := true) (by rw [← HR.out, numTxt_good HNE.out (fun j x h => hp.out j x (by have := (List.getElem?_eq_some_iff.1 h).1; rw [codes_len] at this; exact this) h), decide_eq_true HOK.out]), rfl⟩
end Go.Proofs.Ytaegkhdkhgemmaa

namespace Go.Proofs.Ytaegkhdkhgemmaa
open Go.RowKit Num

set_option maxHeartbeats 1000000 in
set_option maxRecDepth 100000 in
theorem times_any (a : Value) (m v : Nat) (w : World) (ha : N32 w a m) (hm : (dig B32 m).length ≤ 1000) (hv : v < B32) : Calls Try.prog 89 #[a, .int .u32 (v : Int)] w (LsPost w (dig B32 (m * v))) := by
  have hv64 : v < B64 := by unfold B32 at hv; unfold B64; omega
  have hof := refOf_any v hv64 w
  have w1 : IntKind.u64.wrap (v : Int) = (v : Int) := by unfold B32 at hv; rw [IntKind.wrap_u64]; omega
  have hl2 := len_u64 hv64
  have hmul := fun b w' (h : Below w.heap.size w w') (k : OwnLs w.heap.size w' b (dig B32 v)) => refMul_call a b m v w' (ha.keep h) (k.limbs (by omega)).is (by omega) (by omega)
  have HOF := Lib.hid hof
  have HM := Lib.hid hmul
  clear hof hmul hv hv64 ha hl2
  go_enter Try.func89, Try.ntmps89
  go_wp2_with (first
    | (go_at_call 34; refine HOF.out.mono ?_; rintro e w2 ⟨v2, rfl, hv2, hb2⟩)
    | (go_at_call 46; refine (HM.out _ _ hb2 hv2).mono ?_; rintro e w3 ⟨v3, rfl, hv3, hb3⟩))
  go_ret
  exact ⟨_, rfl, hv3.mono hb2.size, below_at hb2 (Nat.le_refl _) hb3⟩

theorem zeros_snoc (k : Nat) : ints .u32 (List.replicate k 0) ++ [.int .u32 0] = ints .u32 (List.replicate (k + 1) 0) := by
  rw [List.replicate_succ']; simp [ints]
theorem take_snoc_ints {xs : List Nat} {k v : Nat} (zs : List Nat) (h : xs[k]? = some v) : ints .u32 (zs ++ xs.take k) ++ [.int .u32 (v : Int)] = ints .u32 (zs ++ xs.take (k + 1)) := by
  obtain ⟨hk, he⟩ := List.getElem?_eq_some_iff.1 h
  rw [List.take_succ_eq_append_getElem hk, he]; simp [ints]
theorem two_pow_32 {k : Nat} (h : k < 32) : 2 ^ k < B32 := by
  have := Nat.pow_lt_pow_right (a := 2) (by omega) h
  unfold B32; simpa using this
theorem dbl_ex (k : Nat) (h : k + 1 < 32) : ∃ p q : Nat, 2 ^ k = p ∧ 2 ^ (k + 1) = q ∧ IntKind.u32.wrap ((p : Int) * 2) = (q : Int) ∧ ((p : Int) * 2) % 4294967296 = (q : Int) := by
  have h1 := two_pow_32 h
  have h2 : 2 ^ (k + 1) = 2 ^ k * 2 := Nat.pow_succ _ _
  refine ⟨_, _, rfl, rfl, ?_, ?_⟩
  · unfold B32 at h1; rw [IntKind.wrap_u32', h2]; omega
  · unfold B32 at h1; rw [h2]; omega

theorem ownLs_of {B n : Nat} {w : World} {v : Value} {zs : List Nat} (h : w.ownsRow B 56 1 v n (ints .u32 zs)) (hn : zs.length = n) : OwnLs B w v zs := by
  subst hn; exact h

def PowIs (p k : Nat) : Prop := p = 2 ^ k
theorem powIs_step {p k : Nat} (h : PowIs p k) (hk : k + 1 < 32) : ∃ q : Nat, PowIs q (k + 1) ∧ IntKind.u32.wrap ((p : Int) * 2) = (q : Int) ∧ ((p : Int) * 2) % 4294967296 = (q : Int) := by
  obtain ⟨p', q, e1, e2, e3, e4⟩ := dbl_ex k hk
  obtain rfl : p = p' := h.trans e1
  exact ⟨q, e2.symm, e3, e4⟩

set_option maxHeartbeats 4000000 in
set_option maxRecDepth 100000 in
theorem left_any (a : Value) (m n : Nat) (w : World) (ha : N32 w a m) (hm : (dig B32 m).length ≤ 500) (hn : n ≤ 10000) : Calls Try.prog 50 #[a, .int .i64 (n : Int)] w (LsPost w (dig B32 (m * 2 ^ n))) := by
  obtain ⟨wh, s, hs, rfl⟩ : ∃ wh s, s < 32 ∧ n = 32 * wh + s := ⟨n / 32, n % 32, Nat.mod_lt _ (by omega), by omega⟩
  have e1 : ((32 * wh + s : Nat) : Int) / 32 = (wh : Int) := by omega
  have e2 : ((32 * wh + s : Nat) : Int) % 32 = (s : Int) := by omega
  have e3 : ((32 * wh + s : Nat) : Int).tdiv 32 = (wh : Int) := by rw [Int.tdiv_eq_ediv_of_nonneg (by omega)]; exact e1
  have e4 : ((32 * wh + s : Nat) : Int).tmod 32 = (s : Int) := by rw [Int.tmod_eq_emod_of_nonneg (by omega)]; exact e2
  have hwh : wh ≤ 400 := by omega
  generalize hF : ((32 * wh + s : Nat) : Int) = F at *
  have hF0 : 0 ≤ F := by omega
  have hF1 : F ≤ 10000 := by omega
  clear hF hn
  have hfin : m * 2 ^ (32 * wh + s) = val B32 (List.replicate wh 0 ++ dig B32 m) * 2 ^ s := by
    have h32 : B32 ^ wh = 2 ^ (32 * wh) := by rw [Nat.pow_mul]; rfl
    rw [val_append, val_replicate, val_dig b32_two, List.length_replicate, Nat.pow_add, h32, Nat.zero_add, Nat.mul_comm (2 ^ (32 * wh)) m, Nat.mul_assoc]
  obtain ⟨A, c, rfl, _, hA⟩ := ha
  have hlow := low_dig b32_two m
  obtain ⟨xs, hxs⟩ : ∃ xs, dig B32 m = xs := ⟨_, rfl⟩
  rw [hxs] at hlow hfin hm hA ⊢
  obtain ⟨L, hL⟩ : ∃ L, xs.length = L := ⟨_, rfl⟩
  rw [hL] at hm ⊢
  obtain ⟨i0, hi, hz0, hz1, hz2⟩ := info_parts info56
  have ho := own_empty w 56
  have hbA := below_new w (.cells #[] 56)
  have hlowz : Low B32 (List.replicate wh 0 ++ xs) := (Low.replicate b32_pos _).append hlow
  have hlz : (List.replicate wh 0 ++ xs).length = wh + L := by simp [hL]
  have htr := fun (w' : World) a (k : OwnLs w.heap.size w' a (List.replicate wh 0 ++ xs)) => refTrim_l a _ w' (k.limbs (by omega)) hlowz (by omega)
  have htl : (dig B32 (val B32 (List.replicate wh 0 ++ xs))).length ≤ 1000 := Nat.le_trans (trim_le b32_two hlowz) (by omega)
  have htm := fun (w' w'' : World) a (k : OwnLs w'.heap.size w'' a (dig B32 (val B32 (List.replicate wh 0 ++ xs)))) => times_any a _ (2 ^ s) w'' (k.limbs (by omega)).is htl (two_pow_32 hs)
  rw [hfin]
  generalize hV : val B32 (List.replicate wh 0 ++ xs) = V at *
  have HO := Lib.hid ho
  have HL := Lib.hid hL
  have HTR := Lib.hid htr
  have HTM := Lib.hid htm
  clear ho hL htr htm hxs hV hfin hlowz htl hlz hlow
  go_enter Try.func50, Try.ntmps50
  go_wp2
  go_loopw [5, 6] (fun out t wr => ∃ k : Nat, k ≤ wh ∧ t = .int .i64 (k : Int) ∧ wr.ownsRow w.heap.size 56 1 out k (ints .u32 (List.replicate k 0)) ∧ Below w.heap.size w wr) (fun _ t _ => wh - (intOf t).toNat)
  case atStart => exact ⟨0, Nat.zero_le _, rfl, HO.out, hbA⟩
  case round =>
    clear hbA HO
    obtain ⟨k, hk, rfl, hown, hbl⟩ := hrel
    by_cases hlt : k < wh
    · have hzs := zeros_snoc k
      have HZ := Lib.hid hzs
      clear hzs hA
      go_wp2_with (at_builtin
                   refine wpList_append_own _ rfl _ _ 35 rfl w.heap.size 56 i0 (.int .u32 0) 1 4 Try.underlying35 hi hz0 hz1 hz2 rfl (by decide) _ (k) _ rfl (hown.alloc _) ⟨wr.heap.size, 0, none⟩ 1 1 [.int .u32 0] rfl rfl (cell_one_new _ _ _) (ints_one .u32 [0]) ?c4 ?c5 (Nat.le_trans hbl.size (by simp)) ?_)
      case c4 => unfold maxLen; omega
      case c5 => omega
      intro v' w8 hown1 hgr1 _
      have hb1 : Below w.heap.size w w8 := (hbl.alloc hbl.size _).grown hgr1 (Nat.le_trans hbl.size (by simp)) (fun g' hg' => by
        rcases hown.2 with ⟨rfl, _⟩ | ⟨g2, cap, cur, rfl, hg2, _⟩
        · simp [Value.ownBlock] at hg'
        · simp [Value.ownBlock] at hg'; omega)
      rw [HZ.out] at hown1
      have H1 := Lib.hid hown1
      clear hown1 hown
      go_wp2
      go_roundw
      case rel => exact ⟨k + 1, by omega, by go_num, H1.out, hb1⟩
      case measure => simp [intOf]; omega
    · obtain rfl : k = wh := by omega
      clear hlt
      have H0 := Lib.hid hown
      clear hown
      go_wp2
      go_loopw [5, 7] (fun out t wr => ∃ j : Nat, j ≤ L ∧ t = .int .i64 (j : Int) ∧ wr.ownsRow w.heap.size 56 1 out (k + j) (ints .u32 (List.replicate k 0 ++ xs.take j)) ∧ Below w.heap.size w wr) (fun _ t _ => L - (intOf t).toNat)
      case atStart => exact ⟨0, Nat.zero_le _, rfl, by simpa using H0.out, hbl⟩
      case round =>
        clear H0 hbl
        obtain ⟨j, hj, rfl, hown, hbl⟩ := hrel
        by_cases hlt : j < L
        · obtain ⟨g, off, x, rfl, hg, hxv, hcx⟩ := (hA.keep hbl).at_ (i := j) (by have := HL.out; omega)
          have hts := take_snoc_ints (List.replicate k 0) hxv
          have HT := Lib.hid hts
          clear hts hxv
          go_wp2_with (at_builtin
                       refine wpList_append_own _ rfl _ _ 35 rfl w.heap.size 56 i0 (.int .u32 0) 1 4 Try.underlying35 hi hz0 hz1 hz2 rfl (by decide) _ (k + j) _ rfl (hown.alloc _) ⟨wr.heap.size, 0, none⟩ 1 1 [.int .u32 (x : Int)] rfl rfl (cell_one_new _ _ _) (ints_one .u32 [x]) ?c4 ?c5 (Nat.le_trans hbl.size (by simp)) ?_)
          case c4 => unfold maxLen; omega
          case c5 => omega
          intro v' w8 hown1 hgr1 _
          have hb1 : Below w.heap.size w w8 := (hbl.alloc hbl.size _).grown hgr1 (Nat.le_trans hbl.size (by simp)) (fun g' hg' => by
            rcases hown.2 with ⟨rfl, _⟩ | ⟨g2, cap, cur, rfl, hg2, _⟩
            · simp [Value.ownBlock] at hg'
            · simp [Value.ownBlock] at hg'; omega)
          rw [HT.out] at hown1
          have H1 := Lib.hid hown1
          clear hown1 hown
          go_wp2
          go_roundw
          case rel => exact ⟨j + 1, by omega, by go_num, H1.out, hb1⟩
          case measure => simp [intOf]; omega
        · obtain rfl : j = L := by omega
          clear hlt
          rw [List.take_of_length_le (by have := HL.out; omega)] at hown
          have hls := ownLs_of (zs := List.replicate k 0 ++ xs) hown (by simp [HL.out])
          have HOWN := Lib.hid hls
          clear hown hls hA
          go_wp2
          go_loop [8, 9] (fun q t => ∃ i p : Nat, i ≤ s ∧ t = .int .i64 (i : Int) ∧ q = .int .u32 (p : Int) ∧ PowIs p i) (fun _ t => s - (intOf t).toNat)
          case atStart => exact ⟨0, 1, Nat.zero_le _, rfl, rfl, rfl⟩
          case round =>
            obtain ⟨i, p, hi', rfl, rfl, hp⟩ := hrel
            by_cases hlt : i < s
            · obtain ⟨q, hq, w1, w2⟩ := powIs_step hp (by omega)
              have HQ := Lib.hid hq
              clear hq hp
              go_wp2
              go_round
              case rel => exact ⟨i + 1, q, by omega, by go_num, rfl, HQ.out⟩
              case measure => simp [intOf]; omega
            · obtain rfl : i = s := by omega
              clear hlt
              obtain rfl : p = 2 ^ i := hp
              have HTM' : ∀ (w' w'' : World) (a : Value), OwnLs w'.heap.size w'' a (dig B32 V) → Calls Try.prog 89 #[a, .int .u32 ((2 ^ i : Nat) : Int)] w'' (LsPost w'' (dig B32 (V * 2 ^ i))) := HTM.out
              generalize 2 ^ i = P at *
              have HTM2 := Lib.hid HTM'
              clear HTM' HTM
              go_wp2_with (first
                | (go_at_call 80; refine (HTR.out _ _ HOWN.out).mono ?_; rintro e w5 ⟨v5, rfl, hv5, hb5⟩)
                | (go_at_call 89; refine (HTM2.out _ _ _ hv5).mono ?_; rintro e w6 ⟨v6, rfl, hv6, hb6⟩))
              go_ret
              have b5 := below_at hbl (Nat.le_refl _) hb5
              exact ⟨_, rfl, hv6.mono b5.size, below_at b5 (Nat.le_refl _) hb6⟩

theorem right_val (m wh s : Nat) : m / 2 ^ (32 * wh + s) = val B32 ((dig B32 m).drop wh) / 2 ^ s := by
  have h32 : B32 ^ wh = 2 ^ (32 * wh) := by rw [Nat.pow_mul]; rfl
  have hv : val B32 ((dig B32 m).drop wh) = m / B32 ^ wh := by
    by_cases hl : wh ≤ (dig B32 m).length
    · have h1 := val_take_drop B32 (dig B32 m) wh hl
      rw [val_dig b32_two] at h1
      have h2 := val_lt B32 _ ((low_dig b32_two m).take wh)
      rw [List.length_take, Nat.min_eq_left hl] at h2
      rw [h1, Nat.add_mul_div_left _ _ (Nat.pow_pos b32_pos), Nat.div_eq_of_lt h2, Nat.zero_add, ← h1]
    · rw [List.drop_of_length_le (by omega)]
      have h1 := dig_len_lt b32_two (n := m)
      have h2 : B32 ^ (dig B32 m).length ≤ B32 ^ wh := Nat.pow_le_pow_right b32_pos (by omega)
      rw [Nat.div_eq_of_lt (by omega)]; rfl
  rw [hv, Nat.pow_add, h32, Nat.div_div_eq_div_mul]
theorem drop_snoc_ints {xs : List Nat} {wh k v : Nat} (h : xs[wh + k]? = some v) : ints .u32 ((xs.drop wh).take k) ++ [.int .u32 (v : Int)] = ints .u32 ((xs.drop wh).take (k + 1)) := by
  have h2 : (xs.drop wh)[k]? = some v := by rw [List.getElem?_drop]; exact h
  obtain ⟨hk, he⟩ := List.getElem?_eq_some_iff.1 h2
  rw [List.take_succ_eq_append_getElem hk, he]; simp [ints]

set_option maxHeartbeats 4000000 in
set_option maxRecDepth 100000 in
theorem right_any (a : Value) (m n : Nat) (w : World) (ha : N32 w a m) (hm : (dig B32 m).length ≤ 500) (hn : n ≤ 10000) : Calls Try.prog 51 #[a, .int .i64 (n : Int)] w (LsPost w (dig B32 (m / 2 ^ n))) := by
  obtain ⟨wh, s, hs, rfl⟩ : ∃ wh s, s < 32 ∧ n = 32 * wh + s := ⟨n / 32, n % 32, Nat.mod_lt _ (by omega), by omega⟩
  have e1 : ((32 * wh + s : Nat) : Int) / 32 = (wh : Int) := by omega
  have e2 : ((32 * wh + s : Nat) : Int) % 32 = (s : Int) := by omega
  have e3 : ((32 * wh + s : Nat) : Int).tdiv 32 = (wh : Int) := by rw [Int.tdiv_eq_ediv_of_nonneg (by omega)]; exact e1
  have e4 : ((32 * wh + s : Nat) : Int).tmod 32 = (s : Int) := by rw [Int.tmod_eq_emod_of_nonneg (by omega)]; exact e2
  have hwh : wh ≤ 400 := by omega
  have hfin := right_val m wh s
  generalize hF : ((32 * wh + s : Nat) : Int) = F at *
  have hF0 : 0 ≤ F := by omega
  have hF1 : F ≤ 10000 := by omega
  clear hF hn
  obtain ⟨A, c, rfl, _, hA⟩ := ha
  have hlow := low_dig b32_two m
  obtain ⟨xs, hxs⟩ : ∃ xs, dig B32 m = xs := ⟨_, rfl⟩
  rw [hxs] at hlow hfin hm hA ⊢
  obtain ⟨L, hL⟩ : ∃ L, xs.length = L := ⟨_, rfl⟩
  rw [hL] at hm ⊢
  obtain ⟨i0, hi, hz0, hz1, hz2⟩ := info_parts info56
  have ho := own_empty w 56
  have hbA := below_new w (.cells #[] 56)
  have hlowz : Low B32 (xs.drop wh) := hlow.drop wh
  have hlz : (xs.drop wh).length ≤ L := by simp [hL]
  have htr := fun (w' : World) a (k : OwnLs w.heap.size w' a (xs.drop wh)) => refTrim_l a _ w' (k.limbs (by omega)) hlowz (by omega)
  have htl : (dig B32 (val B32 (xs.drop wh))).length ≤ 1000 := Nat.le_trans (trim_le b32_two hlowz) (by omega)
  have htm : ∀ (w' w'' : World) (a : Value), OwnLs w'.heap.size w'' a (dig B32 (val B32 (xs.drop wh))) → Calls Try.prog 94 #[a, .int .u32 ((2 ^ s : Nat) : Int)] w'' (OverPost w'' (dig B32 (val B32 (xs.drop wh) / 2 ^ s)) (val B32 (xs.drop wh) % 2 ^ s)) := fun w' w'' a k => by
    obtain ⟨A', c', rfl, _, hA'⟩ := (k.limbs (by omega)).is
    have := refOver_any A' c' _ (2 ^ s) _ w'' hA' (low_dig b32_two _) rfl (by omega) (Nat.pow_pos (by omega)) (two_pow_32 hs)
    rw [val_dig b32_two] at this
    exact this
  rw [hfin]
  generalize hV : val B32 (xs.drop wh) = V at *
  have HO := Lib.hid ho
  have HL := Lib.hid hL
  have HTR := Lib.hid htr
  have HTM := Lib.hid htm
  clear ho hL htr htm hxs hV hfin hlowz htl hlz hlow
  go_enter Try.func51, Try.ntmps51
  go_wp2
  go_loopw [5, 6] (fun out t wr => ∃ k : Nat, (wh + k ≤ L ∨ k = 0) ∧ t = .int .i64 ((wh + k : Nat) : Int) ∧ wr.ownsRow w.heap.size 56 1 out k (ints .u32 ((xs.drop wh).take k)) ∧ Below w.heap.size w wr) (fun _ t _ => L - (intOf t).toNat)
  case atStart => exact ⟨0, .inr rfl, rfl, by simpa [ints] using HO.out, hbA⟩
  case round =>
    clear hbA HO
    obtain ⟨k, hk, rfl, hown, hbl⟩ := hrel
    by_cases hlt : wh + k < L
    · obtain ⟨g, off, x, rfl, hg, hxv, hcx⟩ := (hA.keep hbl).at_ (i := wh + k) (by have := HL.out; omega)
      have hts := drop_snoc_ints hxv
      have HT := Lib.hid hts
      clear hts hxv
      go_wp2_with (at_builtin
                   refine wpList_append_own _ rfl _ _ 35 rfl w.heap.size 56 i0 (.int .u32 0) 1 4 Try.underlying35 hi hz0 hz1 hz2 rfl (by decide) _ (k) _ rfl (hown.alloc _) ⟨wr.heap.size, 0, none⟩ 1 1 [.int .u32 (x : Int)] rfl rfl (cell_one_new _ _ _) (ints_one .u32 [x]) ?c4 ?c5 (Nat.le_trans hbl.size (by simp)) ?_)
      case c4 => unfold maxLen; omega
      case c5 => omega
      intro v' w8 hown1 hgr1 _
      have hb1 : Below w.heap.size w w8 := (hbl.alloc hbl.size _).grown hgr1 (Nat.le_trans hbl.size (by simp)) (fun g' hg' => by
        rcases hown.2 with ⟨rfl, _⟩ | ⟨g2, cap, cur, rfl, hg2, _⟩
        · simp [Value.ownBlock] at hg'
        · simp [Value.ownBlock] at hg'; omega)
      rw [HT.out] at hown1
      have H1 := Lib.hid hown1
      clear hown1 hown
      go_wp2
      go_roundw
      case rel => exact ⟨k + 1, by omega, by go_num, H1.out, hb1⟩
      case measure => simp [intOf]; omega
    · have hls := ownLs_of (zs := xs.drop wh) (n := k) (by rw [List.take_of_length_le (by rw [List.length_drop, HL.out]; omega)] at hown; exact hown) (by rw [List.length_drop, HL.out]; omega)
      have HOWN := Lib.hid hls
      clear hown hls hA
      go_wp2
      go_loop [7, 8] (fun q t => ∃ i p : Nat, i ≤ s ∧ t = .int .i64 (i : Int) ∧ q = .int .u32 (p : Int) ∧ PowIs p i) (fun _ t => s - (intOf t).toNat)
      case atStart => exact ⟨0, 1, Nat.zero_le _, rfl, rfl, rfl⟩
      case round =>
        obtain ⟨i, p, hi', rfl, rfl, hp⟩ := hrel
        by_cases hlt2 : i < s
        · obtain ⟨q, hq, w1, w2⟩ := powIs_step hp (by omega)
          have HQ := Lib.hid hq
          clear hq hp
          go_wp2
          go_round
          case rel => exact ⟨i + 1, q, by omega, by go_num, rfl, HQ.out⟩
          case measure => simp [intOf]; omega
        · obtain rfl : i = s := by omega
          clear hlt2
          obtain rfl : p = 2 ^ i := hp
          have HTM' : ∀ (w' w'' : World) (a : Value), OwnLs w'.heap.size w'' a (dig B32 V) → Calls Try.prog 94 #[a, .int .u32 ((2 ^ i : Nat) : Int)] w'' (OverPost w'' (dig B32 (V / 2 ^ i)) (V % 2 ^ i)) := HTM.out
          generalize 2 ^ i = P at *
          have HTM2 := Lib.hid HTM'
          clear HTM' HTM
          go_wp2_with (first
            | (go_at_call 80; refine (HTR.out _ _ HOWN.out).mono ?_; rintro e w5 ⟨v5, rfl, hv5, hb5⟩)
            | (go_at_call 94; refine (HTM2.out _ _ _ hv5).mono ?_; rintro e w6 ⟨v6, rfl, hv6, hb6⟩))
          go_ret
          have b5 := below_at hbl (Nat.le_refl _) hb5
          exact ⟨_, rfl, hv6.mono b5.size, below_at b5 (Nat.le_refl _) hb6⟩
end Go.Proofs.Ytaegkhdkhgemmaa

/- ref.Parse: the number of a decimal text. -/
namespace Go.Proofs.Ytaegkhdkhgemmaa
open Go.RowKit Num

/-- The number that decimal digits say. -/
def dval (cs : List Nat) : Nat := cs.foldl (fun a x => a * 10 + (x - 48)) 0
theorem dval_step {cs : List Nat} {i x : Nat} (h : cs[i]? = some x) : dval (cs.take (i + 1)) = dval (cs.take i) * 10 + (x - 48) := by
  unfold dval
  rw [List.take_add_one, h, Option.toList_some, List.foldl_append]
  rfl
theorem dval_lt (cs : List Nat) (hd : ∀ x ∈ cs, x ≤ 57) (i : Nat) : dval (cs.take i) < 10 ^ i := by
  induction i with
  | zero => simp [dval]
  | succ i ih =>
    cases h : cs[i]? with
    | none =>
      rw [List.take_add_one, h]
      simp only [Option.toList_none, List.append_nil]
      rw [Nat.pow_succ]; omega
    | some x =>
      rw [dval_step h, Nat.pow_succ]
      have := hd x (List.mem_of_getElem? h)
      omega
theorem len_ten {n K : Nat} (h : n < 10 ^ K) : (dig B32 n).length ≤ K := dig_len_le b32_two (Nat.lt_of_lt_of_le h (Nat.pow_le_pow_left (by unfold B32; omega) _))
theorem n32_nil (w : World) : N32 (w.alloc (.cells #[] 56)) (.slice (some ⟨w.heap.size, 0, none⟩) 0 0) 0 :=
  ⟨some ⟨w.heap.size, 0, none⟩, 0, by rw [dig_zero]; rfl, by rw [dig_zero]; exact Nat.le_refl _, by rw [dig_zero]; exact Nums.nil⟩

set_option maxHeartbeats 4000000 in
set_option maxRecDepth 100000 in
theorem refParse_any (s : ByteArray) (w : World) (hl : s.size ≤ 900) (hd : ∀ x ∈ codes s, 48 ≤ x ∧ x ≤ 57) : Calls Try.prog 65 #[.string s] w fun e w' => ∃ v, e = .returned v ∧ N32 w' v (dval (codes s)) ∧ Below w.heap.size w w' := by
  have hlt := dval_lt (codes s) fun x h => (hd x h).2
  have h89 : ∀ a m w, N32 w a m → (dig B32 m).length ≤ 1000 → Calls Try.prog 89 #[a, .int .u32 10] w (LsPost w (dig B32 (m * 10))) := fun a m w h hm => times_any a m 10 w h hm (by unfold B32; omega)
  have h34 := fun v w (hv : v ≤ 9) => refOf_any v (by unfold B64; omega) w
  have h43 := fun a b m n w h k hm hn => refAdd_call a b m n w h k hm hn
  have h0 := n32_nil w
  have b0 := below_new w (.cells #[] 56)
  have HD := Lib.hid hd
  have HLT := Lib.hid hlt
  have H89 := Lib.hid h89
  have H34 := Lib.hid h34
  have H43 := Lib.hid h43
  clear hd hlt h89 h34 h43
  go_enter Try.func65, Try.ntmps65
  go_wp2_with (fail)
  go_loopw [3, 4] (fun v t wr => ∃ i : Nat, i ≤ s.size ∧ t = .int .i64 (i : Int) ∧ N32 wr v (dval ((codes s).take i)) ∧ Below w.heap.size w wr) (fun _ t _ => s.size - (intOf t).toNat)
  case atStart => exact ⟨0, Nat.zero_le _, rfl, h0, b0⟩
  case round =>
    clear h0 b0
    obtain ⟨i, hi, rfl, hv, hbl⟩ := hrel
    by_cases hlt : i < s.size
    · obtain ⟨x, hx⟩ : ∃ x, (s[i]'hlt).toNat = x := ⟨_, rfl⟩
      have hc := codes_at s i hlt
      rw [hx] at hc
      have hx2 := HD.out x (List.mem_of_getElem? hc)
      obtain ⟨d, hd⟩ : ∃ d, x = 48 + d := ⟨x - 48, by omega⟩
      have hst := dval_step hc
      have hb := HLT.out i
      have hb2 := HLT.out (i + 1)
      have hdd : x - 48 = d := by omega
      rw [hst, hdd] at hb2
      rw [hdd] at hst
      generalize dval ((codes s).take i) = n at *
      have l1 : (dig B32 n).length ≤ 1000 := Nat.le_trans (len_ten hb) (by omega)
      have l2 : (dig B32 (n * 10)).length ≤ 1000000 := Nat.le_trans (len_ten (K := i + 1) (by omega)) (by omega)
      have l3 : (dig B32 d).length ≤ 1000000 := Nat.le_trans (len_ten (K := 1) (by omega)) (by omega)
      have c89 := fun a w h => H89.out a n w h l1
      have c34 := fun w => H34.out d w (by omega)
      have c43 := fun a b w h k => H43.out a b (n * 10) d w h k l2 l3
      have l4 : (dig B32 (n * 10 + d)).length ≤ 1000000 := Nat.le_trans (len_ten hb2) (by omega)
      have C89 := Lib.hid c89
      have C34 := Lib.hid c34
      have C43 := Lib.hid c43
      have HST := Lib.hid hst
      have L2 := Lib.hid l2
      have L3 := Lib.hid l3
      have L4 := Lib.hid l4
      have hsub : (x : Int) - 48 = (d : Int) := by omega
      have hd9 : d ≤ 9 := by omega
      have hw8 : IntKind.u8.wrap (d : Int) = (d : Int) := by rw [IntKind.wrap_u8]; omega
      have hw64 : IntKind.u64.wrap (d : Int) = (d : Int) := by rw [IntKind.wrap_u64]; omega
      clear c89 c34 c43 hst hb hb2 hc l1 l2 l3 l4 hdd hx2 hd
      have hvd := hv.keep (below_drewN (Below.refl wr.heap.size wr) 1)
      have hbd := hbl.trans ((below_drewN (Below.refl wr.heap.size wr) 1).mono hbl.size)
      have HVD := Lib.hid hvd
      clear hvd hv
      go_wp2_with (fail)
      go_region_held3 (fun w' => True)
        (first
          | exact True.intro)
        ((first
          | (go_at_call 89; (with_reducible refine (C89.out _ _ ?_).mono ?_); exact HVD.out; rintro e w1 ⟨va, rfl, hva, hb1⟩)
          | (go_at_call 34; (with_reducible refine (C34.out _).mono ?_); rintro e w2 ⟨vb, rfl, hvb, hb2⟩)
          | (go_at_call 43; (with_reducible refine (C43.out _ _ _ ?_ ?_).mono ?_); exact (hva.limbs (by have := L2.out; omega)).is.keep hb2; exact (hvb.limbs (by have := L3.out; omega)).is; rintro e w3 ⟨vc, rfl, hvc, hb3⟩)))
      all_goals
        have kc : N32 w3 vc (n * 10 + d) := (hvc.limbs (by have := L4.out; omega)).is
        have bc := below_at (below_at (below_at hbd (Nat.le_refl _) hb1) (Nat.le_refl _) hb2) (Nat.le_refl _) hb3
        clear hva hvb hvc hb1 hb2 hb3
        go_wp2_with (fail)
        go_roundw
        case rel => exact ⟨i + 1, hlt, by go_num, by rw [HST.out]; exact kc, bc⟩
        case measure => simp [intOf]; omega
    · obtain rfl : i = s.size := by omega
      have ht : (codes s).take s.size = codes s := List.take_of_length_le (by rw [codes_len]; exact Nat.le_refl _)
      rw [ht] at hv
      clear ht
      go_wp2
      go_ret
      exact ⟨_, rfl, hv, hbl⟩
end Go.Proofs.Ytaegkhdkhgemmaa

/- ref.Text: the decimal text of a number. -/
namespace Go.Proofs.Ytaegkhdkhgemmaa
open Go.RowKit Num

/-- The digits of a number as bytes, the greatest first; of 0 none. -/
def tx (n : Nat) : List Nat := (dig 10 n).reverse.map (48 + ·)
/-- The decimal text. -/
def dtxt (n : Nat) : List Nat := if n = 0 then [48] else tx n
theorem tx_zero : tx 0 = [] := by rw [tx, dig_zero]; rfl
theorem tx_step {n : Nat} (h : n ≠ 0) : tx n = tx (n / 10) ++ [48 + n % 10] := by
  rw [tx, dig_pos (by omega) h, List.reverse_cons, List.map_append]
  rfl
theorem tx_len (n : Nat) : (tx n).length = (dig 10 n).length := by simp [tx]
theorem codes_append (a b : ByteArray) : codes (a ++ b) = codes a ++ codes b := by simp [codes]
theorem codes_nums (xs : List Nat) (h : ∀ x ∈ xs, x < 256) : codes (strOfNums (xs.map fun (x : Nat) => (x : Int))) = xs := by
  rw [codes, strOfNums_data, List.map_map, List.map_map]
  refine (List.map_congr_left (g := id) fun x hx => ?_).trans (List.map_id xs)
  have := h x hx
  simp [Nat.mod_eq_of_lt this]
theorem conv_one (w : World) (y : Nat) : ∀ dst, Try.prog.underlying dst = some .string → (convert 85 dst (.slice (some ⟨w.heap.size, 0, none⟩) 1 1)).run Try.prog (w.alloc (.cells #[.int .u8 (y : Int)] 5)) = .ok (.string (strOfNums [(y : Int)])) (w.alloc (.cells #[.int .u8 (y : Int)] 5)) := by
  refine run_convert_bytes_arg _ 85 5 Try.underlying85 Try.underlying5 _ _ _ _ [(y : Int)] rfl fun i hi => ?_
  obtain rfl : i = 0 := by omega
  simp

def strLen : Value → Nat
  | .string x => x.size
  | _ => 0
set_option maxHeartbeats 4000000 in
set_option maxRecDepth 100000 in
theorem refText_any (a : Value) (x : Nat) (w : World) (ha : N32 w a x) (hx : (dig B32 x).length ≤ 1000) (hlen : (dig 10 x).length ≤ 100000) : Calls Try.prog 63 #[a] w fun e w' => ∃ s, e = .returned (.string s) ∧ codes s = dtxt x ∧ Below w.heap.size w w' := by
  obtain ⟨A, c, rfl, hc, hn⟩ := ha
  by_cases h0 : x = 0
  · subst h0
    have hz : (dig B32 0).length = 0 := by rw [dig_zero]; rfl
    rw [hz]
    clear hx hc hn hz hlen
    go_enter Try.func63, Try.ntmps63
    go_wp2
    go_ret
    exact ⟨_, rfl, rfl, Below.refl _ _⟩
  · have hL0 : 0 < (dig B32 x).length := by
      rcases Nat.eq_zero_or_pos (dig B32 x).length with h | h
      · have := (dig_nil_iff b32_two).1 (List.eq_nil_of_length_eq_zero h); omega
      · exact h
    have hu : N32 w (.slice A (dig B32 x).length c) x := ⟨A, c, rfl, hc, hn⟩
    have hdt : dtxt x = tx x := by rw [dtxt, if_neg h0]
    rw [hdt]
    have HX := Lib.hid hx
    have htl := tx_len x
    obtain ⟨D, hD⟩ : ∃ D, (dig 10 x).length = D := ⟨_, rfl⟩
    rw [hD] at hlen htl
    have HTL := Lib.hid htl
    obtain ⟨L, hL⟩ : ∃ L, (dig B32 x).length = L := ⟨_, rfl⟩
    rw [hL] at hu hL0 ⊢
    clear hx hc hn hdt htl hD hL
    have hq0 : ((L : Int) == 0) = false := beq_eq_false_iff_ne.2 (by omega)
    go_enter Try.func63, Try.ntmps63
    go_wp2_with (fail)
    go_loopw [0, 3] (fun u t wr => ∃ (k : Nat) (s1 : ByteArray), t = .string s1 ∧ N32 wr u k ∧ Hid (tx k ++ codes s1 = tx x) ∧ Hid (k ≤ x) ∧ Below w.heap.size w wr) (fun _ t _ => D - strLen t)
    case atStart => exact ⟨x, _, rfl, hu, Lib.hid (by simp [codes]), Lib.hid (Nat.le_refl _), Below.refl _ _⟩
    case round =>
      clear hu
      obtain ⟨k, s1, rfl, hu, hs, hk, hbl⟩ := hrel
      obtain ⟨A1, c1, rfl, hc1, hn1⟩ := hu
      by_cases hk0 : k = 0
      · subst hk0
        have hz : (dig B32 0).length = 0 := by rw [dig_zero]; rfl
        have he : codes s1 = tx x := by rw [← hs.out, tx_zero, List.nil_append]
        rw [hz]
        clear hc1 hn1 hz hs hk
        go_wp2
        go_ret
        exact ⟨_, rfl, he, hbl⟩
      · have hL1 : 0 < (dig B32 k).length := by
          rcases Nat.eq_zero_or_pos (dig B32 k).length with h | h
          · have := (dig_nil_iff b32_two).1 (List.eq_nil_of_length_eq_zero h); omega
          · exact h
        have hlk : (dig B32 k).length ≤ 1000 := Nat.le_trans (dig_len_le b32_two (Nat.lt_of_le_of_lt hk.out (dig_len_lt b32_two))) HX.out
        have hov := refOver_any A1 c1 _ 10 (dig B32 k) wr hn1 (low_dig b32_two k) rfl (by omega) (by omega) (by unfold B32; omega)
        rw [val_dig b32_two] at hov
        have hov : Calls Try.prog 94 #[.slice A1 (dig B32 k).length c1, .int .u32 10] wr (OverPost wr (dig B32 (k / 10)) (k % 10)) := hov
        have hlq : (dig B32 (k / 10)).length ≤ 1000 := Nat.le_trans (dig_len_le b32_two (Nat.lt_of_le_of_lt (Nat.le_trans (Nat.div_le_self _ _) hk.out) (dig_len_lt b32_two))) HX.out
        have hst := hs.out
        rw [tx_step hk0, List.append_assoc] at hst
        have hsl : s1.size < D := by
          have := congrArg List.length hs.out
          rw [HTL.out, List.length_append, codes_len, tx_step hk0] at this
          simp at this
          omega
        have hq : k / 10 ≤ x := Nat.le_trans (Nat.div_le_self _ _) hk.out
        have hd10 : k % 10 < 10 := Nat.mod_lt _ (by omega)
        generalize k % 10 = d at *
        generalize k / 10 = q at *
        obtain ⟨y, hy⟩ : ∃ y, 48 + d = y := ⟨_, rfl⟩
        rw [hy] at hst
        have f1 : IntKind.u32.wrap (48 + (d : Int)) = (y : Int) := by rw [IntKind.wrap_u32']; omega
        have f1' : (48 + (d : Int)) % 4294967296 = (y : Int) := by omega
        have f2 : IntKind.u8.wrap (y : Int) = (y : Int) := by rw [IntKind.wrap_u8]; omega
        have f2' : (y : Int) % 256 = (y : Int) := by omega
        have hy256 : y < 256 := by omega
        obtain ⟨LK, hLK⟩ : ∃ L, (dig B32 k).length = L := ⟨_, rfl⟩
        rw [hLK] at hov hL1 ⊢
        have HOV := Lib.hid hov
        have HST := Lib.hid hst
        have HQ := Lib.hid hq
        have HLQ := Lib.hid hlq
        have HY := Lib.hid hy256
        clear hov hst hq hlq hc1 hn1 hs hk hlk hLK hk0 hy hd10 hy256
        go_wp2_with (fail)
        refine HOV.out.mono ?_
        rintro e w2 ⟨v2, rfl, hv2, hb2⟩
        have hcv := conv_one w2 y 9 Try.underlying9
        have kq : N32 w2 v2 q := (hv2.limbs (by have := HLQ.out; omega)).is
        have kq2 := kq.keep (below_new w2 (.cells #[.int .u8 (y : Int)] 5))
        have bq := (below_at hbl (Nat.le_refl _) hb2).alloc (by have := hbl.size; have := hb2.size; omega) (.cells #[.int .u8 (y : Int)] 5)
        clear hv2 kq hb2
        have hsz1 : (strOfNums [(y : Int)]).size = 1 := strOfNums_size _
        have hcd : codes (strOfNums [(y : Int)] ++ s1) = [y] ++ codes s1 := by rw [codes_append]; congr 1; exact codes_nums [y] (by intro z hz; simp at hz; subst hz; exact HY.out)
        have hsz : (strOfNums [(y : Int)] ++ s1).size = 1 + s1.size := by rw [ByteArray.size_append, hsz1]
        generalize strOfNums [(y : Int)] = sy at *
        have HCD := Lib.hid hcd
        have HSZ := Lib.hid hsz
        have hcat : ¬ 9223372036854775807 < 1 + s1.size := by omega
        have hcat2 : ¬ 9223372036854775807 < sy.size + s1.size := by omega
        clear hcd hsz
        go_wp2_with (fail)
        go_roundw
        case rel => exact ⟨q, _, rfl, kq2, Lib.hid (by rw [HCD.out]; exact HST.out), HQ, bq⟩
        case measure => show D - (sy ++ s1).size < D - s1.size; rw [HSZ.out]; omega
end Go.Proofs.Ytaegkhdkhgemmaa

/- slices.Reverse of bytes. -/
namespace Go.Proofs.Ytaegkhdkhgemmaa
open Go.RowKit Num

/-- Block g is a row of the call's own, of cap bytes; its first are xs, of the others nothing is said. -/
def Hb (w : World) (g cap : Nat) (xs : List Nat) : Prop :=
  ∃ cur : Array Value, w.heap[g]? = some (.cells cur 5 (0, 0)) ∧ xs.length ≤ cap ∧ cap ≤ maxLen ∧ cur.size = cap ∧ cur.toList.take xs.length = ints .u8 xs
namespace Hb
variable {w w' : World} {g cap : Nat} {xs : List Nat}
theorem cell (h : Hb w g cap xs) {i v : Nat} (hv : xs[i]? = some v) : w.cell? ⟨g, i, none⟩ = some (.int .u8 (v : Int)) := by
  obtain ⟨cur, hb, _, _, _, ht⟩ := h
  have hi : i < xs.length := (List.getElem?_eq_some_iff.1 hv).1
  have e : (cur.toList.take xs.length)[i]? = some (.int .u8 (v : Int)) := by rw [ht]; simp [ints, hv]
  rw [List.getElem?_take, if_pos hi] at e
  simpa [World.cell?, hb] using e
theorem frozen (h : Hb w g cap xs) (i : Nat) : w.frozen? ⟨g, i, none⟩ = false := by
  obtain ⟨cur, hb, _⟩ := h
  simp [World.frozen?, hb]
theorem lt (h : Hb w g cap xs) : g < w.heap.size := by
  obtain ⟨cur, hb, _⟩ := h
  exact (Array.getElem?_eq_some_iff.1 hb).1
theorem cap_le (h : Hb w g cap xs) : xs.length ≤ cap := by obtain ⟨_, _, h, _⟩ := h; exact h
theorem of_block (h : Hb w g cap xs) (e : w'.heap[g]? = w.heap[g]?) : Hb w' g cap xs := by
  obtain ⟨cur, hb, r⟩ := h
  exact ⟨cur, e.trans hb, r⟩
theorem keep (h : Hb w g cap xs) (hb : Below w.heap.size w w') : Hb w' g cap xs := h.of_block (hb.block g h.lt)
theorem grown {row : Option Nat} (h : Hb w g cap xs) (hb : w.grownBy w' row) (hg : some g ≠ row) : Hb w' g cap xs := h.of_block (hb.block g h.lt hg)
theorem set (h : Hb w g cap xs) (i v : Nat) (_ : i < xs.length) : Hb (w.setCell ⟨g, i, none⟩ (.int .u8 (v : Int))) g cap (xs.set i v) := by
  obtain ⟨cur, hb, h1, h2, h3, h4⟩ := h
  refine ⟨cur.setIfInBounds i (.int .u8 (v : Int)), ?_, by simpa using h1, h2, by simpa using h3, ?_⟩
  · simp [World.setCell, Array.getElem?_modify, hb]
  · simp only [List.length_set, Array.toList_setIfInBounds]
    rw [List.take_set, h4]
    simp [ints, List.map_set]
theorem setOther (h : Hb w g cap xs) {a : Addr} (ha : g ≠ a.block) (v : Value) : Hb (w.setCell a v) g cap xs := by
  obtain ⟨cur, hb, r⟩ := h
  refine ⟨cur, ?_, r⟩
  simp [World.setCell, Array.getElem?_modify, hb, Ne.symm ha]
theorem nums (h : Hb w g cap xs) (n : Nat) : Nums .u8 w (some ⟨g, 0, none⟩) (xs.take n) := by
  intro hp
  refine ⟨g, 0, rfl, h.lt, fun j x hx => ?_⟩
  rw [List.getElem?_take] at hx
  split at hx
  · have := h.cell hx
    simpa using this
  · cases hx
theorem owns (h : Hb w g cap xs) {B : Nat} (hB : B ≤ g) : w.ownsRow B 5 1 (.slice (some ⟨g, 0, none⟩) xs.length cap) xs.length (ints .u8 xs) := by
  obtain ⟨cur, hb, h1, h2, h3, h4⟩ := h
  exact ⟨by simp [ints], .inr ⟨g, cap, cur, rfl, hB, hb, h1, h2, by simpa using h3, by simpa using h4⟩⟩
theorem of_owns {v : Value} {B n : Nat} (h : w.ownsRow B 5 1 v n (ints .u8 xs)) (hv : v ≠ .slice none 0 0) : ∃ g cap, v = .slice (some ⟨g, 0, none⟩) xs.length cap ∧ B ≤ g ∧ n = xs.length ∧ Hb w g cap xs := by
  have hn : n = xs.length := by have := h.1; simp [ints] at this; omega
  subst hn
  rcases h.2 with ⟨h1, _⟩ | ⟨g, cap, cur, e, h1, h2, h3, h4, h5, h6⟩
  · exact absurd h1 hv
  · exact ⟨g, cap, e, h1, rfl, cur, h2, h3, h4, by simpa using h5, by simpa using h6⟩
end Hb


/-- The first i and the last i have changed places. -/
structure RvSt (bs : List Nat) (i : Nat) (zs : List Nat) : Prop where
  len : zs.length = bs.length
  at_ : ∀ k, k < bs.length → zs[k]? = if k < i ∨ bs.length ≤ k + i then bs[bs.length - 1 - k]? else bs[k]?
theorem RvSt.start (bs : List Nat) : RvSt bs 0 bs := ⟨rfl, fun k hk => by rw [if_neg (by omega)]⟩
theorem RvSt.step {bs zs : List Nat} {i j x y : Nat} (h : RvSt bs i zs) (hij : i < j) (hj : i + j + 1 = bs.length) (hx : zs[i]? = some x) (hy : zs[j]? = some y) : RvSt bs (i + 1) ((zs.set i y).set j x) := by
  have h1 := h.len
  refine ⟨by simpa using h.len, fun k hk => ?_⟩
  have hxi := h.at_ i (by omega)
  have hyj := h.at_ j (by omega)
  rw [if_neg (by omega), hx] at hxi
  rw [if_neg (by omega), hy] at hyj
  by_cases e1 : k = j
  · subst e1
    rw [List.getElem?_set_self (by simp; omega), if_pos (by omega), show bs.length - 1 - k = i by omega, ← hxi]
  · rw [List.getElem?_set_ne (Ne.symm e1)]
    by_cases e2 : k = i
    · subst e2
      rw [List.getElem?_set_self (by omega), if_pos (by omega), show bs.length - 1 - k = j by omega, ← hyj]
    · rw [List.getElem?_set_ne (Ne.symm e2), h.at_ k hk]
      by_cases c : k < i ∨ bs.length ≤ k + i
      · rw [if_pos c, if_pos (by omega)]
      · rw [if_neg c, if_neg (by omega)]
theorem RvSt.fin {bs zs : List Nat} {i : Nat} (h : RvSt bs i zs) (hi : bs.length ≤ 2 * i + 1) : zs = bs.reverse := by
  apply List.ext_getElem?
  intro k
  rcases Nat.lt_or_ge k bs.length with hk | hk
  · rw [h.at_ k hk, List.getElem?_reverse hk]
    by_cases c : k < i ∨ bs.length ≤ k + i
    · rw [if_pos c]
    · rw [if_neg c, show bs.length - 1 - k = k by omega]
  · rw [List.getElem?_eq_none (by rw [h.len]; exact hk), List.getElem?_eq_none (by simpa using hk)]

def RevPost (bs : List Nat) (g cap : Nat) (w : World) (e : Ending) (w' : World) : Prop := (∃ v, e = .returned v) ∧ Hb w' g cap bs.reverse ∧ w.grownBy w' (some g)

set_option maxHeartbeats 4000000 in
set_option maxRecDepth 100000 in
theorem reverse_any (g cap n : Nat) (bs : List Nat) (w : World) (hr : Hb w g cap bs) (hn : n = bs.length) (hl : n ≤ 1000000) : Calls Try.prog 101 #[.slice (some ⟨g, 0, none⟩) n cap] w (RevPost bs g cap w) := by
  have HN := Lib.hid hn
  clear hn
  go_enter Try.func101, Try.ntmps101
  go_wp2
  go_loopw [2, 3] (fun t u wr => ∃ (i : Nat) (zs : List Nat), 2 * i ≤ n + 1 ∧ t = .int .i64 (i : Int) ∧ u = .int .i64 ((n : Int) - 1 - i) ∧ Hid (RvSt bs i zs) ∧ Hb wr g cap zs ∧ w.grownBy wr (some g)) (fun t _ _ => n + 1 - (intOf t).toNat)
  case atStart =>
    exact ⟨0, bs, by omega, rfl, by simp, Lib.hid (RvSt.start bs), hr, World.grownBy.refl w _⟩
  case round =>
    obtain ⟨i, zs, hi, rfl, rfl, hst, hrow, hgr⟩ := hrel
    by_cases hlt : (i : Int) < (n : Int) - 1 - i
    · obtain ⟨j, hj⟩ : ∃ j : Nat, (n : Int) - 1 - i = (j : Int) := ⟨n - 1 - i, by omega⟩
      have hzl := hst.out.len
      rw [hj] at hlt ⊢
      have hx : zs[i]? = some (zs[i]'(by rw [hzl, ← HN.out]; omega)) := List.getElem?_eq_getElem _
      have hy : zs[j]? = some (zs[j]'(by rw [hzl, ← HN.out]; omega)) := List.getElem?_eq_getElem _
      obtain ⟨x, ex⟩ : ∃ x, zs[i]'(by rw [hzl, ← HN.out]; omega) = x := ⟨_, rfl⟩
      obtain ⟨y, ey⟩ : ∃ y, zs[j]'(by rw [hzl, ← HN.out]; omega) = y := ⟨_, rfl⟩
      rw [ex] at hx
      rw [ey] at hy
      have c1 := hrow.cell hx
      have c2 := hrow.cell hy
      have f1 := hrow.frozen i
      have f2 := hrow.frozen j
      have HX := Lib.hid hx
      have HY := Lib.hid hy
      have HZ := Lib.hid hzl
      have HJ := Lib.hid hj
      have hjn : j < n := by omega
      have hin : i < n := by omega
      clear hx hy hzl ex ey hj
      go_wp2_with (fail)
      go_region
      have hi2 : i < zs.length := by have := HZ.out; have := HN.out; omega
      have hj2 : j < zs.length := by have := HZ.out; have := HN.out; omega
      have r1 : Hb wr.drew g cap zs := hrow
      have r2 := (r1.set i y hi2).set j x (by simpa using hj2)
      have g1 : w.grownBy wr.drew (some g) := hgr.trans ⟨rfl, rfl, rfl, Nat.le_refl _, fun _ _ _ => rfl⟩
      have g2 := grown_set (grown_set g1 i (.int .u8 (y : Int))) j (.int .u8 (x : Int))
      have hij : (i : Int) + 1 ≤ (j : Int) := by omega
      have e1 : (n : Int) - 1 - ((i + 1 : Nat) : Int) = (j : Int) - 1 := by have := HJ.out; omega
      have E1 := Lib.hid e1
      clear hrow hgr r1 g1 hi2 hj2 c1 c2 f1 f2 e1
      go_wp2_with (fail)
      go_roundw
      case rel => exact ⟨i + 1, _, by have := HJ.out; omega, by go_num, by rw [E1.out], Lib.hid (hst.out.step (by omega) (by have := HJ.out; have := HN.out; omega) HX.out HY.out), r2, g2⟩
      case measure => simp [intOf]; omega
    · have hfin := hst.out.fin (by have := HN.out; omega)
      subst hfin
      go_wp2
      refine bodyPost_end (results_none rfl _ _ _) rfl ?_
      exact ⟨⟨_, rfl⟩, hrow, hgr⟩
end Go.Proofs.Ytaegkhdkhgemmaa
