import Derived.Test.YtaegkhdkhgemmaaRefAdd
import Derived.Test.YtaegkhdkhgemmaaMulAll
namespace Go.Proofs.Ytaegkhdkhgemmaa
open Go.RowKit Num
theorem make35 (n : Nat) (h : n ≤ 1000000000000) (w : World) : (Instr.makeSlice 35 (.int .i64 (n : Int)) (.int .i64 (n : Int))).run Try.prog w = .ok (.slice (some ⟨w.heap.size, 0, none⟩) n n) (w.alloc (.cells (madeCells #[.int .u32 0] n) 56)) :=
  run_make_row' 35 56 (.int .u32 0) 4 Try.underlying35 info56 rfl .i64 .i64 n (by omega) (by omega) w
/-- One step: a product, a digit and a carry that stay below 2^64, and the two halves of their sum: as the walk shows them. -/
theorem mac_ex (m x o c : Nat) (hm : m < B32) (hx : x < B32) (ho : o < B32) (hc : c < B32) : ∃ p s1 s lo hi : Nat,
    IntKind.u64.wrap ((m : Int) * (x : Int)) = (p : Int) ∧ IntKind.u64.wrap ((p : Int) + (o : Int)) = (s1 : Int) ∧ IntKind.u64.wrap ((s1 : Int) + (c : Int)) = (s : Int) ∧ (s : Int) % 4294967296 = (lo : Int) ∧ (s : Int) / 4294967296 = (hi : Int) ∧
    IntKind.u32.wrap (lo : Int) = (lo : Int) ∧ (lo : Int) % 4294967296 = (lo : Int) ∧ IntKind.u64.wrap (hi : Int) = (hi : Int) ∧ IntKind.u32.wrap (hi : Int) = (hi : Int) ∧ (hi : Int) % 4294967296 = (hi : Int) ∧ (s : Int).tmod 4294967296 = (lo : Int) ∧ (s : Int).tdiv 4294967296 = (hi : Int) ∧
    IntKind.u64.wrap (m : Int) = (m : Int) ∧ IntKind.u64.wrap (x : Int) = (x : Int) ∧ IntKind.u64.wrap (o : Int) = (o : Int) ∧ lo + B32 * hi = o + x * m + c ∧ lo < B32 ∧ hi < B32 := by
  have hb := word_bound (b := B32) ho hx hm hc (lo := (o + x * m + c) % 4294967296) (hi := (o + x * m + c) / 4294967296) (by unfold B32; omega)
  unfold B32 at *
  have hp : x * m < 4294967296 * 4294967296 := Nat.mul_lt_mul_of_lt_of_lt hx hm
  have hmx : (m : Int) * (x : Int) = ((x * m : Nat) : Int) := by push_cast; exact Int.mul_comm _ _
  generalize x * m = p at *
  refine ⟨p, p + o, p + o + c, (o + p + c) % 4294967296, (o + p + c) / 4294967296, ?_, ?_, ?_, by omega, by omega, ?_, by omega, ?_, ?_, by omega, ?_, ?_, ?_, ?_, ?_, by omega, by omega, by omega⟩
  · rw [IntKind.wrap_u64, hmx]; omega
  · rw [IntKind.wrap_u64]; omega
  · rw [IntKind.wrap_u64]; omega
  · rw [IntKind.wrap_u32']; omega
  · rw [IntKind.wrap_u64]; omega
  · rw [IntKind.wrap_u32']; omega
  · rw [Int.tmod_eq_emod_of_nonneg (by omega)]; omega
  · rw [Int.tdiv_eq_ediv_of_nonneg (by omega)]; omega
  · rw [IntKind.wrap_u64]; omega
  · rw [IntKind.wrap_u64]; omega
  · rw [IntKind.wrap_u64]; omega
set_option maxHeartbeats 2000000 in
set_option maxRecDepth 100000 in
theorem refMul_any (A A' : Option Addr) (c c' L L' : Nat) (xs ys : List Nat) (w : World) (hA : Nums .u32 w A xs) (hA' : Nums .u32 w A' ys) (hx : Low B32 xs) (hy : Low B32 ys) (hL : L = xs.length) (hL' : L' = ys.length)
    (hl : L ≤ 1000000) (hl' : L' ≤ 1000000) : Calls Try.prog 46 #[.slice A L c, .slice A' L' c'] w (LsPost w (dig B32 (val B32 xs * val B32 ys))) := by
  have hmk := make35 (L + L' + 1) (by omega)
  push_cast at hmk
  have hr0 := Row.made w .u32 (L + L' + 1) 56
  have hbA : Below w.heap.size w (w.alloc (.cells (madeCells #[.int .u32 0] (L + L' + 1)) 56)) := (Below.refl _ _).alloc (Nat.le_refl _) _
  have hst0 := MulSt.start b32_two ys (xs ++ [0])
  rw [List.length_append, List.length_singleton, ← hL, ← hL', show L' + (L + 1) = L + L' + 1 by omega] at hst0
  have HR0 := Lib.hid hr0
  have HL := Lib.hid hL
  have HL' := Lib.hid hL'
  clear hL hL' hr0
  go_enter Try.func46, Try.ntmps46
  go_wp2
  go_loopw [6] (fun t wr => ∃ (i : Nat) (zs : List Nat), i ≤ L ∧ t = .int .i64 (i : Int) ∧ MulSt B32 ys (xs ++ [0]) i zs ∧ Row .u32 56 wr w.heap.size zs ∧ Below w.heap.size w wr) (fun t _ => L - (intOf t).toNat)
  case atStart => exact ⟨0, _, Nat.zero_le _, rfl, hst0, HR0.out, hbA⟩
  case round =>
    clear hst0 HR0 hbA hmk
    obtain ⟨i, zs, hi, rfl, hst, hrow, hbl⟩ := hrel
    have hlen := hst.len
    rw [List.length_append, List.length_singleton, ← HL.out, ← HL'.out] at hlen
    have HLEN := Lib.hid hlen
    clear hlen
    by_cases hlt : i < L
    · obtain ⟨q, qo, v, rfl, hq, hv, hcv⟩ := (hA.keep hbl).at_ (i := i) (by have := HL.out; omega)
      have hvl : v < B32 := hx v (List.mem_of_getElem? hv)
      have HV := Lib.hid hv
      clear hv
      go_wp2_with (fail)
      go_loopw [7, 8] (fun q t wr2 => ∃ (k cy : Nat) (zs' : List Nat), k ≤ L' ∧ q = .int .u64 (cy : Int) ∧ t = .int .i64 (k : Int) ∧ ScaleSt B32 zs ys v i k zs' cy ∧ Row .u32 56 wr2 w.heap.size zs' ∧ Below w.heap.size w wr2) (fun _ t _ => L' - (intOf t).toNat)
      case atStart => exact ⟨0, 0, zs, Nat.zero_le _, rfl, rfl, ScaleSt.start b32_two hst.low, hrow, hbl⟩
      case round =>
        obtain ⟨k, cy, zs', hk, rfl, rfl, hsc, hrow2, hbl2⟩ := hrel
        by_cases hlk : k < L'
        · obtain ⟨q2, qo2, x, rfl, hq2, hxv, hcx⟩ := (hA'.keep hbl2).at_ (i := k) (by have := HL'.out; omega)
          have hxl : x < B32 := hy x (List.mem_of_getElem? hxv)
          obtain ⟨g', off', v', e', hq', hv', hcv'⟩ := (hA.keep hbl2).at_ (i := i) (by have := HL.out; omega)
          injection e' with e'
          injection e' with e1 e2
          subst e1 e2
          rw [HV.out] at hv'
          injection hv' with hv'
          subst hv'
          have hzl : i + k < zs'.length := by have h1 := hsc.len; have h2 := HLEN.out; omega
          obtain ⟨o, ho⟩ : ∃ o, zs'[i + k]? = some o := ⟨zs'[i + k], List.getElem?_eq_getElem _⟩
          have hol : o < B32 := hsc.low o (List.mem_of_getElem? ho)
          have hco := hrow2.cell ho
          have hfo := hrow2.frozen (i + k)
          obtain ⟨p, s1, s, lo, hi', w1, w2, w3, w4, w5, w6, w7, w8, w9, wa, wb, wc, wd, we, wf, hs, hlo, hhi⟩ := mac_ex v x o cy hvl hxl hol hsc.le
          have hstep := hsc.step ho hxv hs hlo hhi
          have HST := Lib.hid hstep
          clear hstep hs hlo hhi ho hxv hol hxl hsc hcv
          go_wp2_with (fail)
          go_quiet (fail)
          go_wp2
          go_roundw
          case rel => exact ⟨k + 1, hi', zs'.set (i + k) lo, by omega, rfl, by go_num, HST.out, (Row.of_block hrow2 (by rfl)).set (i + k) lo, below_set (below_drewN hbl2 _) (Nat.le_refl _) _⟩
          case measure => simp [intOf]; omega
        · have hkL : k = L' := by omega
          subst hkL
          have hzl : i + k < zs'.length := by have h1 := hsc.len; have h2 := HLEN.out; omega
          have hcy : IntKind.u32.wrap (cy : Int) = (cy : Int) := by have := hsc.le; unfold B32 at this; rw [IntKind.wrap_u32']; omega
          have hcy2 : (cy : Int) % 4294967296 = (cy : Int) := by have := hsc.le; unfold B32 at this; omega
          have hik : i + k < L + k + 1 := by omega
          obtain ⟨o, ho⟩ : ∃ o, zs'[i + k]? = some o := ⟨zs'[i + k], List.getElem?_eq_getElem _⟩
          have hco := hrow2.cell ho
          have hfo := hrow2.frozen (i + k)
          have HSC := Lib.hid hsc
          clear hsc ho
          go_wp2
          go_roundw
          case rel =>
            refine ⟨i + 1, zs'.set (i + k) cy, by omega, by go_num, ?_, hrow2.set (i + k) cy, below_set hbl2 (Nat.le_refl _) _⟩
            have := hst.step (by rw [List.length_append]; have := HL.out; omega) (by rw [List.getElem?_append_left (by have := HL.out; omega)]; exact HV.out) (by rw [← HL'.out]; exact HSC.out)
            rw [← HL'.out, Nat.add_comm k i] at this
            exact this
          case measure => simp [intOf]; omega
    · have hiL : i = L := by omega
      subst hiL
      have hv := hst.eq
      rw [HL.out, List.take_left, Nat.mul_comm] at hv
      have hn := hrow.nums0 zs.length
      rw [List.take_length] at hn
      have hzl : zs.length = i + L' + 1 := by have := HLEN.out; omega
      have htr := refTrim_l (.slice (some ⟨w.heap.size, 0, none⟩) (i + L' + 1) (i + L' + 1)) zs wr ⟨_, _, by rw [hzl], by omega, by omega, hn⟩ hst.low (by omega)
      rw [hv] at htr
      have HT := Lib.hid htr
      clear htr hv hn hzl hst hx hy hA hA'
      go_wp2_with (go_at_call 80; refine HT.out.mono ?_; rintro e w9 ⟨v9, rfl, hv9, hb9⟩)
      go_ret
      exact ⟨_, rfl, hv9.mono hbl.size, below_at hbl (Nat.le_refl _) hb9⟩
end Go.Proofs.Ytaegkhdkhgemmaa
