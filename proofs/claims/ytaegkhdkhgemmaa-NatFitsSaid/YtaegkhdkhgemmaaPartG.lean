/- Part of the proof of NatFits: RefOver, RefSh, RootApi, Shift, ShiftsW. -/
import Derived.Test.YtaegkhdkhgemmaaPartF
import Derived.Test.YtaegkhdkhgemmaaPartD
namespace Go.Proofs.Ytaegkhdkhgemmaa
open Go.RowKit Num

/-- Division by a small number from the top down: the limbs from k on are done. -/
structure OverSt (xs zs : List Nat) (v k l : Nat) : Prop where
  len : zs.length = xs.length
  low : Low B32 zs
  lt : l < v
  eq : val B32 (xs.drop k) = v * val B32 (zs.drop k) + l
theorem OverSt.start (xs : List Nat) {v : Nat} (hv : 0 < v) : OverSt xs (List.replicate xs.length 0) v xs.length 0 :=
  ⟨by simp, Low.replicate b32_pos _, hv, by simp [val]⟩
theorem OverSt.step {xs zs : List Nat} {v k l x q r : Nat} (h : OverSt xs zs v (k + 1) l) (hx : xs[k]? = some x) (hs : l * B32 + x = v * q + r) (hq : q < B32) (hr : r < v) : OverSt xs (zs.set k q) v k r := by
  have hk : k < xs.length := (List.getElem?_eq_some_iff.1 hx).1
  have hxe : xs[k] = x := (List.getElem?_eq_some_iff.1 hx).2
  have hkz : k < (zs.set k q).length := by rw [List.length_set, h.len]; exact hk
  refine ⟨by rw [List.length_set]; exact h.len, h.low.set hq, hr, ?_⟩
  rw [List.drop_eq_getElem_cons hk, List.drop_eq_getElem_cons hkz, hxe, List.getElem_set_self, List.drop_set_of_lt (by omega)]
  simp only [val]
  rw [h.eq]
  grind
theorem OverSt.fin {xs zs : List Nat} {v l : Nat} (h : OverSt xs zs v 0 l) : val B32 zs = val B32 xs / v ∧ val B32 xs % v = l := by
  have e := h.eq
  simp only [List.drop_zero] at e
  have hl := h.lt
  rw [e, Nat.mul_add_div (by omega), Nat.div_eq_of_lt hl, Nat.mul_add_mod, Nat.mod_eq_of_lt hl]
  simp

theorem over_ex (l x v : Nat) (hl : l < v) (hx : x < B32) (hv : v < B32) : ∃ p s q r : Nat,
    IntKind.u64.wrap ((l : Int) * 4294967296) = (p : Int) ∧ IntKind.u64.wrap (x : Int) = (x : Int) ∧ IntKind.u64.wrap (v : Int) = (v : Int) ∧ IntKind.u64.wrap ((p : Int) + (x : Int)) = (s : Int) ∧
    (s : Int) / (v : Int) = (q : Int) ∧ (s : Int).tdiv (v : Int) = (q : Int) ∧ (s : Int) % (v : Int) = (r : Int) ∧ (s : Int).tmod (v : Int) = (r : Int) ∧
    IntKind.u64.wrap (q : Int) = (q : Int) ∧ IntKind.u64.wrap (r : Int) = (r : Int) ∧ IntKind.u32.wrap (q : Int) = (q : Int) ∧ (q : Int) % 4294967296 = (q : Int) ∧ IntKind.u32.wrap (r : Int) = (r : Int) ∧ (r : Int) % 4294967296 = (r : Int) ∧
    ((v : Int) == 0) = false ∧ l * B32 + x = v * q + r ∧ q < B32 ∧ r < v := by
  have hlt : l * B32 + x < v * B32 := by
    have : (l + 1) * B32 ≤ v * B32 := Nat.mul_le_mul_right _ hl
    rw [Nat.add_mul] at this
    omega
  have hle : v * B32 ≤ B32 * B32 := Nat.mul_le_mul_right _ (by omega)
  have hq : (l * B32 + x) / v < B32 := Nat.div_lt_of_lt_mul hlt
  have hr : (l * B32 + x) % v < v := Nat.mod_lt _ (by omega)
  have hd := Nat.div_add_mod (l * B32 + x) v
  obtain ⟨q, hqe⟩ : ∃ q, (l * B32 + x) / v = q := ⟨_, rfl⟩
  obtain ⟨r, hre⟩ : ∃ r, (l * B32 + x) % v = r := ⟨_, rfl⟩
  have c1 : ((l * B32 + x : Nat) : Int) / (v : Int) = (q : Int) := by rw [← hqe]; exact (Int.natCast_ediv _ _).symm
  have c2 : ((l * B32 + x : Nat) : Int) % (v : Int) = (r : Int) := by rw [← hre]; exact (Int.natCast_emod _ _).symm
  rw [hqe] at hq hd
  rw [hre] at hr hd
  have hpv : (l : Int) * 4294967296 = ((l * B32 : Nat) : Int) := by unfold B32; omega
  have hp : l * B32 + x < B32 * B32 := by omega
  clear hqe hre
  refine ⟨l * B32, l * B32 + x, q, r, ?_, ?_, ?_, ?_, c1, ?_, c2, ?_, ?_, ?_, ?_, ?_, ?_, ?_, ?_, hd.symm, hq, hr⟩
  · rw [IntKind.wrap_u64]; unfold B32 at *; omega
  · rw [IntKind.wrap_u64]; unfold B32 at *; omega
  · rw [IntKind.wrap_u64]; unfold B32 at *; omega
  · rw [IntKind.wrap_u64]; unfold B32 at *; omega
  · rw [Int.tdiv_eq_ediv_of_nonneg (by omega)]; exact c1
  · rw [Int.tmod_eq_emod_of_nonneg (by omega)]; exact c2
  all_goals clear c1 c2 hd hp hpv hle hlt
  · rw [IntKind.wrap_u64]; unfold B32 at *; omega
  · rw [IntKind.wrap_u64]; unfold B32 at *; omega
  · rw [IntKind.wrap_u32']; unfold B32 at *; omega
  · unfold B32 at *; omega
  · rw [IntKind.wrap_u32']; unfold B32 at *; omega
  · unfold B32 at *; omega
  · simp; omega

def OverPost (w : World) (ys : List Nat) (r : Nat) (e : Ending) (w' : World) : Prop := ∃ v, e = .returned (.tuple #[v, .int .u32 (r : Int)]) ∧ OwnLs w.heap.size w' v ys ∧ Below w.heap.size w w'

set_option maxHeartbeats 2000000 in
set_option maxRecDepth 100000 in
theorem refOver_any (A : Option Addr) (c L v : Nat) (xs : List Nat) (w : World) (hA : Nums .u32 w A xs) (hx : Low B32 xs) (hL : L = xs.length) (hl : L ≤ 1000000) (hv0 : 0 < v) (hv : v < B32) :
    Calls Try.prog 94 #[.slice A L c, .int .u32 (v : Int)] w (OverPost w (dig B32 (val B32 xs / v)) (val B32 xs % v)) := by
  have hmk := make35 L (by omega) w
  have hr0 := Row.made w .u32 L 56
  have hbA : Below w.heap.size w (w.alloc (.cells (madeCells #[.int .u32 0] L) 56)) := (Below.refl _ _).alloc (Nat.le_refl _) _
  have hst0 := OverSt.start xs hv0
  rw [← hL] at hst0
  have HL := Lib.hid hL
  have HR0 := Lib.hid hr0
  have HV := Lib.hid hv
  clear hL hr0 hv
  go_enter Try.func94, Try.ntmps94
  go_wp2
  go_loopw [7, 8] (fun q t wr => ∃ (k l : Nat) (zs : List Nat), k ≤ L ∧ t = .int .i64 ((k : Int) - 1) ∧ q = .int .u64 (l : Int) ∧ OverSt xs zs v k l ∧ Row .u32 56 wr w.heap.size zs ∧ Below w.heap.size w wr) (fun _ t _ => (intOf t + 1).toNat)
  case atStart => exact ⟨L, 0, _, Nat.le_refl _, rfl, rfl, hst0, HR0.out, hbA⟩
  case round =>
    clear hst0 HR0 hbA hmk
    obtain ⟨k, l, zs, hk, rfl, rfl, hst, hrow, hbl⟩ := hrel
    have hlen := hst.len
    rw [← HL.out] at hlen
    have HLEN := Lib.hid hlen
    clear hlen
    by_cases h0 : k = 0
    · subst h0
      obtain ⟨f1, f2⟩ := hst.fin
      have hlt := hst.lt
      have hvv := HV.out
      have w1 : IntKind.u32.wrap (l : Int) = (l : Int) := by unfold B32 at hvv; rw [IntKind.wrap_u32']; omega
      have w2 : (l : Int) % 4294967296 = (l : Int) := by unfold B32 at hvv; omega
      have hn := hrow.nums0 zs.length
      rw [List.take_length] at hn
      have htr := refTrim_l (.slice (some ⟨w.heap.size, 0, none⟩) L L) zs wr ⟨_, _, by rw [HLEN.out], by have := HLEN.out; omega, by have := HLEN.out; omega, hn⟩ hst.low (by have := HLEN.out; omega)
      rw [f1] at htr
      have HT := Lib.hid htr
      have F2 := Lib.hid f2
      clear htr f1 f2 hn hst hx hA hvv
      go_wp2_with (go_at_call 80; refine HT.out.mono ?_; rintro e w9 ⟨v9, rfl, hv9, hb9⟩)
      go_ret2
      rw [F2.out]
      exact ⟨_, rfl, hv9.mono hbl.size, below_at hbl (Nat.le_refl _) hb9⟩
    · obtain ⟨j, rfl⟩ : ∃ j, k = j + 1 := ⟨k - 1, by omega⟩
      obtain ⟨g, off, x, rfl, hg, hxv, hcx⟩ := (hA.keep hbl).at_ (i := j) (by have := HL.out; omega)
      have hxl : x < B32 := hx x (List.mem_of_getElem? hxv)
      obtain ⟨p, s, q, r, w1, w2, w3, w4, w5, w6, w7, w8, w9, wa, wb, wc, wd, we, wf, hs, hq, hr⟩ := over_ex l x v hst.lt hxl HV.out
      have hst' := hst.step hxv hs hq hr
      obtain ⟨o, ho⟩ : ∃ o, zs[j]? = some o := ⟨zs[j]'(by have := HLEN.out; omega), List.getElem?_eq_getElem _⟩
      have hco := hrow.cell ho
      have hfo := hrow.frozen j
      have HST := Lib.hid hst'
      have HX := Lib.hid hxv
      have HO := Lib.hid ho
      clear hst' hxv ho hxl hs hq hr hst hA hx
      go_wp2
      go_roundw
      case rel => exact ⟨j, r, _, by omega, by first | rfl | go_num, rfl, HST.out, hrow.set j q, below_set hbl (Nat.le_refl _) _⟩
      case measure => simp [intOf]
end Go.Proofs.Ytaegkhdkhgemmaa

namespace Go.Proofs.Ytaegkhdkhgemmaa
open Go.RowKit Num

set_option maxHeartbeats 1000000 in
set_option maxRecDepth 100000 in
theorem times_any (a : Value) (m v : Nat) (w : World) (ha : N32 w a m) (hm : (dig B32 m).length ≤ 1000) (hv : v < B32) : Calls Try.prog 89 #[a, .int .u32 (v : Int)] w (LsPost w (dig B32 (m * v))) := by
  have hv64 : v < B64 := by unfold B32 at hv; unfold B64; omega
  have hof := refOf_any v hv64 w
  have w1 : IntKind.u64.wrap (v : Int) = (v : Int) := by unfold B32 at hv; rw [IntKind.wrap_u64]; omega
  have hl2 := len_u64 hv64
  have hmul := fun b w' (h : Below w.heap.size w w') (k : OwnLs w.heap.size w' b (dig B32 v)) => refMul_call a b m v w' (ha.keep h) (k.limbs (by omega)).is (by omega) (by omega)
  have HOF := Lib.hid hof
  have HM := Lib.hid hmul
  clear hof hmul hv hv64 ha hl2
  go_enter Try.func89, Try.ntmps89
  go_wp2_with (first
    | (go_at_call 34; refine HOF.out.mono ?_; rintro e w2 ⟨v2, rfl, hv2, hb2⟩)
    | (go_at_call 46; refine (HM.out _ _ hb2 hv2).mono ?_; rintro e w3 ⟨v3, rfl, hv3, hb3⟩))
  go_ret
  exact ⟨_, rfl, hv3.mono hb2.size, below_at hb2 (Nat.le_refl _) hb3⟩

theorem zeros_snoc (k : Nat) : ints .u32 (List.replicate k 0) ++ [.int .u32 0] = ints .u32 (List.replicate (k + 1) 0) := by
  rw [List.replicate_succ']; simp [ints]
theorem take_snoc_ints {xs : List Nat} {k v : Nat} (zs : List Nat) (h : xs[k]? = some v) : ints .u32 (zs ++ xs.take k) ++ [.int .u32 (v : Int)] = ints .u32 (zs ++ xs.take (k + 1)) := by
  obtain ⟨hk, he⟩ := List.getElem?_eq_some_iff.1 h
  rw [List.take_succ_eq_append_getElem hk, he]; simp [ints]
theorem two_pow_32 {k : Nat} (h : k < 32) : 2 ^ k < B32 := by
  have := Nat.pow_lt_pow_right (a := 2) (by omega) h
  unfold B32; simpa using this
theorem dbl_ex (k : Nat) (h : k + 1 < 32) : ∃ p q : Nat, 2 ^ k = p ∧ 2 ^ (k + 1) = q ∧ IntKind.u32.wrap ((p : Int) * 2) = (q : Int) ∧ ((p : Int) * 2) % 4294967296 = (q : Int) := by
  have h1 := two_pow_32 h
  have h2 : 2 ^ (k + 1) = 2 ^ k * 2 := Nat.pow_succ _ _
  refine ⟨_, _, rfl, rfl, ?_, ?_⟩
  · unfold B32 at h1; rw [IntKind.wrap_u32', h2]; omega
  · unfold B32 at h1; rw [h2]; omega

theorem ownLs_of {B n : Nat} {w : World} {v : Value} {zs : List Nat} (h : w.ownsRow B 56 1 v n (ints .u32 zs)) (hn : zs.length = n) : OwnLs B w v zs := by
  subst hn; exact h

def PowIs (p k : Nat) : Prop := p = 2 ^ k
theorem powIs_step {p k : Nat} (h : PowIs p k) (hk : k + 1 < 32) : ∃ q : Nat, PowIs q (k + 1) ∧ IntKind.u32.wrap ((p : Int) * 2) = (q : Int) ∧ ((p : Int) * 2) % 4294967296 = (q : Int) := by
  obtain ⟨p', q, e1, e2, e3, e4⟩ := dbl_ex k hk
  obtain rfl : p = p' := h.trans e1
  exact ⟨q, e2.symm, e3, e4⟩

set_option maxHeartbeats 4000000 in
set_option maxRecDepth 100000 in
theorem left_any (a : Value) (m n : Nat) (w : World) (ha : N32 w a m) (hm : (dig B32 m).length ≤ 500) (hn : n ≤ 10000) : Calls Try.prog 50 #[a, .int .i64 (n : Int)] w (LsPost w (dig B32 (m * 2 ^ n))) := by
  obtain ⟨wh, s, hs, rfl⟩ : ∃ wh s, s < 32 ∧ n = 32 * wh + s := ⟨n / 32, n % 32, Nat.mod_lt _ (by omega), by omega⟩
  have e1 : ((32 * wh + s : Nat) : Int) / 32 = (wh : Int) := by omega
  have e2 : ((32 * wh + s : Nat) : Int) % 32 = (s : Int) := by omega
  have e3 : ((32 * wh + s : Nat) : Int).tdiv 32 = (wh : Int) := by rw [Int.tdiv_eq_ediv_of_nonneg (by omega)]; exact e1
  have e4 : ((32 * wh + s : Nat) : Int).tmod 32 = (s : Int) := by rw [Int.tmod_eq_emod_of_nonneg (by omega)]; exact e2
  have hwh : wh ≤ 400 := by omega
  generalize hF : ((32 * wh + s : Nat) : Int) = F at *
  have hF0 : 0 ≤ F := by omega
  have hF1 : F ≤ 10000 := by omega
  clear hF hn
  have hfin : m * 2 ^ (32 * wh + s) = val B32 (List.replicate wh 0 ++ dig B32 m) * 2 ^ s := by
    have h32 : B32 ^ wh = 2 ^ (32 * wh) := by rw [Nat.pow_mul]; rfl
    rw [val_append, val_replicate, val_dig b32_two, List.length_replicate, Nat.pow_add, h32, Nat.zero_add, Nat.mul_comm (2 ^ (32 * wh)) m, Nat.mul_assoc]
  obtain ⟨A, c, rfl, _, hA⟩ := ha
  have hlow := low_dig b32_two m
  obtain ⟨xs, hxs⟩ : ∃ xs, dig B32 m = xs := ⟨_, rfl⟩
  rw [hxs] at hlow hfin hm hA ⊢
  obtain ⟨L, hL⟩ : ∃ L, xs.length = L := ⟨_, rfl⟩
  rw [hL] at hm ⊢
  obtain ⟨i0, hi, hz0, hz1, hz2⟩ := info_parts info56
  have ho := own_empty w 56
  have hbA := below_new w (.cells #[] 56)
  have hlowz : Low B32 (List.replicate wh 0 ++ xs) := (Low.replicate b32_pos _).append hlow
  have hlz : (List.replicate wh 0 ++ xs).length = wh + L := by simp [hL]
  have htr := fun (w' : World) a (k : OwnLs w.heap.size w' a (List.replicate wh 0 ++ xs)) => refTrim_l a _ w' (k.limbs (by omega)) hlowz (by omega)
  have htl : (dig B32 (val B32 (List.replicate wh 0 ++ xs))).length ≤ 1000 := Nat.le_trans (trim_le b32_two hlowz) (by omega)
  have htm := fun (w' w'' : World) a (k : OwnLs w'.heap.size w'' a (dig B32 (val B32 (List.replicate wh 0 ++ xs)))) => times_any a _ (2 ^ s) w'' (k.limbs (by omega)).is htl (two_pow_32 hs)
  rw [hfin]
  generalize hV : val B32 (List.replicate wh 0 ++ xs) = V at *
  have HO := Lib.hid ho
  have HL := Lib.hid hL
  have HTR := Lib.hid htr
  have HTM := Lib.hid htm
  clear ho hL htr htm hxs hV hfin hlowz htl hlz hlow
  go_enter Try.func50, Try.ntmps50
  go_wp2
  go_loopw [5, 6] (fun out t wr => ∃ k : Nat, k ≤ wh ∧ t = .int .i64 (k : Int) ∧ wr.ownsRow w.heap.size 56 1 out k (ints .u32 (List.replicate k 0)) ∧ Below w.heap.size w wr) (fun _ t _ => wh - (intOf t).toNat)
  case atStart => exact ⟨0, Nat.zero_le _, rfl, HO.out, hbA⟩
  case round =>
    clear hbA HO
    obtain ⟨k, hk, rfl, hown, hbl⟩ := hrel
    by_cases hlt : k < wh
    · have hzs := zeros_snoc k
      have HZ := Lib.hid hzs
      clear hzs hA
      go_wp2_with (at_builtin
                   refine wpList_append_own _ rfl _ _ 35 rfl w.heap.size 56 i0 (.int .u32 0) 1 4 Try.underlying35 hi hz0 hz1 hz2 rfl (by decide) _ (k) _ rfl (hown.alloc _) ⟨wr.heap.size, 0, none⟩ 1 1 [.int .u32 0] rfl rfl (cell_one_new _ _ _) (ints_one .u32 [0]) ?c4 ?c5 (Nat.le_trans hbl.size (by simp)) ?_)
      case c4 => unfold maxLen; omega
      case c5 => omega
      intro v' w8 hown1 hgr1 _
      have hb1 : Below w.heap.size w w8 := (hbl.alloc hbl.size _).grown hgr1 (Nat.le_trans hbl.size (by simp)) (fun g' hg' => by
        rcases hown.2 with ⟨rfl, _⟩ | ⟨g2, cap, cur, rfl, hg2, _⟩
        · simp [Value.ownBlock] at hg'
        · simp [Value.ownBlock] at hg'; omega)
      rw [HZ.out] at hown1
      have H1 := Lib.hid hown1
      clear hown1 hown
      go_wp2
      go_roundw
      case rel => exact ⟨k + 1, by omega, by go_num, H1.out, hb1⟩
      case measure => simp [intOf]; omega
    · obtain rfl : k = wh := by omega
      clear hlt
      have H0 := Lib.hid hown
      clear hown
      go_wp2
      go_loopw [5, 7] (fun out t wr => ∃ j : Nat, j ≤ L ∧ t = .int .i64 (j : Int) ∧ wr.ownsRow w.heap.size 56 1 out (k + j) (ints .u32 (List.replicate k 0 ++ xs.take j)) ∧ Below w.heap.size w wr) (fun _ t _ => L - (intOf t).toNat)
      case atStart => exact ⟨0, Nat.zero_le _, rfl, by simpa using H0.out, hbl⟩
      case round =>
        clear H0 hbl
        obtain ⟨j, hj, rfl, hown, hbl⟩ := hrel
        by_cases hlt : j < L
        · obtain ⟨g, off, x, rfl, hg, hxv, hcx⟩ := (hA.keep hbl).at_ (i := j) (by have := HL.out; omega)
          have hts := take_snoc_ints (List.replicate k 0) hxv
          have HT := Lib.hid hts
          clear hts hxv
          go_wp2_with (at_builtin
                       refine wpList_append_own _ rfl _ _ 35 rfl w.heap.size 56 i0 (.int .u32 0) 1 4 Try.underlying35 hi hz0 hz1 hz2 rfl (by decide) _ (k + j) _ rfl (hown.alloc _) ⟨wr.heap.size, 0, none⟩ 1 1 [.int .u32 (x : Int)] rfl rfl (cell_one_new _ _ _) (ints_one .u32 [x]) ?c4 ?c5 (Nat.le_trans hbl.size (by simp)) ?_)
          case c4 => unfold maxLen; omega
          case c5 => omega
          intro v' w8 hown1 hgr1 _
          have hb1 : Below w.heap.size w w8 := (hbl.alloc hbl.size _).grown hgr1 (Nat.le_trans hbl.size (by simp)) (fun g' hg' => by
            rcases hown.2 with ⟨rfl, _⟩ | ⟨g2, cap, cur, rfl, hg2, _⟩
            · simp [Value.ownBlock] at hg'
            · simp [Value.ownBlock] at hg'; omega)
          rw [HT.out] at hown1
          have H1 := Lib.hid hown1
          clear hown1 hown
          go_wp2
          go_roundw
          case rel => exact ⟨j + 1, by omega, by go_num, H1.out, hb1⟩
          case measure => simp [intOf]; omega
        · obtain rfl : j = L := by omega
          clear hlt
          rw [List.take_of_length_le (by have := HL.out; omega)] at hown
          have hls := ownLs_of (zs := List.replicate k 0 ++ xs) hown (by simp [HL.out])
          have HOWN := Lib.hid hls
          clear hown hls hA
          go_wp2
          go_loop [8, 9] (fun q t => ∃ i p : Nat, i ≤ s ∧ t = .int .i64 (i : Int) ∧ q = .int .u32 (p : Int) ∧ PowIs p i) (fun _ t => s - (intOf t).toNat)
          case atStart => exact ⟨0, 1, Nat.zero_le _, rfl, rfl, rfl⟩
          case round =>
            obtain ⟨i, p, hi', rfl, rfl, hp⟩ := hrel
            by_cases hlt : i < s
            · obtain ⟨q, hq, w1, w2⟩ := powIs_step hp (by omega)
              have HQ := Lib.hid hq
              clear hq hp
              go_wp2
              go_round
              case rel => exact ⟨i + 1, q, by omega, by go_num, rfl, HQ.out⟩
              case measure => simp [intOf]; omega
            · obtain rfl : i = s := by omega
              clear hlt
              obtain rfl : p = 2 ^ i := hp
              have HTM' : ∀ (w' w'' : World) (a : Value), OwnLs w'.heap.size w'' a (dig B32 V) → Calls Try.prog 89 #[a, .int .u32 ((2 ^ i : Nat) : Int)] w'' (LsPost w'' (dig B32 (V * 2 ^ i))) := HTM.out
              generalize 2 ^ i = P at *
              have HTM2 := Lib.hid HTM'
              clear HTM' HTM
              go_wp2_with (first
                | (go_at_call 80; refine (HTR.out _ _ HOWN.out).mono ?_; rintro e w5 ⟨v5, rfl, hv5, hb5⟩)
                | (go_at_call 89; refine (HTM2.out _ _ _ hv5).mono ?_; rintro e w6 ⟨v6, rfl, hv6, hb6⟩))
              go_ret
              have b5 := below_at hbl (Nat.le_refl _) hb5
              exact ⟨_, rfl, hv6.mono b5.size, below_at b5 (Nat.le_refl _) hb6⟩

theorem right_val (m wh s : Nat) : m / 2 ^ (32 * wh + s) = val B32 ((dig B32 m).drop wh) / 2 ^ s := by
  have h32 : B32 ^ wh = 2 ^ (32 * wh) := by rw [Nat.pow_mul]; rfl
  have hv : val B32 ((dig B32 m).drop wh) = m / B32 ^ wh := by
    by_cases hl : wh ≤ (dig B32 m).length
    · have h1 := val_take_drop B32 (dig B32 m) wh hl
      rw [val_dig b32_two] at h1
      have h2 := val_lt B32 _ ((low_dig b32_two m).take wh)
      rw [List.length_take, Nat.min_eq_left hl] at h2
      rw [h1, Nat.add_mul_div_left _ _ (Nat.pow_pos b32_pos), Nat.div_eq_of_lt h2, Nat.zero_add, ← h1]
    · rw [List.drop_of_length_le (by omega)]
      have h1 := dig_len_lt b32_two (n := m)
      have h2 : B32 ^ (dig B32 m).length ≤ B32 ^ wh := Nat.pow_le_pow_right b32_pos (by omega)
      rw [Nat.div_eq_of_lt (by omega)]; rfl
  rw [hv, Nat.pow_add, h32, Nat.div_div_eq_div_mul]
theorem drop_snoc_ints {xs : List Nat} {wh k v : Nat} (h : xs[wh + k]? = some v) : ints .u32 ((xs.drop wh).take k) ++ [.int .u32 (v : Int)] = ints .u32 ((xs.drop wh).take (k + 1)) := by
  have h2 : (xs.drop wh)[k]? = some v := by rw [List.getElem?_drop]; exact h
  obtain ⟨hk, he⟩ := List.getElem?_eq_some_iff.1 h2
  rw [List.take_succ_eq_append_getElem hk, he]; simp [ints]

set_option maxHeartbeats 4000000 in
set_option maxRecDepth 100000 in
theorem right_any (a : Value) (m n : Nat) (w : World) (ha : N32 w a m) (hm : (dig B32 m).length ≤ 500) (hn : n ≤ 10000) : Calls Try.prog 51 #[a, .int .i64 (n : Int)] w (LsPost w (dig B32 (m / 2 ^ n))) := by
  obtain ⟨wh, s, hs, rfl⟩ : ∃ wh s, s < 32 ∧ n = 32 * wh + s := ⟨n / 32, n % 32, Nat.mod_lt _ (by omega), by omega⟩
  have e1 : ((32 * wh + s : Nat) : Int) / 32 = (wh : Int) := by omega
  have e2 : ((32 * wh + s : Nat) : Int) % 32 = (s : Int) := by omega
  have e3 : ((32 * wh + s : Nat) : Int).tdiv 32 = (wh : Int) := by rw [Int.tdiv_eq_ediv_of_nonneg (by omega)]; exact e1
  have e4 : ((32 * wh + s : Nat) : Int).tmod 32 = (s : Int) := by rw [Int.tmod_eq_emod_of_nonneg (by omega)]; exact e2
  have hwh : wh ≤ 400 := by omega
  have hfin := right_val m wh s
  generalize hF : ((32 * wh + s : Nat) : Int) = F at *
  have hF0 : 0 ≤ F := by omega
  have hF1 : F ≤ 10000 := by omega
  clear hF hn
  obtain ⟨A, c, rfl, _, hA⟩ := ha
  have hlow := low_dig b32_two m
  obtain ⟨xs, hxs⟩ : ∃ xs, dig B32 m = xs := ⟨_, rfl⟩
  rw [hxs] at hlow hfin hm hA ⊢
  obtain ⟨L, hL⟩ : ∃ L, xs.length = L := ⟨_, rfl⟩
  rw [hL] at hm ⊢
  obtain ⟨i0, hi, hz0, hz1, hz2⟩ := info_parts info56
  have ho := own_empty w 56
  have hbA := below_new w (.cells #[] 56)
  have hlowz : Low B32 (xs.drop wh) := hlow.drop wh
  have hlz : (xs.drop wh).length ≤ L := by simp [hL]
  have htr := fun (w' : World) a (k : OwnLs w.heap.size w' a (xs.drop wh)) => refTrim_l a _ w' (k.limbs (by omega)) hlowz (by omega)
  have htl : (dig B32 (val B32 (xs.drop wh))).length ≤ 1000 := Nat.le_trans (trim_le b32_two hlowz) (by omega)
  have htm : ∀ (w' w'' : World) (a : Value), OwnLs w'.heap.size w'' a (dig B32 (val B32 (xs.drop wh))) → Calls Try.prog 94 #[a, .int .u32 ((2 ^ s : Nat) : Int)] w'' (OverPost w'' (dig B32 (val B32 (xs.drop wh) / 2 ^ s)) (val B32 (xs.drop wh) % 2 ^ s)) := fun w' w'' a k => by
    obtain ⟨A', c', rfl, _, hA'⟩ := (k.limbs (by omega)).is
    have := refOver_any A' c' _ (2 ^ s) _ w'' hA' (low_dig b32_two _) rfl (by omega) (Nat.pow_pos (by omega)) (two_pow_32 hs)
    rw [val_dig b32_two] at this
    exact this
  rw [hfin]
  generalize hV : val B32 (xs.drop wh) = V at *
  have HO := Lib.hid ho
  have HL := Lib.hid hL
  have HTR := Lib.hid htr
  have HTM := Lib.hid htm
  clear ho hL htr htm hxs hV hfin hlowz htl hlz hlow
  go_enter Try.func51, Try.ntmps51
  go_wp2
  go_loopw [5, 6] (fun out t wr => ∃ k : Nat, (wh + k ≤ L ∨ k = 0) ∧ t = .int .i64 ((wh + k : Nat) : Int) ∧ wr.ownsRow w.heap.size 56 1 out k (ints .u32 ((xs.drop wh).take k)) ∧ Below w.heap.size w wr) (fun _ t _ => L - (intOf t).toNat)
  case atStart => exact ⟨0, .inr rfl, rfl, by simpa [ints] using HO.out, hbA⟩
  case round =>
    clear hbA HO
    obtain ⟨k, hk, rfl, hown, hbl⟩ := hrel
    by_cases hlt : wh + k < L
    · obtain ⟨g, off, x, rfl, hg, hxv, hcx⟩ := (hA.keep hbl).at_ (i := wh + k) (by have := HL.out; omega)
      have hts := drop_snoc_ints hxv
      have HT := Lib.hid hts
      clear hts hxv
      go_wp2_with (at_builtin
                   refine wpList_append_own _ rfl _ _ 35 rfl w.heap.size 56 i0 (.int .u32 0) 1 4 Try.underlying35 hi hz0 hz1 hz2 rfl (by decide) _ (k) _ rfl (hown.alloc _) ⟨wr.heap.size, 0, none⟩ 1 1 [.int .u32 (x : Int)] rfl rfl (cell_one_new _ _ _) (ints_one .u32 [x]) ?c4 ?c5 (Nat.le_trans hbl.size (by simp)) ?_)
      case c4 => unfold maxLen; omega
      case c5 => omega
      intro v' w8 hown1 hgr1 _
      have hb1 : Below w.heap.size w w8 := (hbl.alloc hbl.size _).grown hgr1 (Nat.le_trans hbl.size (by simp)) (fun g' hg' => by
        rcases hown.2 with ⟨rfl, _⟩ | ⟨g2, cap, cur, rfl, hg2, _⟩
        · simp [Value.ownBlock] at hg'
        · simp [Value.ownBlock] at hg'; omega)
      rw [HT.out] at hown1
      have H1 := Lib.hid hown1
      clear hown1 hown
      go_wp2
      go_roundw
      case rel => exact ⟨k + 1, by omega, by go_num, H1.out, hb1⟩
      case measure => simp [intOf]; omega
    · have hls := ownLs_of (zs := xs.drop wh) (n := k) (by rw [List.take_of_length_le (by rw [List.length_drop, HL.out]; omega)] at hown; exact hown) (by rw [List.length_drop, HL.out]; omega)
      have HOWN := Lib.hid hls
      clear hown hls hA
      go_wp2
      go_loop [7, 8] (fun q t => ∃ i p : Nat, i ≤ s ∧ t = .int .i64 (i : Int) ∧ q = .int .u32 (p : Int) ∧ PowIs p i) (fun _ t => s - (intOf t).toNat)
      case atStart => exact ⟨0, 1, Nat.zero_le _, rfl, rfl, rfl⟩
      case round =>
        obtain ⟨i, p, hi', rfl, rfl, hp⟩ := hrel
        by_cases hlt2 : i < s
        · obtain ⟨q, hq, w1, w2⟩ := powIs_step hp (by omega)
          have HQ := Lib.hid hq
          clear hq hp
          go_wp2
          go_round
          case rel => exact ⟨i + 1, q, by omega, by go_num, rfl, HQ.out⟩
          case measure => simp [intOf]; omega
        · obtain rfl : i = s := by omega
          clear hlt2
          obtain rfl : p = 2 ^ i := hp
          have HTM' : ∀ (w' w'' : World) (a : Value), OwnLs w'.heap.size w'' a (dig B32 V) → Calls Try.prog 94 #[a, .int .u32 ((2 ^ i : Nat) : Int)] w'' (OverPost w'' (dig B32 (V / 2 ^ i)) (V % 2 ^ i)) := HTM.out
          generalize 2 ^ i = P at *
          have HTM2 := Lib.hid HTM'
          clear HTM' HTM
          go_wp2_with (first
            | (go_at_call 80; refine (HTR.out _ _ HOWN.out).mono ?_; rintro e w5 ⟨v5, rfl, hv5, hb5⟩)
            | (go_at_call 94; refine (HTM2.out _ _ _ hv5).mono ?_; rintro e w6 ⟨v6, rfl, hv6, hb6⟩))
          go_ret
          have b5 := below_at hbl (Nat.le_refl _) hb5
          exact ⟨_, rfl, hv6.mono b5.size, below_at b5 (Nat.le_refl _) hb6⟩
end Go.Proofs.Ytaegkhdkhgemmaa

namespace Go.Proofs.Ytaegkhdkhgemmaa
open Go.RowKit Num

set_option maxHeartbeats 1000000 in
set_option maxRecDepth 100000 in
theorem root_bad (a : Value) (n : Int) (xs : List Nat) (w : World) (ha : Limbs w a xs) (h0 : chk xs ≠ 0) : Calls Try.prog 56 #[a, .int .i64 n] w (NatErr w (chk xs)) := by
  have hc := checkAll_any w.heap.size 1 1 _ _ (nats1 ha) rfl (by omega)
  rw [chkAll1] at hc
  generalize chk xs = r at *
  have hbA := below_new w (.cells #[a] 23)
  have hq : (r != 0) = true := by simp [h0]
  have HC := Lib.hid hc
  have H0 := Lib.hid h0
  obtain ⟨A, c, rfl, _⟩ := ha
  clear hc h0
  generalize xs.length = L at *
  go_enter Try.func56, Try.ntmps56
  go_wp2_with (go_at_call 75; refine HC.out.mono ?_; rintro e w1 ⟨rfl, rfl⟩)
  go_ret2
  exact ⟨rfl, hbA⟩

set_option maxHeartbeats 1000000 in
set_option maxRecDepth 100000 in
theorem root_arg (a : Value) (m : Nat) (n : Int) (w : World) (ha : N32 w a m) (hl : (dig B32 m).length ≤ 262144) (hn : n < 1) : Calls Try.prog 56 #[a, .int .i64 n] w (NatErr w 1) := by
  have hc := checkAll_any w.heap.size 1 1 _ _ (nats1 (Limbs.num ha (by omega))) rfl (by omega)
  rw [chkAll1, chk_dig hl] at hc
  have hbA := below_new w (.cells #[a] 23)
  have HC := Lib.hid hc
  obtain ⟨A, c, rfl, _⟩ := ha
  clear hc
  generalize (dig B32 m).length = L at *
  go_enter Try.func56, Try.ntmps56
  go_wp2_with (go_at_call 75; refine HC.out.mono ?_; rintro e w1 ⟨rfl, rfl⟩)
  go_ret2
  exact ⟨rfl, hbA⟩

theorem ownL_nil' (B : Nat) (w : World) : OwnL B w (.slice none 0 0) 0 := by
  unfold OwnL
  rw [dig_zero]
  exact ⟨rfl, .inl ⟨rfl, rfl⟩⟩

set_option maxHeartbeats 1000000 in
set_option maxRecDepth 100000 in
theorem root_zero (a : Value) (m : Nat) (n : Int) (w : World) (ha : N32 w a m) (h0 : m = 0) (hn : 1 ≤ n) : Calls Try.prog 56 #[a, .int .i64 n] w (NatOk w 0) := by
  have hl : (dig B32 m).length ≤ 262144 := by rw [h0, dig_zero]; simp
  have hc := checkAll_any w.heap.size 1 1 _ _ (nats1 (Limbs.num ha (by omega))) rfl (by omega)
  rw [chkAll1, chk_dig hl] at hc
  have hbA := below_new w (.cells #[a] 23)
  have HC := Lib.hid hc
  have hz : (dig B32 m).length = 0 := by rw [h0, dig_zero]; rfl
  obtain ⟨A, c, rfl, _⟩ := ha
  rw [hz] at HC hbA ⊢
  clear hc hz h0 hl
  go_enter Try.func56, Try.ntmps56
  go_wp2_with (go_at_call 75; refine HC.out.mono ?_; rintro e w1 ⟨rfl, rfl⟩)
  go_ret2
  exact ⟨_, rfl, ownL_nil' _ _, hbA⟩

set_option maxHeartbeats 1000000 in
set_option maxRecDepth 100000 in
theorem root_ok (a : Value) (m n r : Nat) (w : World) (ha : N32 w a m) (h0 : 0 < m) (hn : 1 ≤ n) (hb : nbits m ≤ 8000) (hr : IsRoot n m r) : Calls Try.prog 56 #[a, .int .i64 (n : Int)] w (NatOk w r) := by
  have hwl : (dig B64 m).length ≤ 125 := len_of_bits (by omega)
  have hl : (dig B32 m).length ≤ 262144 := by
    have : (dig B32 m).length ≤ 250 := dig_len_le b32_two (by
      have g : ∀ K, nbits m ≤ 32 * K → m < B32 ^ K := fun K hK => by
        have e : B32 ^ K = 2 ^ (32 * K) := by rw [Nat.pow_mul]; rfl
        rw [e]; exact lt_of_nbits hK
      exact g 250 (by omega))
    omega
  have hc := checkAll_any w.heap.size 1 1 _ _ (nats1 (Limbs.num ha (by omega))) rfl (by omega)
  rw [chkAll1, chk_dig hl] at hc
  have hbA := below_new w (.cells #[a] 23)
  have HC := Lib.hid hc
  have hf := fromNat_any a m _ (ha.keep hbA) (by omega)
  have hrt := fun v w' (h : W64 w' v m) => root_any v m n r w' h h0 hn hb hr
  have hrm : r ≤ m := Nat.le_trans (Nat.le_self_pow (by omega) r) hr.1
  have hrl : (dig B64 r).length ≤ 125 := Nat.le_trans (lenm hrm) hwl
  have hnt := fun v w' (h : W64 w' v r) => nat_any v r w' h (by omega)
  have hpos : 0 < (dig B32 m).length := by
    rcases Nat.eq_zero_or_pos (dig B32 m).length with h | h
    · have := (dig_nil_iff b32_two).1 (List.eq_nil_of_length_eq_zero h); omega
    · exact h
  have HF := Lib.hid hf
  have HRT := Lib.hid hrt
  have HNT := Lib.hid hnt
  clear hf hrt hnt
  obtain ⟨A, c, rfl, _⟩ := ha
  clear hc hwl hrm hrl hr
  generalize (dig B32 m).length = L at *
  go_enter Try.func56, Try.ntmps56
  go_wp2_with (fail)
  refine (HC.out).mono ?_
  rintro e w1 ⟨rfl, rfl⟩
  go_wp2_with (fail)
  refine (HF.out).mono ?_
  rintro e w2 ⟨v1, rfl, hv1, hb2⟩
  have b2 := below_at hbA (Nat.le_refl _) hb2
  have k1_2 := hv1.is
  go_wp2_with (fail)
  refine (HRT.out _ _ k1_2).mono ?_
  rintro e w3 ⟨v2, rfl, hv2, hb3⟩
  have b3 := below_at b2 (Nat.le_refl _) hb3
  have k2_3 := hv2
  go_wp2_with (fail)
  refine (HNT.out _ _ k2_3).mono ?_
  rintro e w4 ⟨v3, rfl, hv3, hb4⟩
  have b4 := below_at b3 (Nat.le_refl _) hb4
  go_wp2
  go_ret2
  exact ⟨_, rfl, hv3.mono b3.size, b4⟩

/-- The bits of the root from k on are found. -/
def RtSt (m n k r : Nat) : Prop := ∃ q, r = q * 2 ^ k ∧ r ^ n ≤ m ∧ m < (r + 2 ^ k) ^ n
theorem RtSt.step {m n i r : Nat} (h : RtSt m n (i + 1) r) : ((r + 2 ^ i) ^ n ≤ m → RtSt m n i (r + 2 ^ i)) ∧ (m < (r + 2 ^ i) ^ n → RtSt m n i r) := by
  obtain ⟨q, h1, h2, h3⟩ := h
  have e : r + 2 ^ i + 2 ^ i = r + 2 ^ (i + 1) := by rw [Nat.pow_succ]; omega
  refine ⟨fun h4 => ⟨q * 2 + 1, ?_, h4, by rw [e]; exact h3⟩, fun h4 => ⟨q * 2, ?_, h2, h4⟩⟩
  · rw [h1, Nat.pow_succ]; grind
  · rw [h1, Nat.pow_succ]; grind
theorem RtSt.fin {m n r : Nat} (h : RtSt m n 0 r) : IsRoot n m r := by
  obtain ⟨q, _, h2, h3⟩ := h
  exact ⟨h2, by simpa using h3⟩
theorem len32_bits {n k : Nat} (h : nbits n ≤ 32 * k) : (dig B32 n).length ≤ k := dig_len_le b32_two (by
  have e : B32 ^ k = 2 ^ (32 * k) := by rw [Nat.pow_mul]; rfl
  rw [e]; exact lt_of_nbits h)
theorem n32_empty (w : World) : N32 (w.alloc (.cells #[] 56)) (.slice (some ⟨w.heap.size, 0, none⟩) 0 0) 0 := by
  refine ⟨some ⟨w.heap.size, 0, none⟩, 0, ?_, ?_, ?_⟩ <;> rw [dig_zero]
  · rfl
  · exact Nat.le_refl _
  · exact Nums.nil

set_option maxHeartbeats 1000000 in
set_option maxRecDepth 100000 in
theorem refRoot_zero (a : Value) (m : Nat) (n : Int) (w : World) (ha : N32 w a m) (h0 : m = 0) : Calls Try.prog 57 #[a, .int .i64 n] w (N32Post w 0) := by
  have hz : (dig B32 m).length = 0 := by rw [h0, dig_zero]; rfl
  obtain ⟨A, c, rfl, _⟩ := ha
  rw [hz]
  clear hz h0
  go_enter Try.func57, Try.ntmps57
  go_wp2
  go_ret
  exact ⟨_, rfl, n32_empty w, below_new w _⟩
set_option maxHeartbeats 1000000 in
set_option maxRecDepth 100000 in
theorem refRoot_one (a : Value) (m : Nat) (n : Int) (w : World) (ha : N32 w a m) (h0 : 0 < m) (hl : (dig B32 m).length ≤ 1000) (hn : (nbits m : Int) ≤ n) : Calls Try.prog 57 #[a, .int .i64 n] w (N32Post w 1) := by
  have hb := refBits_any a m w ha (by omega)
  have hof := refOf_any 1 (by decide) w
  have hl1 : (dig B32 1).length ≤ 2 := len_u64 (by decide)
  have hpos : 0 < (dig B32 m).length := by
    rcases Nat.eq_zero_or_pos (dig B32 m).length with h | h
    · have := (dig_nil_iff b32_two).1 (List.eq_nil_of_length_eq_zero h); omega
    · exact h
  have HB := Lib.hid hb
  have HOF := Lib.hid hof
  clear hb hof
  obtain ⟨A, c, rfl, _⟩ := ha
  generalize (dig B32 m).length = L at *
  generalize nbits m = sz at *
  go_enter Try.func57, Try.ntmps57
  go_wp2_with (first
    | (go_at_call 36; refine HB.out.mono ?_; rintro e w1 ⟨rfl, rfl⟩)
    | (go_at_call 34; refine HOF.out.mono ?_; rintro e w2 ⟨v2, rfl, hv2, hb2⟩))
  go_ret
  exact ⟨_, rfl, (hv2.limbs (by omega)).is, hb2⟩
set_option maxHeartbeats 4000000 in
set_option maxRecDepth 100000 in
theorem refRoot_any (a : Value) (m n : Nat) (w : World) (ha : N32 w a m) (h0 : 0 < m) (hb : nbits m ≤ 1600) (hn : 1 ≤ n) (hns : n < nbits m) : Calls Try.prog 57 #[a, .int .i64 (n : Int)] w fun e w' => ∃ r, IsRoot n m r ∧ N32Post w r e w' := by
  have hl : (dig B32 m).length ≤ 50 := len32_bits (by omega)
  have hbits := fun w' (h : N32 w' a m) => refBits_any a m w' h (by omega)
  have hof := fun w' => refOf_any 1 (by decide) w'
  have hl1 : (dig B32 1).length ≤ 2 := len_u64 (by decide)
  have hpos : 0 < (dig B32 m).length := by
    rcases Nat.eq_zero_or_pos (dig B32 m).length with h | h
    · have := (dig_nil_iff b32_two).1 (List.eq_nil_of_length_eq_zero h); omega
    · exact h
  obtain ⟨r0, hr0⟩ := root_exists n m hn
  obtain ⟨D, hD, k1, k2, k3, k4, k5⟩ := root_numbers hr0 hn hns
  have hle := fun v w' (i : Nat) (h : N32 w' v 1) (hi : i ≤ 2000) => left_any v 1 i w' h (by omega) (by omega)
  have had := fun u v w' (x y : Nat) (h : N32 w' u x) (k : N32 w' v y) (h1 : (dig B32 x).length ≤ 1000) (h2 : (dig B32 y).length ≤ 1000) => refAdd_call u v x y w' h k (by omega) (by omega)
  have hpl : ∀ x, x < 2 ^ D → ∀ j, j ≤ n → (dig B32 (x ^ j)).length ≤ 200 := fun x hx j hj => by
    refine len32_bits (Nat.le_trans (nbits_le (k := D * n) ?_) ?_)
    · rw [Nat.pow_mul]
      have h1 : x ^ j ≤ (2 ^ D - 1) ^ n := Nat.le_trans (Nat.pow_le_pow_left (by omega) j) (Nat.pow_le_pow_right (by have := Nat.pow_le_pow_right (n := 2) (by omega) (show 1 ≤ D by omega); omega) hj)
      exact Nat.lt_of_le_of_lt h1 (Nat.pow_lt_pow_left (by have := Nat.two_pow_pos D; omega) (by omega))
    · have : D * n = n * (D - 1) + n := by
        obtain ⟨d, rfl⟩ : ∃ d, D = d + 1 := ⟨D - 1, by omega⟩
        rw [Nat.add_sub_cancel, Nat.add_mul, Nat.one_mul, Nat.mul_comm]
      omega
  have hpw := fun v w' (x : Nat) (h : N32 w' v x) (hx : x < 2 ^ D) => refPow_any v x n w' h (by have := hpl x hx 1 (by omega); rw [Nat.pow_one] at this; omega) (by omega) (fun j hj => Nat.le_trans (hpl x hx j hj) (by omega))
  have hcm := fun v w' (x : Nat) (h : N32 w' v x) (k : N32 w' a m) (h1 : (dig B32 x).length ≤ 1000) => refCmp_call v a x m w' h k (by omega) (by omega)
  have hpli : ∀ i, i < D → (dig B32 (2 ^ i)).length ≤ 200 := fun i hi => by
    have := hpl (2 ^ i) (Nat.pow_lt_pow_right (by omega) hi) 1 (by omega); rwa [Nat.pow_one] at this
  have hst0 : RtSt m n D 0 := by
    refine ⟨0, by simp, by rw [Nat.zero_pow (by omega)]; omega, ?_⟩
    rw [Nat.zero_add]
    exact Nat.lt_of_lt_of_le hr0.2 (Nat.pow_le_pow_left k2 n)
  have hemp := n32_empty w
  have hbA := below_new w (.cells #[] 56)
  have hka := ha.keep hbA
  have HA := Lib.hid ha
  have HBITS := Lib.hid hbits
  have HOF := Lib.hid hof
  have HLE := Lib.hid hle
  have HAD := Lib.hid had
  have HPL := Lib.hid hpl
  have HPW := Lib.hid hpw
  have HCM := Lib.hid hcm
  have HPLI := Lib.hid hpli
  have HST0 := Lib.hid hst0
  have HEMP := Lib.hid hemp
  have HKA := Lib.hid hka
  clear hbits hof hle had hpl hpw hcm hpli hst0 hemp hka
  obtain ⟨A, c, rfl, _⟩ := ha
  obtain ⟨sz, hsz⟩ : ∃ sz, nbits m = sz := ⟨_, rfl⟩
  rw [hsz] at HBITS hD hns hb k5
  have hD1 : ((sz : Int) - 1) / (n : Int) = (D : Int) - 1 := by
    have : ((sz - 1 : Nat) : Int) / (n : Int) = (((sz - 1) / n : Nat) : Int) := (Int.natCast_ediv _ _).symm
    have e : (sz : Int) - 1 = ((sz - 1 : Nat) : Int) := by omega
    rw [e, this]; omega
  obtain ⟨sm, hsm⟩ : ∃ sm, sz - 1 = sm := ⟨_, rfl⟩
  have hsI : (sz : Int) - 1 = (sm : Int) := by omega
  rw [hsI] at hD1
  have hD2 : (sm : Int).tdiv (n : Int) = (D : Int) - 1 := by rw [Int.tdiv_eq_ediv_of_nonneg (by omega)]; exact hD1
  have hn0 : ((n : Int) == 0) = false := by simp; omega
  have hns' : ¬ sz ≤ n := by omega
  clear hsz hsm hD hr0 k1 k2 k3 hl
  generalize (dig B32 m).length = LL at *
  go_enter Try.func57, Try.ntmps57
  go_wp2_with (fail)
  refine (HBITS.out _ HA.out).mono ?_
  rintro e w1 ⟨rfl, rfl⟩
  go_wp2_with (fail)
  refine (HBITS.out _ HKA.out).mono ?_
  rintro e w1 ⟨rfl, rfl⟩
  go_wp2
  go_loopw [5, 6] (fun rv t wr => ∃ (k r : Nat), k ≤ D ∧ t = .int .i64 ((k : Int) - 1) ∧ RtSt m n k r ∧ r + 2 ^ k ≤ 2 ^ D ∧ N32 wr rv r ∧ Below w.heap.size w wr) (fun _ t _ => (intOf t + 1).toNat)
  case atStart => exact ⟨D, 0, Nat.le_refl _, rfl, HST0.out, by omega, HEMP.out, hbA⟩
  case round =>
    clear hbA HKA HEMP HST0 HBITS
    obtain ⟨k, r, hk, rfl, hst, hrD, hr, hbl⟩ := hrel
    by_cases hk0 : k = 0
    · subst hk0
      have hfin := hst.fin
      have HFIN := Lib.hid hfin
      clear hfin hst
      go_wp2
      go_ret
      exact ⟨r, HFIN.out, _, rfl, hr, hbl⟩
    · obtain ⟨i, rfl⟩ : ∃ i, k = i + 1 := ⟨k - 1, by omega⟩
      have hrx : r + 2 ^ i < 2 ^ D := by
        have : 2 ^ (i + 1) = 2 ^ i + 2 ^ i := by rw [Nat.pow_succ]; omega
        have := Nat.two_pow_pos i
        omega
      have hrD2 : r + 2 ^ i + 2 ^ i ≤ 2 ^ D := by
        have : 2 ^ (i + 1) = 2 ^ i + 2 ^ i := by rw [Nat.pow_succ]; omega
        omega
      obtain ⟨s1, s2⟩ := hst.step
      have li := HPLI.out i (by omega)
      have lr : (dig B32 r).length ≤ 200 := by have := HPL.out r (Nat.lt_of_le_of_lt (Nat.le_add_right _ _) hrx) 1 (by omega); rwa [Nat.pow_one] at this
      have lx : (dig B32 (r + 2 ^ i)).length ≤ 200 := by have := HPL.out _ hrx 1 (by omega); rwa [Nat.pow_one] at this
      have lp := HPL.out _ hrx n (Nat.le_refl _)
      have hpw1 := fun v w' (h : N32 w' v (r + 2 ^ i)) => HPW.out v w' _ h hrx
      have hle1 := fun v w' (h : N32 w' v 1) => HLE.out v w' i h (by omega)
      rw [Nat.one_mul] at hle1
      have HRX := Lib.hid hrx
      have HRD := Lib.hid hrD
      have HRD2 := Lib.hid hrD2
      clear hst hrx hrD hrD2
      obtain ⟨p, hp⟩ : ∃ p, 2 ^ i = p := ⟨_, rfl⟩
      rw [hp] at s1 s2 li lx lp hpw1 hle1
      have ka := HA.out.keep hbl
      obtain ⟨x, hx⟩ : ∃ x, r + p = x := ⟨_, rfl⟩
      rw [hx] at s1 s2 lx lp hpw1
      by_cases hc : x ^ n ≤ m
      · have hcc : cmpN (x ^ n) m ≤ 0 := by
          rcases Nat.lt_or_ge (x ^ n) m with h | h
          · rw [cmpN_lt h]; omega
          · rw [show x ^ n = m from Nat.le_antisymm hc h, cmpN_eq]; omega
        have hcm1 := fun v w' (h : N32 w' v (x ^ n)) (k : N32 w' (.slice A LL c) m) => HCM.out v w' _ h k (by omega)
        generalize cmpN (x ^ n) m = cc at *
        have hnew := s1 hc
        have HNEW := Lib.hid hnew
        have HX := Lib.hid hx
        have HP := Lib.hid hp
        have HPW1 := Lib.hid hpw1
        have HLE1 := Lib.hid hle1
        have HCM1 := Lib.hid hcm1
        clear s1 s2 hnew hc hx hp hpw1 hle1 hcm1
        go_wp2_with (fail)
        refine (HOF.out _).mono ?_
        rintro e w1 ⟨v1, rfl, hv1, hb1⟩
        have b1 := below_at hbl (Nat.le_refl _) hb1
        have ka_1 := ka.keep hb1
        have kr_1 := hr.keep hb1
        have k1_1 := (hv1.limbs (by omega)).is
        go_wp2_with (fail)
        refine (HLE1.out _ _ k1_1).mono ?_
        rintro e w2 ⟨v2, rfl, hv2, hb2⟩
        have b2 := below_at b1 (Nat.le_refl _) hb2
        have ka_2 := ka_1.keep hb2
        have kr_2 := kr_1.keep hb2
        have k2_2 := (hv2.limbs (by omega)).is
        go_wp2_with (fail)
        refine (HAD.out _ _ _ _ _ kr_2 k2_2 (by omega) (by omega)).mono ?_
        rintro e w3 ⟨v3, rfl, hv3, hb3⟩
        have b3 := below_at b2 (Nat.le_refl _) hb3
        have ka_3 := ka_2.keep hb3
        have kr_3 := kr_2.keep hb3
        have k3_3 := (by rw [HX.out] at hv3; exact (hv3.limbs (by omega)).is : N32 w3 v3 x)
        go_wp2_with (fail)
        refine (HPW1.out _ _ k3_3).mono ?_
        rintro e w4 ⟨v4, rfl, hv4, hb4⟩
        have b4 := below_at b3 (Nat.le_refl _) hb4
        have ka_4 := ka_3.keep hb4
        have kr_4 := kr_3.keep hb4
        have k3_4 := k3_3.keep hb4
        have k4_4 := hv4
        go_wp2_with (fail)
        refine (HCM1.out _ _ k4_4 ka_4).mono ?_
        rintro e w5 ⟨rfl, hb5⟩
        have b5 := below_at b4 (Nat.le_refl _) hb5
        have kr_5 := kr_4.keep hb5
        have k3_5 := k3_4.keep hb5
        go_wp2
        go_roundw
        case rel => exact ⟨i, x, by omega, by first | rfl | go_num, HNEW.out, by rw [← HX.out, ← HP.out]; exact HRD2.out, k3_5, b5⟩
        case measure => simp [intOf]
      · have hlt : m < x ^ n := by omega
        have hcm1 := fun v w' (h : N32 w' v (x ^ n)) (k : N32 w' (.slice A LL c) m) => HCM.out v w' _ h k (by omega)
        rw [cmpN_gt hlt] at hcm1
        have hnew := s2 hlt
        have HNEW := Lib.hid hnew
        have HX := Lib.hid hx
        have HP := Lib.hid hp
        have HPW1 := Lib.hid hpw1
        have HLE1 := Lib.hid hle1
        have HCM1 := Lib.hid hcm1
        clear s1 s2 hnew hc hx hp hpw1 hle1 hcm1 hlt
        go_wp2_with (fail)
        refine (HOF.out _).mono ?_
        rintro e w1 ⟨v1, rfl, hv1, hb1⟩
        have b1 := below_at hbl (Nat.le_refl _) hb1
        have ka_1 := ka.keep hb1
        have kr_1 := hr.keep hb1
        have k1_1 := (hv1.limbs (by omega)).is
        go_wp2_with (fail)
        refine (HLE1.out _ _ k1_1).mono ?_
        rintro e w2 ⟨v2, rfl, hv2, hb2⟩
        have b2 := below_at b1 (Nat.le_refl _) hb2
        have ka_2 := ka_1.keep hb2
        have kr_2 := kr_1.keep hb2
        have k2_2 := (hv2.limbs (by omega)).is
        go_wp2_with (fail)
        refine (HAD.out _ _ _ _ _ kr_2 k2_2 (by omega) (by omega)).mono ?_
        rintro e w3 ⟨v3, rfl, hv3, hb3⟩
        have b3 := below_at b2 (Nat.le_refl _) hb3
        have ka_3 := ka_2.keep hb3
        have kr_3 := kr_2.keep hb3
        have k3_3 := (by rw [HX.out] at hv3; exact (hv3.limbs (by omega)).is : N32 w3 v3 x)
        go_wp2_with (fail)
        refine (HPW1.out _ _ k3_3).mono ?_
        rintro e w4 ⟨v4, rfl, hv4, hb4⟩
        have b4 := below_at b3 (Nat.le_refl _) hb4
        have ka_4 := ka_3.keep hb4
        have kr_4 := kr_3.keep hb4
        have k3_4 := k3_3.keep hb4
        have k4_4 := hv4
        go_wp2_with (fail)
        refine (HCM1.out _ _ k4_4 ka_4).mono ?_
        rintro e w5 ⟨rfl, hb5⟩
        have b5 := below_at b4 (Nat.le_refl _) hb5
        have kr_5 := kr_4.keep hb5
        have k3_5 := k3_4.keep hb5
        go_wp2
        go_roundw
        case rel => exact ⟨i, r, by omega, by first | rfl | go_num, HNEW.out, by have h1 := HRX.out; have h2 := HP.out; omega, kr_5, b5⟩
        case measure => simp [intOf]
end Go.Proofs.Ytaegkhdkhgemmaa

namespace Go.Proofs.Ytaegkhdkhgemmaa
open Go.RowKit Num

set_option maxHeartbeats 1000000 in
set_option maxRecDepth 100000 in
theorem shift_bad (a : Value) (n : Int) (xs : List Nat) (w : World) (ha : Limbs w a xs) (h0 : chk xs ≠ 0) : Calls Try.prog 49 #[a, .int .i64 n] w (NatErr w (chk xs)) := by
  have hc := checkAll_any w.heap.size 1 1 _ _ (nats1 ha) rfl (by omega)
  rw [chkAll1] at hc
  generalize chk xs = r at *
  have hbA := below_new w (.cells #[a] 23)
  have hq : (r != 0) = true := by simp [h0]
  have HC := Lib.hid hc
  have H0 := Lib.hid h0
  obtain ⟨A, c, rfl, _⟩ := ha
  clear hc h0
  generalize xs.length = L at *
  go_enter Try.func49, Try.ntmps49
  go_wp2_with (go_at_call 75; refine HC.out.mono ?_; rintro e w1 ⟨rfl, rfl⟩)
  go_ret2
  exact ⟨rfl, hbA⟩

theorem ownL_nil (B : Nat) (w : World) : OwnL B w (.slice none 0 0) 0 := by
  unfold OwnL
  rw [dig_zero]
  exact ⟨rfl, .inl ⟨rfl, rfl⟩⟩
set_option maxHeartbeats 1000000 in
set_option maxRecDepth 100000 in
theorem shift_zero (a : Value) (m : Nat) (n : Int) (w : World) (ha : N32 w a m) (hl : (dig B32 m).length ≤ 262144) (h0 : m = 0) : Calls Try.prog 49 #[a, .int .i64 n] w (NatOk w 0) := by
  have hc := checkAll_any w.heap.size 1 1 _ _ (nats1 (Limbs.num ha (by omega))) rfl (by omega)
  rw [chkAll1, chk_dig hl] at hc
  have hbA := below_new w (.cells #[a] 23)
  have hf := fromNat_any a m _ (ha.keep hbA) (by omega)
  have lm := words_le (n := m) (K := 131072) hl
  have hbt := fun v w' (h : W64 w' v m) => bits_call v m w' h (by omega)
  have hz : nbits m = 0 := by rw [h0]; rfl
  rw [hz] at hbt
  have HC := Lib.hid hc
  have HF := Lib.hid hf
  have HBT := Lib.hid hbt
  obtain ⟨A, c, rfl, _⟩ := ha
  clear hc hf hbt lm
  clear h0 hz hl
  generalize (dig B32 m).length = L at *
  go_enter Try.func49, Try.ntmps49
  go_wp2_with (fail)
  refine (HC.out).mono ?_
  rintro e w1 ⟨rfl, rfl⟩
  go_wp2_with (fail)
  refine (HF.out).mono ?_
  rintro e w2 ⟨v1, rfl, hv1, hb2⟩
  have b2 := below_at hbA (Nat.le_refl _) hb2
  have k1_2 := hv1.is
  go_wp2_with (fail)
  refine (HBT.out _ _ k1_2).mono ?_
  rintro e w3 ⟨rfl, rfl⟩
  go_wp2
  go_ret2
  exact ⟨_, rfl, ownL_nil _ _, b2⟩

set_option maxHeartbeats 1000000 in
set_option maxRecDepth 100000 in
theorem shift_low (a : Value) (m : Nat) (n : Int) (w : World) (ha : N32 w a m) (hl : (dig B32 m).length ≤ 262144) (h0 : m ≠ 0) (hn : n ≤ -(nbits m : Int)) : Calls Try.prog 49 #[a, .int .i64 n] w (NatOk w 0) := by
  have hc := checkAll_any w.heap.size 1 1 _ _ (nats1 (Limbs.num ha (by omega))) rfl (by omega)
  rw [chkAll1, chk_dig hl] at hc
  have hbA := below_new w (.cells #[a] 23)
  have hf := fromNat_any a m _ (ha.keep hbA) (by omega)
  have lm := words_le (n := m) (K := 131072) hl
  have hbt := fun v w' (h : W64 w' v m) => bits_call v m w' h (by omega)
  have h1 := nbits_ne h0
  have h2 := len_bits_le (n := m) (k := 131072) (words_le (K := 131072) hl)
  generalize nbits m = r at *
  have hq : ((r : Int) == 0) = false := by simp; omega
  have hd : decide (n ≤ -(r : Int)) = true := by simp [hn]
  have HC := Lib.hid hc
  have HF := Lib.hid hf
  have HBT := Lib.hid hbt
  obtain ⟨A, c, rfl, _⟩ := ha
  clear hc hf hbt lm
  clear h0 hl
  generalize (dig B32 m).length = L at *
  go_enter Try.func49, Try.ntmps49
  go_wp2_with (fail)
  refine (HC.out).mono ?_
  rintro e w1 ⟨rfl, rfl⟩
  go_wp2_with (fail)
  refine (HF.out).mono ?_
  rintro e w2 ⟨v1, rfl, hv1, hb2⟩
  have b2 := below_at hbA (Nat.le_refl _) hb2
  have k1_2 := hv1.is
  go_wp2_with (fail)
  refine (HBT.out _ _ k1_2).mono ?_
  rintro e w3 ⟨rfl, rfl⟩
  go_wp2
  go_ret2
  exact ⟨_, rfl, ownL_nil _ _, b2⟩

set_option maxHeartbeats 1000000 in
set_option maxRecDepth 100000 in
theorem shift_long (a : Value) (m : Nat) (n : Int) (w : World) (ha : N32 w a m) (hl : (dig B32 m).length ≤ 262144) (h0 : m ≠ 0) (hn : 8388608 - (nbits m : Int) < n) : Calls Try.prog 49 #[a, .int .i64 n] w (NatErr w 3) := by
  have hc := checkAll_any w.heap.size 1 1 _ _ (nats1 (Limbs.num ha (by omega))) rfl (by omega)
  rw [chkAll1, chk_dig hl] at hc
  have hbA := below_new w (.cells #[a] 23)
  have hf := fromNat_any a m _ (ha.keep hbA) (by omega)
  have lm := words_le (n := m) (K := 131072) hl
  have hbt := fun v w' (h : W64 w' v m) => bits_call v m w' h (by omega)
  have h1 := nbits_ne h0
  have h2 := len_bits_le (n := m) (k := 131072) (words_le (K := 131072) hl)
  generalize nbits m = r at *
  have hq : ((r : Int) == 0) = false := by simp; omega
  have hd : ¬ n ≤ -(r : Int) := by omega
  have HC := Lib.hid hc
  have HF := Lib.hid hf
  have HBT := Lib.hid hbt
  obtain ⟨A, c, rfl, _⟩ := ha
  clear hc hf hbt lm
  clear h0 hl
  generalize (dig B32 m).length = L at *
  go_enter Try.func49, Try.ntmps49
  go_wp2_with (fail)
  refine (HC.out).mono ?_
  rintro e w1 ⟨rfl, rfl⟩
  go_wp2_with (fail)
  refine (HF.out).mono ?_
  rintro e w2 ⟨v1, rfl, hv1, hb2⟩
  have b2 := below_at hbA (Nat.le_refl _) hb2
  have k1_2 := hv1.is
  go_wp2_with (fail)
  refine (HBT.out _ _ k1_2).mono ?_
  rintro e w3 ⟨rfl, rfl⟩
  go_wp2
  go_ret2
  exact ⟨rfl, b2⟩

set_option maxHeartbeats 1000000 in
set_option maxRecDepth 100000 in
theorem shift_down (a : Value) (m : Nat) (k : Nat) (w : World) (ha : N32 w a m) (hl : (dig B32 m).length ≤ 262144) (h0 : m ≠ 0) (hk : 1 ≤ k) (hn : k < nbits m) : Calls Try.prog 49 #[a, .int .i64 (-(k : Int))] w (NatOk w (m / 2 ^ k)) := by
  have hc := checkAll_any w.heap.size 1 1 _ _ (nats1 (Limbs.num ha (by omega))) rfl (by omega)
  rw [chkAll1, chk_dig hl] at hc
  have hbA := below_new w (.cells #[a] 23)
  have hf := fromNat_any a m _ (ha.keep hbA) (by omega)
  have lm := words_le (n := m) (K := 131072) hl
  have hbt := fun v w' (h : W64 w' v m) => bits_call v m w' h (by omega)
  have h1 := nbits_ne h0
  have h2 := len_bits_le (n := m) (k := 131072) (words_le (K := 131072) hl)
  have hsh := fun v w' (h : W64 w' v m) => shiftRight_any v m k w' h (by omega) (by omega)
  have hlq : (dig B64 (m / 2 ^ k)).length ≤ 131072 := Nat.le_trans (dig_len_mono (Nat.div_le_self _ _)) (by omega)
  have hnt := fun v w' (h : W64 w' v (m / 2 ^ k)) => nat_any v _ w' h (by omega)
  have HSH := Lib.hid hsh
  have HNT := Lib.hid hnt
  generalize nbits m = r at *
  have hq : ((r : Int) == 0) = false := by simp; omega
  have hd : ¬ (-(k : Int)) ≤ -(r : Int) := by omega
  have HC := Lib.hid hc
  have HF := Lib.hid hf
  have HBT := Lib.hid hbt
  obtain ⟨A, c, rfl, _⟩ := ha
  clear hc hf hbt lm
  clear h0 hl hlq hsh hnt
  generalize (dig B32 m).length = L at *
  go_enter Try.func49, Try.ntmps49
  go_wp2_with (fail)
  refine (HC.out).mono ?_
  rintro e w1 ⟨rfl, rfl⟩
  go_wp2_with (fail)
  refine (HF.out).mono ?_
  rintro e w2 ⟨v1, rfl, hv1, hb2⟩
  have b2 := below_at hbA (Nat.le_refl _) hb2
  have k1_2 := hv1.is
  go_wp2_with (fail)
  refine (HBT.out _ _ k1_2).mono ?_
  rintro e w3 ⟨rfl, rfl⟩
  go_wp2_with (fail)
  refine (HSH.out _ _ k1_2).mono ?_
  rintro e w4 ⟨v2, rfl, hv2, hb4⟩
  have b4 := below_at b2 (Nat.le_refl _) hb4
  have k1_4 := k1_2.keep hb4
  have k2_4 := hv2
  go_wp2_with (fail)
  refine (HNT.out _ _ k2_4).mono ?_
  rintro e w5 ⟨v3, rfl, hv3, hb5⟩
  have b5 := below_at b4 (Nat.le_refl _) hb5
  have k1_5 := k1_4.keep hb5
  have k2_5 := k2_4.keep hb5
  go_wp2
  go_ret2
  exact ⟨_, rfl, hv3.mono b4.size, b5⟩

set_option maxHeartbeats 1000000 in
set_option maxRecDepth 100000 in
theorem shift_up (a : Value) (m : Nat) (k : Nat) (w : World) (ha : N32 w a m) (hl : (dig B32 m).length ≤ 262144) (h0 : m ≠ 0) (hn : k + nbits m ≤ 8388608) : Calls Try.prog 49 #[a, .int .i64 (k : Int)] w (NatOk w (m * 2 ^ k)) := by
  have hc := checkAll_any w.heap.size 1 1 _ _ (nats1 (Limbs.num ha (by omega))) rfl (by omega)
  rw [chkAll1, chk_dig hl] at hc
  have hbA := below_new w (.cells #[a] 23)
  have hf := fromNat_any a m _ (ha.keep hbA) (by omega)
  have lm := words_le (n := m) (K := 131072) hl
  have hbt := fun v w' (h : W64 w' v m) => bits_call v m w' h (by omega)
  have h1 := nbits_ne h0
  have h2 := len_bits_le (n := m) (k := 131072) (words_le (K := 131072) hl)
  have hsh := fun v w' (h : W64 w' v m) => shiftLeft_any v m k w' h (by omega) (by omega)
  have hlq : (dig B64 (m * 2 ^ k)).length ≤ 131072 := by
    refine len_of_bits (Nat.le_trans (nbits_le (k := nbits m + k) ?_) (by omega))
    rw [Nat.pow_add]
    exact Nat.mul_lt_mul_of_pos_right (nbits_lt m) (Nat.pow_pos (by omega))
  have hnt := fun v w' (h : W64 w' v (m * 2 ^ k)) => nat_any v _ w' h (by omega)
  have HSH := Lib.hid hsh
  have HNT := Lib.hid hnt
  generalize nbits m = r at *
  have hq : ((r : Int) == 0) = false := by simp; omega
  have hd : ¬ (k : Int) ≤ -(r : Int) := by omega
  have HC := Lib.hid hc
  have HF := Lib.hid hf
  have HBT := Lib.hid hbt
  obtain ⟨A, c, rfl, _⟩ := ha
  clear hc hf hbt lm
  clear h0 hl hlq hsh hnt
  generalize (dig B32 m).length = L at *
  go_enter Try.func49, Try.ntmps49
  go_wp2_with (fail)
  refine (HC.out).mono ?_
  rintro e w1 ⟨rfl, rfl⟩
  go_wp2_with (fail)
  refine (HF.out).mono ?_
  rintro e w2 ⟨v1, rfl, hv1, hb2⟩
  have b2 := below_at hbA (Nat.le_refl _) hb2
  have k1_2 := hv1.is
  go_wp2_with (fail)
  refine (HBT.out _ _ k1_2).mono ?_
  rintro e w3 ⟨rfl, rfl⟩
  go_wp2_with (fail)
  refine (HSH.out _ _ k1_2).mono ?_
  rintro e w4 ⟨v2, rfl, hv2, hb4⟩
  have b4 := below_at b2 (Nat.le_refl _) hb4
  have k1_4 := k1_2.keep hb4
  have k2_4 := hv2.is
  go_wp2_with (fail)
  refine (HNT.out _ _ k2_4).mono ?_
  rintro e w5 ⟨v3, rfl, hv3, hb5⟩
  have b5 := below_at b4 (Nat.le_refl _) hb5
  have k1_5 := k1_4.keep hb5
  have k2_5 := k2_4.keep hb5
  go_wp2
  go_ret2
  exact ⟨_, rfl, hv3.mono b4.size, b5⟩

end Go.Proofs.Ytaegkhdkhgemmaa

namespace Go.Proofs.Ytaegkhdkhgemmaa
open Go.RowKit Num

theorem len32_mono {m n : Nat} (h : m ≤ n) : (dig B32 m).length ≤ (dig B32 n).length := dig_len_le b32_two (Nat.lt_of_le_of_lt h (dig_len_lt b32_two))
theorem pow_lt_b32 {k j : Nat} (h : k < 32 * j) : 2 ^ k < B32 ^ j := by
  have e : B32 ^ j = 2 ^ (32 * j) := by rw [Nat.pow_mul]; rfl
  rw [e]; exact Nat.pow_lt_pow_right (by omega) h
theorem limbs_empty (w : World) : Limbs (w.alloc (.cells #[] 56)) (.slice (some ⟨w.heap.size, 0, none⟩) 0 0) (dig B32 0) := by
  rw [dig_zero]
  exact ⟨_, _, rfl, Nat.le_refl _, by simp, Nums.nil⟩

set_option maxHeartbeats 2000000 in
set_option maxRecDepth 100000 in
theorem shifts_bad (A : Option Addr) (c L : Nat) (n : Int) (xs : List Nat) (w : World) (hA : Nums .u32 w A xs) (hL : L = xs.length) (hc : L ≤ c) (hnil : A = none → c = 0) (hbad : chk (xs.take 24) ≠ 0) : Calls Try.prog 7 #[.slice A L c, .int .i64 n] w (LivesPost w) := by
  have hcut := fun w' (h : Below w.heap.size w w') => cut_any A c L 24 xs w' (hA.keep h) hL hc hnil (by omega)
  have l1 : (xs.take 24).length ≤ 24 := by rw [List.length_take]; omega
  generalize xs.take 24 = us at *
  have hlu : ∀ B w' a, OwnLs B w' a us → Limbs w' a us := fun B w' a h => h.limbs (by omega)
  have h27 := fun a w h => refCheck_l a us w h
  have h49 := fun a w h => shift_bad a n us w h hbad
  generalize chk us = r at *
  have hq : (r == 0) = false := by simp [hbad]
  have hq1 : (r != 0) = true := by simp [hbad]
  have h41 := fun b w => is_err b r w hbad
  have HCUT := Lib.hid hcut
  have HLU := Lib.hid hlu
  have H27 := Lib.hid h27
  have H49 := Lib.hid h49
  have H41 := Lib.hid h41
  have HBAD := Lib.hid hbad
  clear hcut hlu h27 h49 h41 hbad
  clear hA hL hnil l1
  go_enter Try.func7, Try.ntmps7
  go_wp2_with (fail)
  refine (HCUT.out _ (Below.refl _ _)).mono ?_
  rintro e w1 ⟨va, rfl, hva, hb1⟩
  have b1 := below_at (Below.refl _ _) (Nat.le_refl _) hb1
  have ka_1 := HLU.out _ _ _ hva
  go_wp2_with (fail)
  refine (H27.out _ _ ka_1).mono ?_
  rintro e w2 ⟨rfl, rfl⟩
  go_wp2_with (fail)
  refine (lives_any _).mono ?_
  rintro e w3 ⟨rfl, hb3⟩
  have b3 := below_at b1 (Nat.le_refl _) hb3
  have ka_3 := ka_1.keep hb3
  go_wp2_with (fail)
  refine (H49.out _ _ ka_3).mono ?_
  rintro e w4 ⟨rfl, hb4⟩
  have b4 := below_at b3 (Nat.le_refl _) hb4
  have ka_4 := ka_3.keep hb4
  go_wp2_with (fail)
  refine (H41.out _ _).mono ?_
  rintro e w5 ⟨rfl, hb5⟩
  have b5 := below_at b4 (Nat.le_refl _) hb5
  have ka_5 := ka_4.keep hb5
  go_wp2
  go_ret
  exact ⟨rfl, b5⟩

set_option maxHeartbeats 2000000 in
set_option maxRecDepth 100000 in
theorem shifts_zero (A : Option Addr) (c L : Nat) (n : Int) (xs : List Nat) (w : World) (hA : Nums .u32 w A xs) (hL : L = xs.length) (hc : L ≤ c) (hnil : A = none → c = 0) (m : Nat) (hm : xs.take 24 = dig B32 m) (h0 : m = 0) : Calls Try.prog 7 #[.slice A L c, .int .i64 n] w (LivesPost w) := by
  have hcut := fun w' (h : Below w.heap.size w w') => cut_any A c L 24 xs w' (hA.keep h) hL hc hnil (by omega)
  have l1 : (xs.take 24).length ≤ 24 := by rw [List.length_take]; omega
  rw [hm] at hcut l1
  have hlu : ∀ B w' a, OwnLs B w' a (dig B32 m) → Limbs w' a (dig B32 m) := fun B w' a h => h.limbs (by omega)
  have h27 := fun a w h => refCheck_l a (dig B32 m) w h
  rw [chk_dig (by omega)] at h27
  have lb : nbits m ≤ 768 := Nat.le_trans (bits_of_len l1) (by omega)
  have h49 := fun a w' (h : Limbs w' a (dig B32 m)) => shift_zero a m n w' h.is (by omega) h0
  have h41 := fun a w' (h : N32 w' a 0) (b : Value) (k : Limbs w' b (dig B32 0)) => is_ok a b 0 w' h k (by rw [dig_zero]; simp)
  obtain ⟨D, hD⟩ : ∃ D, (dig B32 m).length = D := ⟨_, rfl⟩
  have hd0 : D = 0 := by rw [← hD, h0, dig_zero]; rfl
  subst hd0
  have H49 := Lib.hid h49
  have H41 := Lib.hid h41
  clear h49 h41 h0
  have HCUT := Lib.hid hcut
  have HLU := Lib.hid hlu
  have H27 := Lib.hid h27
  have HD := Lib.hid hD
  clear hcut hlu h27 hD
  clear hA hL hnil l1 hm lb
  go_enter Try.func7, Try.ntmps7
  go_wp2_with (fail)
  refine (HCUT.out _ (Below.refl _ _)).mono ?_
  rintro e w1 ⟨va, rfl, hva, hb1⟩
  have b1 := below_at (Below.refl _ _) (Nat.le_refl _) hb1
  have ka_1 := HLU.out _ _ _ hva
  have kk := ka_1
  obtain ⟨A1, c1, hve, hq1, _, _⟩ := kk
  rw [HD.out] at hve hq1
  subst hve
  go_wp2_with (fail)
  refine (H27.out _ _ ka_1).mono ?_
  rintro e w2 ⟨rfl, rfl⟩
  go_wp2_with (fail)
  refine (lives_any _).mono ?_
  rintro e w3 ⟨rfl, hb3⟩
  have b3 := below_at b1 (Nat.le_refl _) hb3
  have ka_3 := ka_1.keep hb3
  go_wp2_with (fail)
  refine (H49.out _ _ ka_3).mono ?_
  rintro e w4 ⟨vs, rfl, hvs, hb4⟩
  have b4 := below_at b3 (Nat.le_refl _) hb4
  have ks_4 := hvs.is
  go_wp2_with (fail)
  refine (H41.out _ _ (ks_4.keep (below_new _ (.cells #[] 56))) _ (limbs_empty _)).mono ?_
  rintro e w5 ⟨rfl, hb5'⟩
  have hb5 := below_at (below_new _ (.cells #[] 56)) (Nat.le_refl _) hb5'
  have b5 := below_at b4 (Nat.le_refl _) hb5
  have ks_5 := ks_4.keep hb5
  go_wp2
  go_ret
  exact ⟨rfl, b5⟩

set_option maxHeartbeats 2000000 in
set_option maxRecDepth 100000 in
theorem shifts_long (A : Option Addr) (c L : Nat) (n : Int) (xs : List Nat) (w : World) (hA : Nums .u32 w A xs) (hL : L = xs.length) (hc : L ≤ c) (hnil : A = none → c = 0) (m : Nat) (hm : xs.take 24 = dig B32 m) (h0 : m ≠ 0) (hn : 8388608 < n) : Calls Try.prog 7 #[.slice A L c, .int .i64 n] w (LivesPost w) := by
  have hcut := fun w' (h : Below w.heap.size w w') => cut_any A c L 24 xs w' (hA.keep h) hL hc hnil (by omega)
  have l1 : (xs.take 24).length ≤ 24 := by rw [List.length_take]; omega
  rw [hm] at hcut l1
  have hlu : ∀ B w' a, OwnLs B w' a (dig B32 m) → Limbs w' a (dig B32 m) := fun B w' a h => h.limbs (by omega)
  have h27 := fun a w h => refCheck_l a (dig B32 m) w h
  rw [chk_dig (by omega)] at h27
  have lb : nbits m ≤ 768 := Nat.le_trans (bits_of_len l1) (by omega)
  have h49 := fun a w' (h : Limbs w' a (dig B32 m)) => shift_long a m n w' h.is (by omega) h0 (by omega)
  have h41 := fun b w => is_err b 3 w (by omega)
  have H49 := Lib.hid h49
  have H41 := Lib.hid h41
  clear h49 h41
  obtain ⟨D, hD⟩ : ∃ D, (dig B32 m).length = D := ⟨_, rfl⟩
  have hd0 : 0 < D := by rw [← hD]; exact Nat.pos_of_ne_zero fun h => h0 ((dig_nil_iff b32_two).1 (List.eq_nil_of_length_eq_zero h))
  clear h0
  have HCUT := Lib.hid hcut
  have HLU := Lib.hid hlu
  have H27 := Lib.hid h27
  have HD := Lib.hid hD
  clear hcut hlu h27 hD
  clear hA hL hnil l1 hm lb
  go_enter Try.func7, Try.ntmps7
  go_wp2_with (fail)
  refine (HCUT.out _ (Below.refl _ _)).mono ?_
  rintro e w1 ⟨va, rfl, hva, hb1⟩
  have b1 := below_at (Below.refl _ _) (Nat.le_refl _) hb1
  have ka_1 := HLU.out _ _ _ hva
  have kk := ka_1
  obtain ⟨A1, c1, hve, hq1, _, _⟩ := kk
  rw [HD.out] at hve hq1
  subst hve
  go_wp2_with (fail)
  refine (H27.out _ _ ka_1).mono ?_
  rintro e w2 ⟨rfl, rfl⟩
  go_wp2_with (fail)
  refine (lives_any _).mono ?_
  rintro e w3 ⟨rfl, hb3⟩
  have b3 := below_at b1 (Nat.le_refl _) hb3
  have ka_3 := ka_1.keep hb3
  go_wp2_with (fail)
  refine (H49.out _ _ ka_3).mono ?_
  rintro e w4 ⟨rfl, hb4⟩
  have b4 := below_at b3 (Nat.le_refl _) hb4
  go_wp2_with (fail)
  refine (H41.out _ _).mono ?_
  rintro e w5 ⟨rfl, hb5⟩
  have b5 := below_at b4 (Nat.le_refl _) hb5
  go_wp2
  go_ret
  exact ⟨rfl, b5⟩

set_option maxHeartbeats 2000000 in
set_option maxRecDepth 100000 in
theorem shifts_low (A : Option Addr) (c L : Nat) (n : Int) (xs : List Nat) (w : World) (hA : Nums .u32 w A xs) (hL : L = xs.length) (hc : L ≤ c) (hnil : A = none → c = 0) (m : Nat) (hm : xs.take 24 = dig B32 m) (h0 : m ≠ 0) (hn : n < -2000) : Calls Try.prog 7 #[.slice A L c, .int .i64 n] w (LivesPost w) := by
  have hcut := fun w' (h : Below w.heap.size w w') => cut_any A c L 24 xs w' (hA.keep h) hL hc hnil (by omega)
  have l1 : (xs.take 24).length ≤ 24 := by rw [List.length_take]; omega
  rw [hm] at hcut l1
  have hlu : ∀ B w' a, OwnLs B w' a (dig B32 m) → Limbs w' a (dig B32 m) := fun B w' a h => h.limbs (by omega)
  have h27 := fun a w h => refCheck_l a (dig B32 m) w h
  rw [chk_dig (by omega)] at h27
  have lb : nbits m ≤ 768 := Nat.le_trans (bits_of_len l1) (by omega)
  have h49 := fun a w' (h : Limbs w' a (dig B32 m)) => shift_low a m n w' h.is (by omega) h0 (by omega)
  have h41 := fun a w' (h : N32 w' a 0) (b : Value) (k : Limbs w' b (dig B32 0)) => is_ok a b 0 w' h k (by rw [dig_zero]; simp)
  have H49 := Lib.hid h49
  have H41 := Lib.hid h41
  clear h49 h41
  obtain ⟨D, hD⟩ : ∃ D, (dig B32 m).length = D := ⟨_, rfl⟩
  have hd0 : 0 < D := by rw [← hD]; exact Nat.pos_of_ne_zero fun h => h0 ((dig_nil_iff b32_two).1 (List.eq_nil_of_length_eq_zero h))
  clear h0
  have HCUT := Lib.hid hcut
  have HLU := Lib.hid hlu
  have H27 := Lib.hid h27
  have HD := Lib.hid hD
  clear hcut hlu h27 hD
  clear hA hL hnil l1 hm lb
  go_enter Try.func7, Try.ntmps7
  go_wp2_with (fail)
  refine (HCUT.out _ (Below.refl _ _)).mono ?_
  rintro e w1 ⟨va, rfl, hva, hb1⟩
  have b1 := below_at (Below.refl _ _) (Nat.le_refl _) hb1
  have ka_1 := HLU.out _ _ _ hva
  have kk := ka_1
  obtain ⟨A1, c1, hve, hq1, _, _⟩ := kk
  rw [HD.out] at hve hq1
  subst hve
  go_wp2_with (fail)
  refine (H27.out _ _ ka_1).mono ?_
  rintro e w2 ⟨rfl, rfl⟩
  go_wp2_with (fail)
  refine (lives_any _).mono ?_
  rintro e w3 ⟨rfl, hb3⟩
  have b3 := below_at b1 (Nat.le_refl _) hb3
  have ka_3 := ka_1.keep hb3
  go_wp2_with (fail)
  refine (H49.out _ _ ka_3).mono ?_
  rintro e w4 ⟨vs, rfl, hvs, hb4⟩
  have b4 := below_at b3 (Nat.le_refl _) hb4
  have ks_4 := hvs.is
  go_wp2_with (fail)
  refine (H41.out _ _ (ks_4.keep (below_new _ (.cells #[] 56))) _ (limbs_empty _)).mono ?_
  rintro e w5 ⟨rfl, hb5'⟩
  have hb5 := below_at (below_new _ (.cells #[] 56)) (Nat.le_refl _) hb5'
  have b5 := below_at b4 (Nat.le_refl _) hb5
  have ks_5 := ks_4.keep hb5
  go_wp2
  go_ret
  exact ⟨rfl, b5⟩

set_option maxHeartbeats 2000000 in
set_option maxRecDepth 100000 in
theorem shifts_up (A : Option Addr) (c L : Nat) (n : Int) (xs : List Nat) (w : World) (hA : Nums .u32 w A xs) (hL : L = xs.length) (hc : L ≤ c) (hnil : A = none → c = 0) (m : Nat) (hm : xs.take 24 = dig B32 m) (h0 : m ≠ 0) (k : Nat) (hk : k ≤ 4000) (hn : n = (k : Int)) : Calls Try.prog 7 #[.slice A L c, .int .i64 n] w (LivesPost w) := by
  have hcut := fun w' (h : Below w.heap.size w w') => cut_any A c L 24 xs w' (hA.keep h) hL hc hnil (by omega)
  have l1 : (xs.take 24).length ≤ 24 := by rw [List.length_take]; omega
  rw [hm] at hcut l1
  have hlu : ∀ B w' a, OwnLs B w' a (dig B32 m) → Limbs w' a (dig B32 m) := fun B w' a h => h.limbs (by omega)
  have h27 := fun a w h => refCheck_l a (dig B32 m) w h
  rw [chk_dig (by omega)] at h27
  have lb : nbits m ≤ 768 := Nat.le_trans (bits_of_len l1) (by omega)
  have h49 : ∀ a w', Limbs w' a (dig B32 m) → Calls Try.prog 49 #[a, .int .i64 n] w' (NatOk w' (m * 2 ^ k)) := fun a w' h => by rw [hn]; exact shift_up a m k w' h.is (by omega) h0 (by omega)
  have h50 : ∀ a w', Limbs w' a (dig B32 m) → Calls Try.prog 50 #[a, .int .i64 n] w' (LsPost w' (dig B32 (m * 2 ^ k))) := fun a w' h => by rw [hn]; exact left_any a m k w' h.is (by omega) (by omega)
  have hlr : (dig B32 (m * 2 ^ k)).length ≤ 1000 := Nat.le_trans (prod_len l1 (dig_len_le b32_two (n := 2 ^ k) (k := 200) (pow_lt_b32 (show k < 32 * 200 by omega)))) (by omega)
  have h41 : ∀ (B : Nat) (a : Value) (w' : World), N32 w' a (m * 2 ^ k) → ∀ b, OwnLs B w' b (dig B32 (m * 2 ^ k)) → Calls Try.prog 41 #[a, .int .i64 0, b, .int .i64 0] w' (LivesPost w') := fun B a w' h b kk => is_ok a b (m * 2 ^ k) w' h (kk.limbs (by omega)) (by omega)
  have H49 := Lib.hid h49
  have H41 := Lib.hid h41
  clear h49 h41
  have H50 := Lib.hid h50
  clear h50 hlr
  have hn0 : 0 ≤ n := by omega
  have hn1 : n ≤ 4000 := by omega
  clear hn
  obtain ⟨D, hD⟩ : ∃ D, (dig B32 m).length = D := ⟨_, rfl⟩
  have hd0 : 0 < D := by rw [← hD]; exact Nat.pos_of_ne_zero fun h => h0 ((dig_nil_iff b32_two).1 (List.eq_nil_of_length_eq_zero h))
  clear h0
  have HCUT := Lib.hid hcut
  have HLU := Lib.hid hlu
  have H27 := Lib.hid h27
  have HD := Lib.hid hD
  clear hcut hlu h27 hD
  clear hA hL hnil l1 hm lb
  go_enter Try.func7, Try.ntmps7
  go_wp2_with (fail)
  refine (HCUT.out _ (Below.refl _ _)).mono ?_
  rintro e w1 ⟨va, rfl, hva, hb1⟩
  have b1 := below_at (Below.refl _ _) (Nat.le_refl _) hb1
  have ka_1 := HLU.out _ _ _ hva
  have kk := ka_1
  obtain ⟨A1, c1, hve, hq1, _, _⟩ := kk
  rw [HD.out] at hve hq1
  subst hve
  go_wp2_with (fail)
  refine (H27.out _ _ ka_1).mono ?_
  rintro e w2 ⟨rfl, rfl⟩
  go_wp2_with (fail)
  refine (lives_any _).mono ?_
  rintro e w3 ⟨rfl, hb3⟩
  have b3 := below_at b1 (Nat.le_refl _) hb3
  have ka_3 := ka_1.keep hb3
  go_wp2_with (fail)
  refine (H49.out _ _ ka_3).mono ?_
  rintro e w4 ⟨vs, rfl, hvs, hb4⟩
  have b4 := below_at b3 (Nat.le_refl _) hb4
  have ka_4 := ka_3.keep hb4
  have ks_4 := hvs.is
  go_wp2_with (fail)
  refine (H50.out _ _ ka_4).mono ?_
  rintro e w5 ⟨vr, rfl, hvr, hb5⟩
  have b5 := below_at b4 (Nat.le_refl _) hb5
  have ks_5 := ks_4.keep hb5
  go_wp2_with (fail)
  refine (H41.out _ _ _ ks_5 _ hvr).mono ?_
  rintro e w6 ⟨rfl, hb6⟩
  have b6 := below_at b5 (Nat.le_refl _) hb6
  go_wp2
  go_ret
  exact ⟨rfl, b6⟩

set_option maxHeartbeats 2000000 in
set_option maxRecDepth 100000 in
theorem shifts_mod (A : Option Addr) (c L : Nat) (n : Int) (xs : List Nat) (w : World) (hA : Nums .u32 w A xs) (hL : L = xs.length) (hc : L ≤ c) (hnil : A = none → c = 0) (m : Nat) (hm : xs.take 24 = dig B32 m) (h0 : m ≠ 0) (k : Nat) (hk : k + 1 ≤ 4000) (hn : 4000 < n) (hn2 : n ≤ 8388608) (he : n % 4000 = (k : Int)) : Calls Try.prog 7 #[.slice A L c, .int .i64 n] w (LivesPost w) := by
  have hcut := fun w' (h : Below w.heap.size w w') => cut_any A c L 24 xs w' (hA.keep h) hL hc hnil (by omega)
  have l1 : (xs.take 24).length ≤ 24 := by rw [List.length_take]; omega
  rw [hm] at hcut l1
  have hlu : ∀ B w' a, OwnLs B w' a (dig B32 m) → Limbs w' a (dig B32 m) := fun B w' a h => h.limbs (by omega)
  have h27 := fun a w h => refCheck_l a (dig B32 m) w h
  rw [chk_dig (by omega)] at h27
  have lb : nbits m ≤ 768 := Nat.le_trans (bits_of_len l1) (by omega)
  have hs : (k : Int) + 1 = ((k + 1 : Nat) : Int) := by omega
  have h49 : ∀ a w', Limbs w' a (dig B32 m) → Calls Try.prog 49 #[a, .int .i64 ((k : Int) + 1)] w' (NatOk w' (m * 2 ^ (k + 1))) := fun a w' h => by rw [hs]; exact shift_up a m (k + 1) w' h.is (by omega) h0 (by omega)
  have h50 : ∀ a w', Limbs w' a (dig B32 m) → Calls Try.prog 50 #[a, .int .i64 ((k : Int) + 1)] w' (LsPost w' (dig B32 (m * 2 ^ (k + 1)))) := fun a w' h => by rw [hs]; exact left_any a m (k + 1) w' h.is (by omega) (by omega)
  have hlr : (dig B32 (m * 2 ^ (k + 1))).length ≤ 1000 := Nat.le_trans (prod_len l1 (dig_len_le b32_two (n := 2 ^ (k + 1)) (k := 200) (pow_lt_b32 (show k + 1 < 32 * 200 by omega)))) (by omega)
  have h41 : ∀ (B : Nat) (a : Value) (w' : World), N32 w' a (m * 2 ^ (k + 1)) → ∀ b, OwnLs B w' b (dig B32 (m * 2 ^ (k + 1))) → Calls Try.prog 41 #[a, .int .i64 0, b, .int .i64 0] w' (LivesPost w') := fun B a w' h b kk => is_ok a b (m * 2 ^ (k + 1)) w' h (kk.limbs (by omega)) (by omega)
  have H49 := Lib.hid h49
  have H41 := Lib.hid h41
  clear h49 h41
  have H50 := Lib.hid h50
  clear h50 hlr
  clear hs
  obtain ⟨D, hD⟩ : ∃ D, (dig B32 m).length = D := ⟨_, rfl⟩
  have hd0 : 0 < D := by rw [← hD]; exact Nat.pos_of_ne_zero fun h => h0 ((dig_nil_iff b32_two).1 (List.eq_nil_of_length_eq_zero h))
  clear h0
  have HCUT := Lib.hid hcut
  have HLU := Lib.hid hlu
  have H27 := Lib.hid h27
  have HD := Lib.hid hD
  clear hcut hlu h27 hD
  clear hA hL hnil l1 hm lb
  go_enter Try.func7, Try.ntmps7
  go_wp2_with (fail)
  refine (HCUT.out _ (Below.refl _ _)).mono ?_
  rintro e w1 ⟨va, rfl, hva, hb1⟩
  have b1 := below_at (Below.refl _ _) (Nat.le_refl _) hb1
  have ka_1 := HLU.out _ _ _ hva
  have kk := ka_1
  obtain ⟨A1, c1, hve, hq1, _, _⟩ := kk
  rw [HD.out] at hve hq1
  subst hve
  go_wp2_with (fail)
  refine (H27.out _ _ ka_1).mono ?_
  rintro e w2 ⟨rfl, rfl⟩
  go_wp2_with (fail)
  refine (lives_any _).mono ?_
  rintro e w3 ⟨rfl, hb3⟩
  have b3 := below_at b1 (Nat.le_refl _) hb3
  have ka_3 := ka_1.keep hb3
  go_wp2_with (fail)
  refine (H49.out _ _ ka_3).mono ?_
  rintro e w4 ⟨vs, rfl, hvs, hb4⟩
  have b4 := below_at b3 (Nat.le_refl _) hb4
  have ka_4 := ka_3.keep hb4
  have ks_4 := hvs.is
  go_wp2_with (fail)
  refine (H50.out _ _ ka_4).mono ?_
  rintro e w5 ⟨vr, rfl, hvr, hb5⟩
  have b5 := below_at b4 (Nat.le_refl _) hb5
  have ks_5 := ks_4.keep hb5
  go_wp2_with (fail)
  refine (H41.out _ _ _ ks_5 _ hvr).mono ?_
  rintro e w6 ⟨rfl, hb6⟩
  have b6 := below_at b5 (Nat.le_refl _) hb6
  go_wp2
  go_ret
  exact ⟨rfl, b6⟩

set_option maxHeartbeats 2000000 in
set_option maxRecDepth 100000 in
theorem shifts_down (A : Option Addr) (c L : Nat) (n : Int) (xs : List Nat) (w : World) (hA : Nums .u32 w A xs) (hL : L = xs.length) (hc : L ≤ c) (hnil : A = none → c = 0) (m : Nat) (hm : xs.take 24 = dig B32 m) (h0 : m ≠ 0) (k : Nat) (hk : 1 ≤ k) (hk2 : k ≤ 2000) (hn : n = -(k : Int)) : Calls Try.prog 7 #[.slice A L c, .int .i64 n] w (LivesPost w) := by
  have hcut := fun w' (h : Below w.heap.size w w') => cut_any A c L 24 xs w' (hA.keep h) hL hc hnil (by omega)
  have l1 : (xs.take 24).length ≤ 24 := by rw [List.length_take]; omega
  rw [hm] at hcut l1
  have hlu : ∀ B w' a, OwnLs B w' a (dig B32 m) → Limbs w' a (dig B32 m) := fun B w' a h => h.limbs (by omega)
  have h27 := fun a w h => refCheck_l a (dig B32 m) w h
  rw [chk_dig (by omega)] at h27
  have lb : nbits m ≤ 768 := Nat.le_trans (bits_of_len l1) (by omega)
  have h49 : ∀ a w', Limbs w' a (dig B32 m) → Calls Try.prog 49 #[a, .int .i64 n] w' (NatOk w' (m / 2 ^ k)) := fun a w' h => by
    subst hn
    by_cases hb : k < nbits m
    · exact shift_down a m k w' h.is (by omega) h0 hk hb
    · have := shift_low a m (-(k : Int)) w' h.is (by omega) h0 (by omega)
      have hz : m / 2 ^ k = 0 := Nat.div_eq_of_lt (lt_of_nbits (by omega))
      rw [hz]; exact this
  have h50 := fun a w' (h : Limbs w' a (dig B32 m)) => right_any a m k w' h.is (by omega) (by omega)
  have hlr : (dig B32 (m / 2 ^ k)).length ≤ 1000 := Nat.le_trans (len32_mono (Nat.div_le_self _ _)) (by omega)
  have h41 : ∀ (B : Nat) (a : Value) (w' : World), N32 w' a (m / 2 ^ k) → ∀ b, OwnLs B w' b (dig B32 (m / 2 ^ k)) → Calls Try.prog 41 #[a, .int .i64 0, b, .int .i64 0] w' (LivesPost w') := fun B a w' h b kk => is_ok a b (m / 2 ^ k) w' h (kk.limbs (by omega)) (by omega)
  have H49 := Lib.hid h49
  have H41 := Lib.hid h41
  clear h49 h41
  have H50 := Lib.hid h50
  clear h50 hlr
  obtain ⟨D, hD⟩ : ∃ D, (dig B32 m).length = D := ⟨_, rfl⟩
  have hd0 : 0 < D := by rw [← hD]; exact Nat.pos_of_ne_zero fun h => h0 ((dig_nil_iff b32_two).1 (List.eq_nil_of_length_eq_zero h))
  clear h0
  subst hn
  have HCUT := Lib.hid hcut
  have HLU := Lib.hid hlu
  have H27 := Lib.hid h27
  have HD := Lib.hid hD
  clear hcut hlu h27 hD
  clear hA hL hnil l1 hm lb
  go_enter Try.func7, Try.ntmps7
  go_wp2_with (fail)
  refine (HCUT.out _ (Below.refl _ _)).mono ?_
  rintro e w1 ⟨va, rfl, hva, hb1⟩
  have b1 := below_at (Below.refl _ _) (Nat.le_refl _) hb1
  have ka_1 := HLU.out _ _ _ hva
  have kk := ka_1
  obtain ⟨A1, c1, hve, hq1, _, _⟩ := kk
  rw [HD.out] at hve hq1
  subst hve
  go_wp2_with (fail)
  refine (H27.out _ _ ka_1).mono ?_
  rintro e w2 ⟨rfl, rfl⟩
  go_wp2_with (fail)
  refine (lives_any _).mono ?_
  rintro e w3 ⟨rfl, hb3⟩
  have b3 := below_at b1 (Nat.le_refl _) hb3
  have ka_3 := ka_1.keep hb3
  go_wp2_with (fail)
  refine (H49.out _ _ ka_3).mono ?_
  rintro e w4 ⟨vs, rfl, hvs, hb4⟩
  have b4 := below_at b3 (Nat.le_refl _) hb4
  have ka_4 := ka_3.keep hb4
  have ks_4 := hvs.is
  go_wp2_with (fail)
  refine (H50.out _ _ ka_4).mono ?_
  rintro e w5 ⟨vr, rfl, hvr, hb5⟩
  have b5 := below_at b4 (Nat.le_refl _) hb5
  have ks_5 := ks_4.keep hb5
  go_wp2_with (fail)
  refine (H41.out _ _ _ ks_5 _ hvr).mono ?_
  rintro e w6 ⟨rfl, hb6⟩
  have b6 := below_at b5 (Nat.le_refl _) hb6
  go_wp2
  go_ret
  exact ⟨rfl, b6⟩

/-- The law NatShifts, for whatever limbs and whatever number of places. -/
theorem shifts_walk (A : Option Addr) (c L : Nat) (n : Int) (xs : List Nat) (w : World) (hA : Nums .u32 w A xs) (hL : L = xs.length) (hc : L ≤ c) (hnil : A = none → c = 0) (hlow : Low B32 xs) : Calls Try.prog 7 #[.slice A L c, .int .i64 n] w (LivesPost w) := by
  by_cases hb : chk (xs.take 24) = 0
  · have hm := chk_zero (hlow.take 24) hb
    by_cases h0 : val B32 (xs.take 24) = 0
    · exact shifts_zero A c L n xs w hA hL hc hnil _ hm h0
    · rcases Int.lt_or_le 8388608 n with h1 | h1
      · exact shifts_long A c L n xs w hA hL hc hnil _ hm h0 h1
      · rcases Int.lt_or_le 4000 n with h2 | h2
        · exact shifts_mod A c L n xs w hA hL hc hnil _ hm h0 (n % 4000).toNat (by omega) h2 h1 (by omega)
        · rcases Int.lt_or_le n 0 with h3 | h3
          · rcases Int.lt_or_le n (-2000) with h4 | h4
            · exact shifts_low A c L n xs w hA hL hc hnil _ hm h0 h4
            · exact shifts_down A c L n xs w hA hL hc hnil _ hm h0 (-n).toNat (by omega) (by omega) (by omega)
          · exact shifts_up A c L n xs w hA hL hc hnil _ hm h0 n.toNat (by omega) (by omega)
  · exact shifts_bad A c L n xs w hA hL hc hnil hb
end Go.Proofs.Ytaegkhdkhgemmaa
