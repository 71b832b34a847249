import Derived.Test.YtaegkhdkhgemmaaShr
namespace Go.Proofs.Ytaegkhdkhgemmaa
open Go.RowKit Num

set_option maxHeartbeats 1000000 in
set_option maxRecDepth 100000 in
theorem shiftLeft_any (a : Value) (n f : Nat) (w : World) (ha : W64 w a n) (hl : (dig B64 n).length ≤ 100000000000) (hf : f ≤ 10000000000000) :
    Calls Try.prog 93 #[a, .int .i64 (f : Int)] w (SumPost w (n * 2 ^ f)) := by
  obtain ⟨A, c, rfl, _, hA⟩ := ha
  obtain ⟨xs, hxs⟩ : ∃ xs, dig B64 n = xs := ⟨_, rfl⟩
  have hlow := dig_low64 n
  have hval := val_dig b64_two n
  rw [hxs] at hlow hval hl hA ⊢
  obtain ⟨L, hL⟩ : ∃ L, xs.length = L := ⟨_, rfl⟩
  rw [hL] at hl ⊢
  obtain ⟨wh, s, hs, rfl⟩ : ∃ wh s, s < 64 ∧ f = 64 * wh + s := ⟨f / 64, f % 64, Nat.mod_lt _ (by omega), by omega⟩
  have e1 : ((64 * wh + s : Nat) : Int) / 64 = (wh : Int) := by omega
  have e2 : ((64 * wh + s : Nat) : Int) % 64 = (s : Int) := by omega
  have hwh : wh ≤ 10000000000000 := by omega
  have hst0 := ShlSt.start xs wh s
  rw [hL] at hst0
  have hmk := make64 (L + wh + 1) (by omega)
  push_cast at hmk
  have hr0 := Row.made w .u64 (L + wh + 1) 24
  have hbA : Below w.heap.size w (w.alloc (.cells (madeCells #[.int .u64 0] (L + wh + 1)) 24)) := (Below.refl _ _).alloc (Nat.le_refl _) _
  have HXS := Lib.hid hxs
  have HL := Lib.hid hL
  have HVAL := Lib.hid hval
  have HR0 := Lib.hid hr0
  clear hxs hL hval hr0
  generalize hF : ((64 * wh + s : Nat) : Int) = F at *
  have hF0 : 0 ≤ F := by omega
  have hF1 : F ≤ 10000000000000 := by omega
  clear hF
  go_enter Try.func93, Try.ntmps93
  go_wp2
  go_loopw [23] (fun t wr => ∃ (k : Nat) (zs : List Nat), k ≤ L ∧ t = .int .i64 (k : Int) ∧ ShlSt xs wh s k zs ∧ Row .u64 24 wr w.heap.size zs ∧ Below w.heap.size w wr) (fun t _ => L - (intOf t).toNat)
  case atStart => exact ⟨0, _, Nat.zero_le _, rfl, hst0, HR0.out, hbA⟩
  case round =>
    clear hst0 HR0 hbA hmk
    obtain ⟨k, zs, hk, rfl, hst, hrow, hbl⟩ := hrel
    by_cases hlt : k < L
    · obtain ⟨q, qo, v, rfl, hq, hv, hcv⟩ := (hA.keep hbl).at_ (i := k) (by have := HL.out; omega)
      have hvl : v < B64 := hlow v (List.mem_of_getElem? hv)
      have hlen := hst.len
      rw [HL.out] at hlen
      obtain ⟨o, ho⟩ : ∃ o, zs[wh + k]? = some o := ⟨zs[wh + k]'(by omega), List.getElem?_eq_getElem _⟩
      have hst' := hst.step hs (by have := HL.out; omega) hv hvl ho
      have hor := or_shl o v s (hst.head o ho) hs
      have hco := hrow.cell ho
      have hfo := hrow.frozen (wh + k)
      generalize o + v * 2 ^ s % 18446744073709551616 = nv at *
      have hrow1 := hrow.set (wh + k) nv
      obtain ⟨z, hz⟩ : ∃ z, (zs.set (wh + k) nv)[wh + k + 1]? = some z := ⟨(zs.set (wh + k) nv)[wh + k + 1]'(by rw [List.length_set]; omega), List.getElem?_eq_getElem _⟩
      have hcz := hrow1.cell hz
      have hfz := hrow1.frozen (wh + k + 1)
      have hdv : (v : Int) / 2 ^ (64 - s) = ((v / 2 ^ (64 - s) : Nat) : Int) := by push_cast; rfl
      generalize v / 2 ^ (64 - s) = u at *
      have hrow2 := hrow1.set (wh + k + 1) u
      have HV := Lib.hid hv
      have HO := Lib.hid ho
      have HZ := Lib.hid hz
      have HLEN := Lib.hid hlen
      have H2 := Lib.hid hrow2
      have HS2 := Lib.hid hst'
      clear hv ho hz hA hvl hlow hlen hrow2 hst' hrow1
      go_wp2
      go_region
      go_wp2
      go_roundw
      case rel => exact ⟨k + 1, _, by omega, by go_num, HS2.out, H2.out, (below_set (below_set hbl (Nat.le_refl _) _) (Nat.le_refl _) _).drew⟩
      case measure => simp [intOf]; omega
    · have hkL : k = L := by omega
      subst hkL
      clear hlt
      have hn := hrow.nums0 zs.length
      rw [List.take_length] at hn
      have hlen := hst.len
      rw [HL.out] at hlen
      have HLEN := Lib.hid hlen
      have hfin := hst.eq
      have HF := Lib.hid hfin
      clear hfin hlen hA
      go_wp2_with (go_at_call 78
                   refine (trim_any _ (k + wh + 1) (k + wh + 1) zs _ hn hst.low HLEN.out.symm (Nat.le_refl _) (by omega)).mono ?_
                   rintro e w1 ⟨rfl, rfl⟩)
      go_ret
      have hfin := HF.out
      rw [List.take_of_length_le (by rw [HL.out]; exact Nat.le_refl _)] at hfin
      have hv : n * 2 ^ (64 * wh + s) = val B64 zs := by rw [← HVAL.out]; exact hfin.symm
      rw [hv]
      have := own_of_trim b64_two hrow hst.low (Nat.le_refl w.heap.size)
      rw [HLEN.out] at this
      exact ⟨_, rfl, this, hbl⟩
end Go.Proofs.Ytaegkhdkhgemmaa
