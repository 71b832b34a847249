import Derived.Test.YtaegkhdkhgemmaaShl
namespace Go.Proofs.Ytaegkhdkhgemmaa
open Go.RowKit Num

set_option maxHeartbeats 1000000 in
set_option maxRecDepth 100000 in
theorem fromNat_any (a : Value) (n : Nat) (w : World) (ha : N32 w a n) (hl : (dig B32 n).length ≤ 100000000000) :
    Calls Try.prog 76 #[a] w (SumPost w n) := by
  obtain ⟨A, c, rfl, _, hA⟩ := ha
  obtain ⟨xs, hxs⟩ : ∃ xs, dig B32 n = xs := ⟨_, rfl⟩
  have hlow := low_dig b32_two n
  rw [hxs] at hlow hl hA ⊢
  obtain ⟨L, hL⟩ : ∃ L, xs.length = L := ⟨_, rfl⟩
  rw [hL] at hl ⊢
  obtain ⟨K, hK⟩ : ∃ K, (L + 1) / 2 = K := ⟨_, rfl⟩
  have hK' : ((L : Int) + 1) / 2 = (K : Int) := by omega
  have hst0 := PackSt.start xs K
  have hmk := make64 K (by omega)
  have hr0 := Row.made w .u64 K 24
  have hbA : Below w.heap.size w (w.alloc (.cells (madeCells #[.int .u64 0] K) 24)) := (Below.refl _ _).alloc (Nat.le_refl _) _
  have HXS := Lib.hid hxs
  have HL := Lib.hid hL
  have HR0 := Lib.hid hr0
  have HK := Lib.hid hK
  clear hxs hL hr0 hK
  go_enter Try.func76, Try.ntmps76
  go_wp2
  go_loopw [13] (fun t wr => ∃ (k : Nat) (zs : List Nat), k ≤ L ∧ t = .int .i64 (k : Int) ∧ PackSt xs K k zs ∧ Row .u64 24 wr w.heap.size zs ∧ Below w.heap.size w wr) (fun t _ => L - (intOf t).toNat)
  case atStart => exact ⟨0, _, Nat.zero_le _, rfl, hst0, HR0.out, hbA⟩
  case round =>
    clear hst0 HR0 hbA hmk
    obtain ⟨k, zs, hk, rfl, hst, hrow, hbl⟩ := hrel
    by_cases hlt : k < L
    · obtain ⟨q, qo, v, rfl, hq, hv, hcv⟩ := (hA.keep hbl).at_ (i := k) (by have := HL.out; omega)
      have hvl : v < B32 := hlow v (List.mem_of_getElem? hv)
      have hlen := hst.len
      have hkK : k / 2 < K := by have := HK.out; omega
      obtain ⟨o, ho⟩ : ∃ o, zs[k / 2]? = some o := ⟨zs[k / 2]'(by omega), List.getElem?_eq_getElem _⟩
      have hst' := hst.step hv hvl ho
      have hor := or_shl o v (k % 2 * 32) (hst.head o ho) (by omega)
      have hco := hrow.cell ho
      have hfo := hrow.frozen (k / 2)
      have hwv : IntKind.u64.wrap (v : Int) = (v : Int) := by rw [IntKind.wrap_u64]; unfold B32 at hvl; omega
      generalize o + v * 2 ^ (k % 2 * 32) % 18446744073709551616 = nv at *
      have hrow1 := hrow.set (k / 2) nv
      have hk2 : (k : Int) / 2 = ((k / 2 : Nat) : Int) := by omega
      have hs2 : (k : Int) % 2 * 32 = ((k % 2 * 32 : Nat) : Int) := by omega
      have hs3 : k % 2 * 32 < 64 := by omega
      generalize k % 2 * 32 = s at *
      generalize k / 2 = q2 at *
      have HV := Lib.hid hv
      have HO := Lib.hid ho
      have HLEN := Lib.hid hlen
      have H1 := Lib.hid hrow1
      have HS2 := Lib.hid hst'
      clear hv ho hA hvl hlow hlen hst' hrow1
      go_wp2
      go_region
      go_wp2
      go_roundw
      case rel => exact ⟨k + 1, _, by omega, by go_num, HS2.out, H1.out, (below_set hbl (Nat.le_refl _) _).drew⟩
      case measure => simp [intOf]; omega
    · have hkL : k = L := by omega
      subst hkL
      clear hlt hA
      have hz : zs = dig B64 n := by
        have h1 := hst
        rw [← HL.out] at h1
        exact h1.fin HXS.out.symm (by rw [HL.out]; exact HK.out.symm)
      have hlen := hst.len
      have HZ := Lib.hid hz
      have HLEN := Lib.hid hlen
      clear hz hlen
      go_wp2
      go_ret
      refine ⟨_, rfl, ⟨w.heap.size, K, zs, ?_, ?_, HLEN.out.symm, Nat.le_refl _, hrow, hst.low, ?_⟩, hbl⟩
      · rw [← HZ.out, HLEN.out]; rfl
      · rw [← HZ.out, HLEN.out]; exact Nat.le_refl _
      · rw [← HZ.out, List.take_length]
end Go.Proofs.Ytaegkhdkhgemmaa
