import Derived.Test.YtaegkhdkhgemmaaScale
import Derived.Test.YtaegkhdkhgemmaaMulLaws
namespace Go.Proofs.Ytaegkhdkhgemmaa
open Go.RowKit Num

set_option maxHeartbeats 1000000 in
set_option maxRecDepth 100000 in
theorem longMultiply_any (A A' : Option Addr) (c c' L L' : Nat) (us bs : List Nat) (w : World) (hA : Nums .u64 w A us) (hA' : Nums .u64 w A' bs) (ha : Low B64 us) (hb : Low B64 bs)
    (hL : L = us.length) (hL' : L' = bs.length) (hbig : L ≤ 100000000000) (hbig' : L' ≤ 100000000000) :
    Calls Try.prog 128 #[.slice A L c, .slice A' L' c'] w (SumPost w (val B64 us * val B64 bs)) := by
  have hmk := make64 (L + L') (by omega)
  push_cast at hmk
  have hr0 := Row.made w .u64 (L + L') 24
  have hbA : Below w.heap.size w (w.alloc (.cells (madeCells #[.int .u64 0] (L + L')) 24)) := (Below.refl _ _).alloc (Nat.le_refl _) _
  have hst0 := MulSt.start b64_two us bs
  rw [← hL, ← hL'] at hst0
  have HL := Lib.hid hL
  have HL' := Lib.hid hL'
  have HR0 := Lib.hid hr0
  clear hL hL' hr0
  go_enter Try.func128, Try.ntmps128
  go_wp2
  go_loopw [16] (fun t wr => ∃ (k : Nat) (zs : List Nat), k ≤ L' ∧ t = .int .i64 (k : Int) ∧ MulSt B64 us bs k zs ∧ Row .u64 24 wr w.heap.size zs ∧ Below w.heap.size w wr) (fun t _ => L' - (intOf t).toNat)
  case atStart => exact ⟨0, _, Nat.zero_le _, rfl, hst0, HR0.out, hbA⟩
  case round =>
    clear hst0 HR0 hbA hmk
    obtain ⟨k, zs, hk, rfl, hst, hrow, hbl⟩ := hrel
    by_cases hlt : k < L'
    · obtain ⟨q, qo, v, rfl, hq, hv, hcv⟩ := (hA'.keep hbl).at_ (i := k) (by have := HL'.out; omega)
      have hvl : v < B64 := hb v (List.mem_of_getElem? hv)
      have hAk := hA.keep hbl
      have hne : 0 < us.length → ∀ a, A = some a → a.block ≠ w.heap.size := nums_ne hA (Nat.le_refl _)
      have HV := Lib.hid hv
      have HNE := Lib.hid hne
      have hlen := hst.len
      rw [← HL.out, ← HL'.out] at hlen
      have HLEN := Lib.hid hlen
      clear hv hne hA hA' hlen
      go_wp2_with (go_at_call 138
                   refine (addScaled_any w.heap.size k _ _ c L v zs us A _ hrow hst.low hAk ha HNE.out HL.out (by have := HLEN.out; omega) hvl (by omega) (by omega) (by omega)).mono ?_
                   rintro e w1 ⟨zs', ov, rfl, hs1, hr1, hg1⟩
                   have hb1 : Below w.heap.size w w1 := hbl.grown hg1 hbl.size (by simp)
                   obtain ⟨u, hu⟩ : ∃ u, zs'[L + k]? = some u := ⟨zs'[L + k]'(by have h1 := hs1.len; have h2 := HLEN.out; omega), List.getElem?_eq_getElem _⟩
                   have hcu := hr1.cell hu
                   have hfu := hr1.frozen (L + k)
                   have HU := Lib.hid hu
                   clear hu)
      go_roundw
      case rel =>
        refine ⟨k + 1, _, by omega, by go_num, ?_, hr1.set (L + k) ov, below_set hb1 (Nat.le_refl _) _⟩
        have := hst.step (by rw [← HL'.out]; exact hlt) HV.out hs1
        rw [← HL.out] at this
        exact this
      case measure => simp [intOf]; omega
    · have hkL : k = L' := by omega
      subst hkL
      clear hlt
      have hlen := hst.len
      rw [← HL.out, ← HL'.out] at hlen
      have hn := hrow.nums0 zs.length
      rw [List.take_length] at hn
      have HLEN := Lib.hid hlen
      have he := hst.eq
      have HE := Lib.hid he
      clear hlen he hA hA'
      go_wp2_with (go_at_call 78
                   refine (trim_any _ (L + k) (L + k) zs _ hn hst.low HLEN.out.symm (Nat.le_refl _) (by omega)).mono ?_
                   rintro e w1 ⟨rfl, rfl⟩)
      go_ret
      have hfin := HE.out
      rw [List.take_of_length_le (by have := HL'.out; omega)] at hfin
      rw [← hfin]
      refine ⟨_, rfl, ?_, hbl⟩
      have := own_of_trim b64_two hrow hst.low (Nat.le_refl w.heap.size)
      rw [HLEN.out] at this
      exact this
end Go.Proofs.Ytaegkhdkhgemmaa
