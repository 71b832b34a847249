import Derived.Test.YtaegkhdkhgemmaaSum
import Derived.Test.YtaegkhdkhgemmaaBits
import Derived.Test.YtaegkhdkhgemmaaShLaws
namespace Go.Proofs.Ytaegkhdkhgemmaa
open Go.RowKit Num

/-- A number is returned; nothing that was there has turned. -/
def NumPost (w : World) (n : Nat) (e : Ending) (w' : World) : Prop := ∃ v, e = .returned v ∧ W64 w' v n ∧ Below w.heap.size w w'
theorem w64_nil (w : World) : W64 w (.slice none 0 0) 0 := ⟨none, 0, by rw [dig_zero]; rfl, by rw [dig_zero]; exact Nat.le_refl _, by rw [dig_zero]; exact Nums.nil⟩
theorem SumPost.num {w w' : World} {n : Nat} {e : Ending} (h : SumPost w n e w') : NumPost w n e w' := by
  obtain ⟨v, h1, h2, h3⟩ := h
  exact ⟨v, h1, h2.is, h3⟩

set_option maxHeartbeats 1000000 in
set_option maxRecDepth 100000 in
theorem shiftRight_any (a : Value) (n f : Nat) (w : World) (ha : W64 w a n) (hl : (dig B64 n).length ≤ 100000000000) (hf : f ≤ 10000000000000) :
    Calls Try.prog 92 #[a, .int .i64 (f : Int)] w (NumPost w (n / 2 ^ f)) := by
  obtain ⟨A, c, rfl, _, hA⟩ := ha
  generalize hL : (dig B64 n).length = L at *
  have e1 : (f : Int) / 64 = ((f / 64 : Nat) : Int) := by omega
  have hfw : n / 2 ^ f = n / B64 ^ (f / 64) / 2 ^ (f % 64) := by
    rw [← pow_b64, Nat.div_div_eq_div_mul, ← Nat.pow_add]; congr 2; omega
  by_cases hw : f / 64 < L
  · have hq : n / 2 ^ f < B64 ^ (L - f / 64) := by
      have h1 := dig_len_lt b64_two (n := n)
      rw [hL, show L = f / 64 + (L - f / 64) by omega, Nat.pow_add] at h1
      have h2 : n / B64 ^ (f / 64) < B64 ^ (L - f / 64) := by rw [Nat.div_lt_iff_lt_mul (Nat.pow_pos b64_pos), Nat.mul_comm]; exact h1
      rw [hfw]
      exact Nat.lt_of_le_of_lt (Nat.div_le_self _ _) h2
    have hdig : ∀ k, n / 2 ^ (f + 64 * k) % B64 = n / 2 ^ f / B64 ^ k % B64 := fun k => by
      rw [Nat.pow_add, ← Nat.div_div_eq_div_mul, pow_b64]
    generalize hK : L - f / 64 = K at *
    have hwh : ((L : Int) - ((f / 64 : Nat) : Int)) = (K : Int) := by omega
    have hmk := make64 K (by omega)
    have hr0 := Row.made w .u64 K 24
    have hbA : Below w.heap.size w (w.alloc (.cells (madeCells #[.int .u64 0] K) 24)) := (Below.refl _ _).alloc (Nat.le_refl _) _
    have hst0 := ShrSt.start b64_two (n / 2 ^ f) K
    generalize n / 2 ^ f = q at *
    have HD := Lib.hid hdig
    have HQ := Lib.hid hq
    have HL := Lib.hid hL
    have HK := Lib.hid hK
    have HR0 := Lib.hid hr0
    have HFW := Lib.hid hfw
    clear hdig hq hL hr0 hK hfw
    generalize f / 64 = wh at *
    have hwb : decide (L ≤ wh) = false := decide_eq_false (by omega)
    have hwi : ¬ L ≤ wh := by omega
    go_enter Try.func92, Try.ntmps92
    go_wp2
    go_loopw [21] (fun t wr => ∃ (k : Nat) (zs : List Nat), k ≤ K ∧ t = .int .i64 (k : Int) ∧ ShrSt B64 q K k zs ∧ Row .u64 24 wr w.heap.size zs ∧ Below w.heap.size w wr) (fun t _ => K - (intOf t).toNat)
    case atStart => exact ⟨0, _, Nat.zero_le _, rfl, hst0, HR0.out, hbA⟩
    case round =>
      clear hst0 HR0 hbA hmk
      obtain ⟨k, zs, hk, rfl, hst, hrow, hbl⟩ := hrel
      by_cases hlt : k < K
      · obtain ⟨v, hv⟩ : ∃ v, n / 2 ^ (f + 64 * k) % B64 = v := ⟨_, rfl⟩
        have hwin := window_any A c L n (f + 64 * k) wr (hA.keep hbl) HL.out.symm (by omega) (by omega)
        rw [hv] at hwin
        push_cast at hwin
        have hst' := hst.step b64_two (v := v) (by rw [← hv, HD.out])
        obtain ⟨u, hu⟩ : ∃ u, zs[k]? = some u := ⟨zs[k]'(by have := hst.len; omega), List.getElem?_eq_getElem _⟩
        have hcu := hrow.cell hu
        have hfu := hrow.frozen k
        have hrow' := hrow.set k v
        have HV := Lib.hid hv
        have HU := Lib.hid hu
        have HW := Lib.hid hwin
        clear hv hu hwin
        go_wp2_with (go_at_call 77; refine HW.out.mono ?_; rintro e w1 ⟨rfl, rfl⟩)
        go_roundw
        case rel => exact ⟨k + 1, _, by omega, by go_num, hst', hrow', below_set hbl (Nat.le_refl _) _⟩
        case measure => simp [intOf]; omega
      · have hkL : k = K := by omega
        subst hkL
        clear hlt
        have hn := hrow.nums0 zs.length
        rw [List.take_length] at hn
        have HLEN := Lib.hid hst.len
        have hfin := hst.fin b64_two HQ.out
        have HF := Lib.hid hfin
        clear hfin
        go_wp2_with (go_at_call 78
                     refine (trim_any _ k k zs _ hn hst.low HLEN.out.symm (Nat.le_refl _) (by omega)).mono ?_
                     rintro e w1 ⟨rfl, rfl⟩)
        go_ret
        rw [← HF.out]
        have := (own_of_trim b64_two hrow hst.low (Nat.le_refl w.heap.size)).is
        rw [HLEN.out] at this
        exact ⟨_, rfl, this, hbl⟩
  · have hq : n / 2 ^ f = 0 := by
      rw [hfw, div_pow_len b64_two (by rw [hL]; omega)]; simp
    rw [hq]
    clear hq hfw hL
    generalize f / 64 = wh at *
    have hwi : (L : Int) ≤ (wh : Int) := by omega
    go_enter Try.func92, Try.ntmps92
    go_wp2
    go_ret
    exact ⟨_, rfl, w64_nil _, Below.refl _ _⟩
end Go.Proofs.Ytaegkhdkhgemmaa
