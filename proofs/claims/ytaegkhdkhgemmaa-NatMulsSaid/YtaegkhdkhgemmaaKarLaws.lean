/- Plain laws: the two halves of a number, and Karatsuba's three products. -/
import Derived.Test.YtaegkhdkhgemmaaShLaws
namespace Go.Proofs.Num
theorem dig_drop {b : Nat} (hb : 2 ≤ b) (n k : Nat) : (dig b n).drop k = dig b (n / b ^ k) := by
  induction k generalizing n with
  | zero => simp
  | succ k ih =>
    by_cases hn : n = 0
    · subst hn; simp [dig_zero]
    · rw [dig_pos hb hn, List.drop_succ_cons, ih, Nat.div_div_eq_div_mul, Nat.pow_succ, Nat.mul_comm]
theorem val_take_dig {b : Nat} (hb : 2 ≤ b) (n k : Nat) (hk : k ≤ (dig b n).length) : val b ((dig b n).take k) = n % b ^ k := by
  have h1 := val_take_drop b (dig b n) k hk
  rw [val_dig hb, dig_drop hb, val_dig hb] at h1
  have h2 := val_lt b _ ((low_dig hb n).take k)
  rw [List.length_take, Nat.min_eq_left hk] at h2
  have h3 := Nat.mod_add_div n (b ^ k)
  omega
theorem dig_len_mod {b : Nat} (hb : 2 ≤ b) (n k : Nat) : (dig b (n % b ^ k)).length ≤ k := dig_len_le hb (Nat.mod_lt _ (Nat.pow_pos (by omega)))
theorem dig_len_div {b : Nat} (hb : 2 ≤ b) (n k : Nat) : (dig b (n / b ^ k)).length = (dig b n).length - k := by rw [← dig_drop hb, List.length_drop]
/-- The middle product, without the two others. -/
theorem kara_mid (m0 m1 n0 n1 : Nat) : (m0 + m1) * (n0 + n1) - m0 * n0 - m1 * n1 = m0 * n1 + m1 * n0 ∧ m0 * n0 ≤ (m0 + m1) * (n0 + n1) ∧ m1 * n1 ≤ (m0 + m1) * (n0 + n1) - m0 * n0 := by
  have e : (m0 + m1) * (n0 + n1) = m0 * n0 + m0 * n1 + m1 * n0 + m1 * n1 := by grind
  rw [e]
  omega
theorem kara_sum (m0 m1 n0 n1 x : Nat) : (m0 + x * m1) * (n0 + x * n1) = m0 * n0 + x * x * (m1 * n1) + x * (m0 * n1 + m1 * n0) := by grind
end Go.Proofs.Num
namespace Go.Proofs.Num
theorem val_lay_add {b : Nat} {zs ys : List Nat} {off : Nat} (h : off + ys.length ≤ zs.length) (hz : ∀ (i v : Nat), off ≤ i → i < off + ys.length → zs[i]? = some v → v = 0) :
    val b (zs.take off ++ (ys ++ zs.drop (off + ys.length))) = val b zs + b ^ off * val b ys := by
  have e1 := val_take_drop b zs off (by omega)
  have e2 := val_take_drop b (zs.drop off) ys.length (by rw [List.length_drop]; omega)
  have e3 : val b ((zs.drop off).take ys.length) = 0 := val_zero fun i v hv => by
    have := seg_get? zs off ys.length i
    unfold seg at this
    rw [this] at hv
    split at hv
    · exact hz _ v (by omega) (by omega) hv
    · cases hv
  rw [e3, List.drop_drop] at e2
  rw [val_append, val_append, List.length_take, Nat.min_eq_left (by omega), e1, e2]
  grind
/-- What addTo leaves of a whole number, when nothing is carried out of it. -/
theorem AddSt.whole {b : Nat} {zs xs zs' : List Nat} {off n c N : Nat} (h : AddSt b zs xs off n zs' c) (hn : off + n = zs.length) (hx : xs.length ≤ n) (hN : val b zs + b ^ off * val b xs = N) (hlt : N < b ^ zs.length) : val b zs' = N := by
  have e := h.eq
  rw [List.take_of_length_le hx] at e
  have l := h.len
  have e1 := val_split (b := b) (zs := zs) (i := off) (j := n) (r := 0) (by omega)
  have e2 := val_split (b := b) (zs := zs') (i := off) (j := n) (r := 0) (by omega)
  have e3 : seg zs' 0 off = seg zs 0 off := seg_congr fun i _ h2 => h.far i (by omega)
  have z1 : val b (seg zs (off + n) 0) = 0 := by rw [seg_zero]; rfl
  have z2 : val b (seg zs' (off + n) 0) = 0 := by rw [seg_zero]; rfl
  rw [z1] at e1
  rw [z2, e3] at e2
  have e4 : val b zs' + b ^ zs.length * c = N := by
    rw [← hN, ← hn, Nat.pow_add]
    clear h hlt hN z1 z2 e3 l
    grind
  have h0 : c = 0 := by
    rcases Nat.eq_zero_or_pos c with h | h
    · exact h
    · have : b ^ zs.length * 1 ≤ b ^ zs.length * c := Nat.mul_le_mul_left _ h
      omega
  subst h0
  simpa using e4
end Go.Proofs.Num
