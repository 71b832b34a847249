/- Plain laws: multiplication by hand's method. -/
import Derived.Test.YtaegkhdkhgemmaaAddLaws
namespace Go.Proofs.Num

theorem seg_self {zs : List Nat} {n : Nat} (h : zs.length = n) : seg zs 0 n = zs := by subst h; exact seg_all zs
theorem val_split {b : Nat} {zs : List Nat} {i j r : Nat} (h : zs.length = i + j + r) :
    val b zs = val b (seg zs 0 i) + b ^ i * (val b (seg zs i j) + b ^ j * val b (seg zs (i + j) r)) := by
  have e0 : val b zs = val b (seg zs 0 (i + (j + r))) := by rw [seg_self (by omega)]
  rw [e0, val_seg_add b (by omega), Nat.zero_add, val_seg_add b (by omega)]
theorem val_zero {b : Nat} {xs : List Nat} (h : ∀ (i v : Nat), xs[i]? = some v → v = 0) : val b xs = 0 := by
  have : xs = List.replicate xs.length 0 := by
    apply List.ext_getElem
    · simp
    · intro i h1 h2
      rw [List.getElem_replicate]
      exact h i _ (List.getElem?_eq_getElem h1)
  rw [this, val_replicate]

/-- After i digits of bs. -/
structure MulSt (b : Nat) (us bs : List Nat) (i : Nat) (zs : List Nat) : Prop where
  len : zs.length = us.length + bs.length
  low : Low b zs
  zero : ∀ (j v : Nat), us.length + i ≤ j → zs[j]? = some v → v = 0
  eq : val b zs = val b us * val b (bs.take i)

theorem MulSt.start {b : Nat} (hb : 2 ≤ b) (us bs : List Nat) : MulSt b us bs 0 (List.replicate (us.length + bs.length) 0) :=
  ⟨by simp, Low.replicate (by omega) _, fun j v _ hv => List.eq_of_mem_replicate (List.mem_of_getElem? hv), by rw [val_replicate]; simp [val]⟩

theorem MulSt.step {b : Nat} {us bs zs zs' : List Nat} {i v over : Nat} (h : MulSt b us bs i zs) (hi : i < bs.length) (hv : bs[i]? = some v)
    (hs : ScaleSt b zs us v i us.length zs' over) : MulSt b us bs (i + 1) (zs'.set (us.length + i) over) := by
  have hl := hs.len
  have hl0 := h.len
  refine ⟨by rw [List.length_set]; omega, hs.low.set hs.le, fun j u hj hu => ?_, ?_⟩
  · rw [List.getElem?_set, if_neg (by omega), hs.far j (by omega)] at hu
    exact h.zero j u (by omega) hu
  · obtain ⟨r, hr⟩ : ∃ r, bs.length = i + (1 + r) := ⟨bs.length - i - 1, by omega⟩
    have e1 := val_split (b := b) (zs := zs) (i := i) (j := us.length) (r := 1 + r) (by omega)
    have e2 := val_split (b := b) (zs := zs'.set (us.length + i) over) (i := i) (j := us.length) (r := 1 + r) (by rw [List.length_set]; omega)
    have z1 : val b (seg zs (i + us.length) (1 + r)) = 0 := val_zero fun j u hu => by
      rw [seg_get?] at hu
      split at hu
      · exact h.zero _ u (by omega) hu
      · cases hu
    have z2 : val b (seg (zs'.set (us.length + i) over) (i + us.length) (1 + r)) = over := by
      have hnew : (zs'.set (us.length + i) over)[i + us.length + 0]? = some over := by
        rw [Nat.add_zero, Nat.add_comm i, List.getElem?_set_self (by omega)]
      rw [val_seg_add b (by rw [List.length_set]; omega)]
      rw [show seg (zs'.set (us.length + i) over) (i + us.length) 1 = seg (zs'.set (us.length + i) over) (i + us.length) (0 + 1) from rfl, val_seg_succ b hnew, seg_zero]
      have : val b (seg (zs'.set (us.length + i) over) (i + us.length + 1) r) = 0 := val_zero fun j u hu => by
        rw [seg_get?] at hu
        split at hu
        · rw [List.getElem?_set, if_neg (by omega), hs.far _ (by omega)] at hu
          exact h.zero _ u (by omega) hu
        · cases hu
      rw [this]; simp [val]
    have z3 : seg (zs'.set (us.length + i) over) 0 i = seg zs 0 i := by
      rw [seg_set_far (by omega)]
      exact seg_congr fun j _ h2 => hs.far j (by omega)
    have z4 : seg (zs'.set (us.length + i) over) i us.length = seg zs' i us.length := seg_set_far (by omega)
    rw [e2, z2, z3, z4, hs.eq, List.take_of_length_le (Nat.le_refl _)]
    rw [z1] at e1
    have ht : val b (bs.take (i + 1)) = val b (bs.take i) + b ^ i * v := by
      rw [val_take_succ b bs i hi, (List.getElem?_eq_some_iff.1 hv).2]
    have e3 := h.eq
    rw [ht]
    clear ht e2 z1 z2 z3 z4 hs hv hi h
    grind
end Go.Proofs.Num
