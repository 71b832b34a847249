/- Plain laws: a number in a part of a row, and what adding, digit by digit, makes of it. -/
import Derived.Test.YtaegkhdkhgemmaaNum
namespace Go.Proofs.Num

/-- k digits from place off on. -/
def seg (zs : List Nat) (off k : Nat) : List Nat := (zs.drop off).take k

theorem seg_zero (zs : List Nat) (off : Nat) : seg zs off 0 = [] := by simp [seg]
theorem seg_len {zs : List Nat} {off k : Nat} (h : off + k ≤ zs.length) : (seg zs off k).length = k := by simp [seg]; omega
theorem seg_low {b : Nat} {zs : List Nat} (h : Low b zs) (off k : Nat) : Low b (seg zs off k) := (h.drop off).take k
theorem seg_get? (zs : List Nat) (off k i : Nat) : (seg zs off k)[i]? = if i < k then zs[off + i]? else none := by
  simp only [seg, List.getElem?_take, List.getElem?_drop]
theorem seg_all (zs : List Nat) : seg zs 0 zs.length = zs := by simp [seg]
theorem seg_congr {zs ys : List Nat} {off k : Nat} (h : ∀ i, off ≤ i → i < off + k → zs[i]? = ys[i]?) : seg zs off k = seg ys off k := by
  apply List.ext_getElem?
  intro i
  rw [seg_get?, seg_get?]
  split
  · exact h _ (by omega) (by omega)
  · rfl
theorem val_seg_succ (b : Nat) {zs : List Nat} {off k v : Nat} (h : zs[off + k]? = some v) : val b (seg zs off (k + 1)) = val b (seg zs off k) + b ^ k * v := by
  have hl := (List.getElem?_eq_some_iff.1 h).1
  have hv := (List.getElem?_eq_some_iff.1 h).2
  have h1 : k < (zs.drop off).length := by simp; omega
  have := val_take_succ b (zs.drop off) k h1
  rw [List.getElem_drop, hv] at this
  exact this
theorem val_seg_add (b : Nat) {zs : List Nat} {off j k : Nat} (h : off + j + k ≤ zs.length) : val b (seg zs off (j + k)) = val b (seg zs off j) + b ^ j * val b (seg zs (off + j) k) := by
  have e : seg zs off (j + k) = seg zs off j ++ seg zs (off + j) k := by
    unfold seg
    rw [List.take_add, List.drop_drop]
  rw [e, val_append, seg_len (by omega)]
theorem seg_set_far {zs : List Nat} {off k i v : Nat} (h : i < off ∨ off + k ≤ i) : seg (zs.set i v) off k = seg zs off k := seg_congr fun j h1 h2 => by
  rw [List.getElem?_set, if_neg (by omega)]

/-- After k digits: what has been written at off .. is the sum of what stood there and of the first k digits of xs, but for the carry. -/
structure AddSt (b : Nat) (zs xs : List Nat) (off k : Nat) (zs' : List Nat) (c : Nat) : Prop where
  len : zs'.length = zs.length
  low : Low b zs'
  le : c ≤ 1
  far : ∀ i, i < off ∨ off + k ≤ i → zs'[i]? = zs[i]?
  eq : val b (seg zs' off k) + b ^ k * c = val b (seg zs off k) + val b (xs.take k)

theorem AddSt.start {b : Nat} {zs xs : List Nat} {off : Nat} (hz : Low b zs) : AddSt b zs xs off 0 zs 0 :=
  ⟨rfl, hz, by omega, fun _ _ => rfl, by simp [seg_zero, val]⟩

theorem AddSt.step {b : Nat} {zs xs zs' : List Nat} {off k c v x lo hi : Nat} (h : AddSt b zs xs off k zs' c)
    (hv : zs'[off + k]? = some v) (hx : xs.getD k 0 = x) (hs : lo + b * hi = v + x + c) (hlo : lo < b) (hhi : hi ≤ 1) :
    AddSt b zs xs off (k + 1) (zs'.set (off + k) lo) hi := by
  have hlen := (List.getElem?_eq_some_iff.1 hv).1
  refine ⟨by rw [List.length_set]; exact h.len, h.low.set hlo, hhi, fun i hi' => ?_, ?_⟩
  · rw [List.getElem?_set, if_neg (by omega)]
    exact h.far i (by omega)
  · have hz : zs[off + k]? = some v := by rw [← h.far (off + k) (by omega)]; exact hv
    have hnew : (zs'.set (off + k) lo)[off + k]? = some lo := by rw [List.getElem?_set_self hlen]
    have ht : val b (xs.take (k + 1)) = val b (xs.take k) + b ^ k * x := by
      by_cases hk : k < xs.length
      · rw [val_take_succ b xs k hk, ← hx]
        simp [List.getD_eq_getElem?_getD, List.getElem?_eq_getElem hk]
      · have : x = 0 := by rw [← hx]; simp [List.getD_eq_getElem?_getD, List.getElem?_eq_none (show xs.length ≤ k by omega)]
        rw [this, List.take_of_length_le (by omega), List.take_of_length_le (by omega)]; simp
    rw [val_seg_succ b hnew, val_seg_succ b hz, ht, seg_set_far (by omega)]
    have e := h.eq
    have : b ^ k * (lo + b * hi) = b ^ k * (v + x + c) := by rw [hs]
    rw [Nat.pow_succ]
    grind

/-- Behind a carry of 0 the rest stays as it was. -/
theorem AddSt.rest {b : Nat} {zs xs zs' : List Nat} {off k n : Nat} (h : AddSt b zs xs off k zs' 0) (hk : k ≤ n) (hx : xs.length ≤ k) (hn : off + n ≤ zs.length) : AddSt b zs xs off n zs' 0 := by
  obtain ⟨j, rfl⟩ : ∃ j, n = k + j := ⟨n - k, by omega⟩
  refine ⟨h.len, h.low, h.le, fun i hi => h.far i (by omega), ?_⟩
  have e := h.eq
  rw [List.take_of_length_le (by omega)] at e ⊢
  rw [val_seg_add b (by rw [h.len]; omega), val_seg_add b (by omega), seg_congr (zs := zs') (ys := zs) (off := off + k) (k := j) (fun i h1 h2 => h.far i (by omega))]
  simp at e ⊢
  omega
end Go.Proofs.Num
namespace Go.Proofs.Num
/-- After k digits: xs times m has been added. -/
structure ScaleSt (b : Nat) (zs xs : List Nat) (m off k : Nat) (zs' : List Nat) (c : Nat) : Prop where
  len : zs'.length = zs.length
  low : Low b zs'
  le : c < b
  far : ∀ i, i < off ∨ off + k ≤ i → zs'[i]? = zs[i]?
  eq : val b (seg zs' off k) + b ^ k * c = val b (seg zs off k) + val b (xs.take k) * m

theorem ScaleSt.start {b : Nat} (hb : 2 ≤ b) {zs xs : List Nat} {m off : Nat} (hz : Low b zs) : ScaleSt b zs xs m off 0 zs 0 :=
  ⟨rfl, hz, by omega, fun _ _ => rfl, by simp [seg_zero, val]⟩

theorem ScaleSt.step {b : Nat} {zs xs zs' : List Nat} {m off k c v x lo hi : Nat} (h : ScaleSt b zs xs m off k zs' c)
    (hv : zs'[off + k]? = some v) (hx : xs[k]? = some x) (hs : lo + b * hi = v + x * m + c) (hlo : lo < b) (hhi : hi < b) :
    ScaleSt b zs xs m off (k + 1) (zs'.set (off + k) lo) hi := by
  have hlen := (List.getElem?_eq_some_iff.1 hv).1
  refine ⟨by rw [List.length_set]; exact h.len, h.low.set hlo, hhi, fun i hi' => ?_, ?_⟩
  · rw [List.getElem?_set, if_neg (by omega)]
    exact h.far i (by omega)
  · have hz : zs[off + k]? = some v := by rw [← h.far (off + k) (by omega)]; exact hv
    have hnew : (zs'.set (off + k) lo)[off + k]? = some lo := by rw [List.getElem?_set_self hlen]
    have hk := (List.getElem?_eq_some_iff.1 hx).1
    have ht : val b (xs.take (k + 1)) = val b (xs.take k) + b ^ k * x := by
      rw [val_take_succ b xs k hk, (List.getElem?_eq_some_iff.1 hx).2]
    rw [val_seg_succ b hnew, val_seg_succ b hz, ht, seg_set_far (by omega)]
    have e := h.eq
    have : b ^ k * (lo + b * hi) = b ^ k * (v + x * m + c) := by rw [hs]
    rw [Nat.pow_succ]
    grind
theorem word_bound {b v x m c hi lo : Nat} (hv : v < b) (hx : x < b) (hm : m < b) (hc : c < b) (h : lo + b * hi = v + x * m + c) : hi < b := by
  have h1 : x * m ≤ (b - 1) * (b - 1) := Nat.mul_le_mul (by omega) (by omega)
  have h2 : (b - 1) * (b - 1) + 2 * (b - 1) + 1 = b * b := by
    obtain ⟨j, rfl⟩ : ∃ j, b = j + 1 := ⟨b - 1, by omega⟩
    simp only [Nat.add_sub_cancel]; grind
  rcases Nat.lt_or_ge hi b with h3 | h3
  · exact h3
  · have := Nat.mul_le_mul_left b h3
    omega
end Go.Proofs.Num
namespace Go.Proofs.Num
/-- After k digits: the first k digits of xs have been taken away, but for the borrow. -/
structure SubSt (b : Nat) (zs xs : List Nat) (off k : Nat) (zs' : List Nat) (c : Nat) : Prop where
  len : zs'.length = zs.length
  low : Low b zs'
  le : c ≤ 1
  far : ∀ i, i < off ∨ off + k ≤ i → zs'[i]? = zs[i]?
  eq : val b (seg zs' off k) + val b (xs.take k) = val b (seg zs off k) + b ^ k * c

theorem SubSt.start {b : Nat} {zs xs : List Nat} {off : Nat} (hz : Low b zs) : SubSt b zs xs off 0 zs 0 :=
  ⟨rfl, hz, by omega, fun _ _ => rfl, by simp [seg_zero, val]⟩

theorem SubSt.step {b : Nat} {zs xs zs' : List Nat} {off k c v x lo hi : Nat} (h : SubSt b zs xs off k zs' c)
    (hv : zs'[off + k]? = some v) (hx : xs.getD k 0 = x) (hs : lo + x + c = v + b * hi) (hlo : lo < b) (hhi : hi ≤ 1) :
    SubSt b zs xs off (k + 1) (zs'.set (off + k) lo) hi := by
  have hlen := (List.getElem?_eq_some_iff.1 hv).1
  refine ⟨by rw [List.length_set]; exact h.len, h.low.set hlo, hhi, fun i hi' => ?_, ?_⟩
  · rw [List.getElem?_set, if_neg (by omega)]
    exact h.far i (by omega)
  · have hz : zs[off + k]? = some v := by rw [← h.far (off + k) (by omega)]; exact hv
    have hnew : (zs'.set (off + k) lo)[off + k]? = some lo := by rw [List.getElem?_set_self hlen]
    have ht : val b (xs.take (k + 1)) = val b (xs.take k) + b ^ k * x := by
      by_cases hk : k < xs.length
      · rw [val_take_succ b xs k hk, ← hx]
        simp [List.getD_eq_getElem?_getD, List.getElem?_eq_getElem hk]
      · have : x = 0 := by rw [← hx]; simp [List.getD_eq_getElem?_getD, List.getElem?_eq_none (show xs.length ≤ k by omega)]
        rw [this, List.take_of_length_le (by omega), List.take_of_length_le (by omega)]; simp
    rw [val_seg_succ b hnew, val_seg_succ b hz, ht, seg_set_far (by omega)]
    have e := h.eq
    have : b ^ k * (lo + x + c) = b ^ k * (v + b * hi) := by rw [hs]
    rw [Nat.pow_succ]
    grind

theorem SubSt.rest {b : Nat} {zs xs zs' : List Nat} {off k n : Nat} (h : SubSt b zs xs off k zs' 0) (hk : k ≤ n) (hx : xs.length ≤ k) (hn : off + n ≤ zs.length) : SubSt b zs xs off n zs' 0 := by
  obtain ⟨j, rfl⟩ : ∃ j, n = k + j := ⟨n - k, by omega⟩
  refine ⟨h.len, h.low, h.le, fun i hi => h.far i (by omega), ?_⟩
  have e := h.eq
  rw [List.take_of_length_le (by omega)] at e ⊢
  rw [val_seg_add b (by rw [h.len]; omega), val_seg_add b (by omega), seg_congr (zs := zs') (ys := zs) (off := off + k) (k := j) (fun i h1 h2 => h.far i (by omega))]
  simp at e ⊢
  omega
end Go.Proofs.Num
