/- Part of the proof of WireCertain: AddLaws, Add, Trim, Copy, Sum, WinLaws, Win, Bits, MulLaws, ShLaws, Shr, Shl, From, NatW, Scale, LongMul, MulS. -/
import Derived.Test.YthgekjkgfccnaaaPartB
import Derived.Laws.CopyOwn
import Derived.Laws.Bits64
import Derived.Laws.Bits64b
import Derived.Lib.BitFns
import Derived.Test.YthgekjkgfccnaaaPartA
/- Plain laws: a number in a part of a row, and what adding, digit by digit, makes of it. -/
namespace Go.Proofs.Num

/-- k digits from place off on. -/
def seg (zs : List Nat) (off k : Nat) : List Nat := (zs.drop off).take k

theorem seg_zero (zs : List Nat) (off : Nat) : seg zs off 0 = [] := by simp [seg]
theorem seg_len {zs : List Nat} {off k : Nat} (h : off + k ≤ zs.length) : (seg zs off k).length = k := by simp [seg]; omega
theorem seg_low {b : Nat} {zs : List Nat} (h : Low b zs) (off k : Nat) : Low b (seg zs off k) := (h.drop off).take k
theorem seg_get? (zs : List Nat) (off k i : Nat) : (seg zs off k)[i]? = if i < k then zs[off + i]? else none := by
  simp only [seg, List.getElem?_take, List.getElem?_drop]
theorem seg_all (zs : List Nat) : seg zs 0 zs.length = zs := by simp [seg]
theorem seg_congr {zs ys : List Nat} {off k : Nat} (h : ∀ i, off ≤ i → i < off + k → zs[i]? = ys[i]?) : seg zs off k = seg ys off k := by
  apply List.ext_getElem?
  intro i
  rw [seg_get?, seg_get?]
  split
  · exact h _ (by omega) (by omega)
  · rfl
theorem val_seg_succ (b : Nat) {zs : List Nat} {off k v : Nat} (h : zs[off + k]? = some v) : val b (seg zs off (k + 1)) = val b (seg zs off k) + b ^ k * v := by
  have hl := (List.getElem?_eq_some_iff.1 h).1
  have hv := (List.getElem?_eq_some_iff.1 h).2
  have h1 : k < (zs.drop off).length := by simp; omega
  have := val_take_succ b (zs.drop off) k h1
  rw [List.getElem_drop, hv] at this
  exact this
theorem val_seg_add (b : Nat) {zs : List Nat} {off j k : Nat} (h : off + j + k ≤ zs.length) : val b (seg zs off (j + k)) = val b (seg zs off j) + b ^ j * val b (seg zs (off + j) k) := by
  have e : seg zs off (j + k) = seg zs off j ++ seg zs (off + j) k := by
    unfold seg
    rw [List.take_add, List.drop_drop]
  rw [e, val_append, seg_len (by omega)]
theorem seg_set_far {zs : List Nat} {off k i v : Nat} (h : i < off ∨ off + k ≤ i) : seg (zs.set i v) off k = seg zs off k := seg_congr fun j h1 h2 => by
  rw [List.getElem?_set, if_neg (by omega)]

/-- After k digits: what has been written at off .. is the sum of what stood there and of the first k digits of xs, but for the carry. -/
structure AddSt (b : Nat) (zs xs : List Nat) (off k : Nat) (zs' : List Nat) (c : Nat) : Prop where
  len : zs'.length = zs.length
  low : Low b zs'
  le : c ≤ 1
  far : ∀ i, i < off ∨ off + k ≤ i → zs'[i]? = zs[i]?
  eq : val b (seg zs' off k) + b ^ k * c = val b (seg zs off k) + val b (xs.take k)

theorem AddSt.start {b : Nat} {zs xs : List Nat} {off : Nat} (hz : Low b zs) : AddSt b zs xs off 0 zs 0 :=
  ⟨rfl, hz, by omega, fun _ _ => rfl, by simp [seg_zero, val]⟩

theorem AddSt.step {b : Nat} {zs xs zs' : List Nat} {off k c v x lo hi : Nat} (h : AddSt b zs xs off k zs' c)
    (hv : zs'[off + k]? = some v) (hx : xs.getD k 0 = x) (hs : lo + b * hi = v + x + c) (hlo : lo < b) (hhi : hi ≤ 1) :
    AddSt b zs xs off (k + 1) (zs'.set (off + k) lo) hi := by
  have hlen := (List.getElem?_eq_some_iff.1 hv).1
  refine ⟨by rw [List.length_set]; exact h.len, h.low.set hlo, hhi, fun i hi' => ?_, ?_⟩
  · rw [List.getElem?_set, if_neg (by omega)]
    exact h.far i (by omega)
  · have hz : zs[off + k]? = some v := by rw [← h.far (off + k) (by omega)]; exact hv
    have hnew : (zs'.set (off + k) lo)[off + k]? = some lo := by rw [List.getElem?_set_self hlen]
    have ht : val b (xs.take (k + 1)) = val b (xs.take k) + b ^ k * x := by
      by_cases hk : k < xs.length
      · rw [val_take_succ b xs k hk, ← hx]
        simp [List.getD_eq_getElem?_getD, List.getElem?_eq_getElem hk]
      · have : x = 0 := by rw [← hx]; simp [List.getD_eq_getElem?_getD, List.getElem?_eq_none (show xs.length ≤ k by omega)]
        rw [this, List.take_of_length_le (by omega), List.take_of_length_le (by omega)]; simp
    rw [val_seg_succ b hnew, val_seg_succ b hz, ht, seg_set_far (by omega)]
    have e := h.eq
    have : b ^ k * (lo + b * hi) = b ^ k * (v + x + c) := by rw [hs]
    rw [Nat.pow_succ]
    grind

/-- Behind a carry of 0 the rest stays as it was. -/
theorem AddSt.rest {b : Nat} {zs xs zs' : List Nat} {off k n : Nat} (h : AddSt b zs xs off k zs' 0) (hk : k ≤ n) (hx : xs.length ≤ k) (hn : off + n ≤ zs.length) : AddSt b zs xs off n zs' 0 := by
  obtain ⟨j, rfl⟩ : ∃ j, n = k + j := ⟨n - k, by omega⟩
  refine ⟨h.len, h.low, h.le, fun i hi => h.far i (by omega), ?_⟩
  have e := h.eq
  rw [List.take_of_length_le (by omega)] at e ⊢
  rw [val_seg_add b (by rw [h.len]; omega), val_seg_add b (by omega), seg_congr (zs := zs') (ys := zs) (off := off + k) (k := j) (fun i h1 h2 => h.far i (by omega))]
  simp at e ⊢
  omega
end Go.Proofs.Num
namespace Go.Proofs.Num
/-- After k digits: xs times m has been added. -/
structure ScaleSt (b : Nat) (zs xs : List Nat) (m off k : Nat) (zs' : List Nat) (c : Nat) : Prop where
  len : zs'.length = zs.length
  low : Low b zs'
  le : c < b
  far : ∀ i, i < off ∨ off + k ≤ i → zs'[i]? = zs[i]?
  eq : val b (seg zs' off k) + b ^ k * c = val b (seg zs off k) + val b (xs.take k) * m

theorem ScaleSt.start {b : Nat} (hb : 2 ≤ b) {zs xs : List Nat} {m off : Nat} (hz : Low b zs) : ScaleSt b zs xs m off 0 zs 0 :=
  ⟨rfl, hz, by omega, fun _ _ => rfl, by simp [seg_zero, val]⟩

theorem ScaleSt.step {b : Nat} {zs xs zs' : List Nat} {m off k c v x lo hi : Nat} (h : ScaleSt b zs xs m off k zs' c)
    (hv : zs'[off + k]? = some v) (hx : xs[k]? = some x) (hs : lo + b * hi = v + x * m + c) (hlo : lo < b) (hhi : hi < b) :
    ScaleSt b zs xs m off (k + 1) (zs'.set (off + k) lo) hi := by
  have hlen := (List.getElem?_eq_some_iff.1 hv).1
  refine ⟨by rw [List.length_set]; exact h.len, h.low.set hlo, hhi, fun i hi' => ?_, ?_⟩
  · rw [List.getElem?_set, if_neg (by omega)]
    exact h.far i (by omega)
  · have hz : zs[off + k]? = some v := by rw [← h.far (off + k) (by omega)]; exact hv
    have hnew : (zs'.set (off + k) lo)[off + k]? = some lo := by rw [List.getElem?_set_self hlen]
    have hk := (List.getElem?_eq_some_iff.1 hx).1
    have ht : val b (xs.take (k + 1)) = val b (xs.take k) + b ^ k * x := by
      rw [val_take_succ b xs k hk, (List.getElem?_eq_some_iff.1 hx).2]
    rw [val_seg_succ b hnew, val_seg_succ b hz, ht, seg_set_far (by omega)]
    have e := h.eq
    have : b ^ k * (lo + b * hi) = b ^ k * (v + x * m + c) := by rw [hs]
    rw [Nat.pow_succ]
    grind
theorem word_bound {b v x m c hi lo : Nat} (hv : v < b) (hx : x < b) (hm : m < b) (hc : c < b) (h : lo + b * hi = v + x * m + c) : hi < b := by
  have h1 : x * m ≤ (b - 1) * (b - 1) := Nat.mul_le_mul (by omega) (by omega)
  have h2 : (b - 1) * (b - 1) + 2 * (b - 1) + 1 = b * b := by
    obtain ⟨j, rfl⟩ : ∃ j, b = j + 1 := ⟨b - 1, by omega⟩
    simp only [Nat.add_sub_cancel]; grind
  rcases Nat.lt_or_ge hi b with h3 | h3
  · exact h3
  · have := Nat.mul_le_mul_left b h3
    omega
end Go.Proofs.Num
namespace Go.Proofs.Num
/-- After k digits: the first k digits of xs have been taken away, but for the borrow. -/
structure SubSt (b : Nat) (zs xs : List Nat) (off k : Nat) (zs' : List Nat) (c : Nat) : Prop where
  len : zs'.length = zs.length
  low : Low b zs'
  le : c ≤ 1
  far : ∀ i, i < off ∨ off + k ≤ i → zs'[i]? = zs[i]?
  eq : val b (seg zs' off k) + val b (xs.take k) = val b (seg zs off k) + b ^ k * c

theorem SubSt.start {b : Nat} {zs xs : List Nat} {off : Nat} (hz : Low b zs) : SubSt b zs xs off 0 zs 0 :=
  ⟨rfl, hz, by omega, fun _ _ => rfl, by simp [seg_zero, val]⟩

theorem SubSt.step {b : Nat} {zs xs zs' : List Nat} {off k c v x lo hi : Nat} (h : SubSt b zs xs off k zs' c)
    (hv : zs'[off + k]? = some v) (hx : xs.getD k 0 = x) (hs : lo + x + c = v + b * hi) (hlo : lo < b) (hhi : hi ≤ 1) :
    SubSt b zs xs off (k + 1) (zs'.set (off + k) lo) hi := by
  have hlen := (List.getElem?_eq_some_iff.1 hv).1
  refine ⟨by rw [List.length_set]; exact h.len, h.low.set hlo, hhi, fun i hi' => ?_, ?_⟩
  · rw [List.getElem?_set, if_neg (by omega)]
    exact h.far i (by omega)
  · have hz : zs[off + k]? = some v := by rw [← h.far (off + k) (by omega)]; exact hv
    have hnew : (zs'.set (off + k) lo)[off + k]? = some lo := by rw [List.getElem?_set_self hlen]
    have ht : val b (xs.take (k + 1)) = val b (xs.take k) + b ^ k * x := by
      by_cases hk : k < xs.length
      · rw [val_take_succ b xs k hk, ← hx]
        simp [List.getD_eq_getElem?_getD, List.getElem?_eq_getElem hk]
      · have : x = 0 := by rw [← hx]; simp [List.getD_eq_getElem?_getD, List.getElem?_eq_none (show xs.length ≤ k by omega)]
        rw [this, List.take_of_length_le (by omega), List.take_of_length_le (by omega)]; simp
    rw [val_seg_succ b hnew, val_seg_succ b hz, ht, seg_set_far (by omega)]
    have e := h.eq
    have : b ^ k * (lo + x + c) = b ^ k * (v + b * hi) := by rw [hs]
    rw [Nat.pow_succ]
    grind

theorem SubSt.rest {b : Nat} {zs xs zs' : List Nat} {off k n : Nat} (h : SubSt b zs xs off k zs' 0) (hk : k ≤ n) (hx : xs.length ≤ k) (hn : off + n ≤ zs.length) : SubSt b zs xs off n zs' 0 := by
  obtain ⟨j, rfl⟩ : ∃ j, n = k + j := ⟨n - k, by omega⟩
  refine ⟨h.len, h.low, h.le, fun i hi => h.far i (by omega), ?_⟩
  have e := h.eq
  rw [List.take_of_length_le (by omega)] at e ⊢
  rw [val_seg_add b (by rw [h.len]; omega), val_seg_add b (by omega), seg_congr (zs := zs') (ys := zs) (off := off + k) (k := j) (fun i h1 h2 => h.far i (by omega))]
  simp at e ⊢
  omega
end Go.Proofs.Num

namespace Go.Proofs.Ythgekjkgfccnaaa
open Go.RowKit Num

def sub64Entry : Array Value → Sem Value := fun args => do
  let (x, y, b) ← Extern.MathBitsCarry.three "Sub64" args
  pure (Extern.MathBitsCarry.pair ((x + Extern.MathBitsCarry.m64 - y - b) % Extern.MathBitsCarry.m64) (if x < y + b then 1 else 0))
/-- The borrow of a difference. -/
def bor (x y : Int) : Int := if x < y then 1 else 0

theorem add64 (x y c : Int) (hx : 0 ≤ x) (hy : 0 ≤ y) (hc0 : 0 ≤ c) (hc : c ≤ 1) (w : World) : (callFunc 107 #[.int .u64 x, .int .u64 y, .int .u64 c]).run Try.prog w =
    .ok (.value (.tuple #[.int .u64 ((x + y + c) % 18446744073709551616), .int .u64 ((x + y + c) / 18446744073709551616)])) w := by
  rw [run_callFunc_extern Try.func107 (by kernel_rfl) (by kernel_rfl) (by kernel_rfl) (e := add64Entry) (by kernel_rfl), run_add64 x y c hx hy hc0 hc]
  rfl
theorem run_sub64 {P : Program} (x y b : Nat) (hb : b ≤ 1) (w : World) :
    (sub64Entry #[.int .u64 x, .int .u64 y, .int .u64 b]).run P w =
      .ok (.tuple #[.int .u64 (((x + 18446744073709551616 - y - b) % 18446744073709551616 : Nat) : Int), .int .u64 ((if x < y + b then 1 else 0 : Nat) : Int)]) w := by
  have : b = 0 ∨ b = 1 := by omega
  rcases this with rfl | rfl <;> rfl
theorem sub64 (x y b : Int) (hx : 0 ≤ x) (hy : 0 ≤ y) (hy' : y < 18446744073709551616) (hb0 : 0 ≤ b) (hb : b ≤ 1) (w : World) : (callFunc 111 #[.int .u64 x, .int .u64 y, .int .u64 b]).run Try.prog w =
    .ok (.value (.tuple #[.int .u64 ((x - y - b) % 18446744073709551616), .int .u64 (bor x (y + b))])) w := by
  obtain ⟨x, rfl⟩ := Int.eq_ofNat_of_zero_le hx
  obtain ⟨y, rfl⟩ := Int.eq_ofNat_of_zero_le hy
  obtain ⟨b, rfl⟩ := Int.eq_ofNat_of_zero_le hb0
  have e1 : (((x + 18446744073709551616 - y - b) % 18446744073709551616 : Nat) : Int) = ((x : Int) - y - b) % 18446744073709551616 := by omega
  have e2 : ((if x < y + b then 1 else 0 : Nat) : Int) = bor x (y + b) := by unfold bor; split <;> split <;> omega
  rw [← e1, ← e2, run_callFunc_extern Try.func111 (by kernel_rfl) (by kernel_rfl) (by kernel_rfl) (e := sub64Entry) (by kernel_rfl), run_sub64 x y b (by omega)]
  rfl
theorem add64_0 (x y : Int) (hx : 0 ≤ x) (hy : 0 ≤ y) (w : World) : (callFunc 107 #[.int .u64 x, .int .u64 y, .int .u64 0]).run Try.prog w =
    .ok (.value (.tuple #[.int .u64 ((x + y) % 18446744073709551616), .int .u64 ((x + y) / 18446744073709551616)])) w := by
  simpa using add64 x y 0 hx hy (Int.le_refl 0) (by decide) w
theorem sub64_0 (x y : Int) (hx : 0 ≤ x) (hy : 0 ≤ y) (hy' : y < 18446744073709551616) (w : World) : (callFunc 111 #[.int .u64 x, .int .u64 y, .int .u64 0]).run Try.prog w =
    .ok (.value (.tuple #[.int .u64 ((x - y) % 18446744073709551616), .int .u64 (bor x y)])) w := by
  simpa using sub64 x y 0 hx hy hy' (Int.le_refl 0) (by decide) w
/-- What a call of math/bits.Add64 gives: two numbers under names. -/
theorem add64_ex (x y c : Nat) (hx : x < B64) (hy : y < B64) (hc : c ≤ 1) : ∃ lo hi : Nat,
    (∀ w, (callFunc 107 #[.int .u64 (x : Int), .int .u64 (y : Int), .int .u64 (c : Int)]).run Try.prog w = .ok (.value (.tuple #[.int .u64 (lo : Int), .int .u64 (hi : Int)])) w) ∧
    lo + B64 * hi = x + y + c ∧ lo < B64 ∧ hi ≤ 1 := by
  refine ⟨(x + y + c) % B64, (x + y + c) / B64, fun w => ?_, Nat.mod_add_div _ _, Nat.mod_lt _ b64_pos, ?_⟩
  · rw [add64 _ _ _ (by omega) (by omega) (by omega) (by omega)]
    rfl
  · unfold B64 at *; omega
theorem add64_ex0 (x y : Nat) (hx : x < B64) (hy : y < B64) : ∃ lo hi : Nat,
    (∀ w, (callFunc 107 #[.int .u64 (x : Int), .int .u64 (y : Int), .int .u64 0]).run Try.prog w = .ok (.value (.tuple #[.int .u64 (lo : Int), .int .u64 (hi : Int)])) w) ∧
    lo + B64 * hi = x + y ∧ lo < B64 ∧ hi ≤ 1 := by
  simpa using add64_ex x y 0 hx hy (by omega)
theorem add64_exm (x c : Nat) (hx : x < B64) (hc : c ≤ 1) : ∃ lo hi : Nat,
    (∀ w, (callFunc 107 #[.int .u64 (x : Int), .int .u64 0, .int .u64 (c : Int)]).run Try.prog w = .ok (.value (.tuple #[.int .u64 (lo : Int), .int .u64 (hi : Int)])) w) ∧
    lo + B64 * hi = x + c ∧ lo < B64 ∧ hi ≤ 1 := by
  simpa using add64_ex x 0 c hx b64_pos hc
/-- .. of math/bits.Sub64. -/
theorem sub64_ex (x y c : Nat) (hx : x < B64) (hy : y < B64) (hc : c ≤ 1) : ∃ lo hi : Nat,
    (∀ w, (callFunc 111 #[.int .u64 (x : Int), .int .u64 (y : Int), .int .u64 (c : Int)]).run Try.prog w = .ok (.value (.tuple #[.int .u64 (lo : Int), .int .u64 (hi : Int)])) w) ∧
    lo + y + c = x + B64 * hi ∧ lo < B64 ∧ hi ≤ 1 := by
  refine ⟨(x + B64 - y - c) % B64, if x < y + c then 1 else 0, fun w => ?_, ?_, Nat.mod_lt _ b64_pos, ?_⟩
  · rw [sub64 _ _ _ (by omega) (by omega) (by unfold B64 at hy; omega) (by omega) (by omega)]
    have e1 : ((x : Int) - y - c) % 18446744073709551616 = (((x + B64 - y - c) % B64 : Nat) : Int) := by unfold B64 at *; omega
    have e2 : bor (x : Int) ((y : Int) + c) = ((if x < y + c then 1 else 0 : Nat) : Int) := by unfold bor; split <;> split <;> omega
    rw [e1, e2]
  · unfold B64 at *
    split
    · omega
    · omega
  · split <;> omega
theorem sub64_ex0 (x y : Nat) (hx : x < B64) (hy : y < B64) : ∃ lo hi : Nat,
    (∀ w, (callFunc 111 #[.int .u64 (x : Int), .int .u64 (y : Int), .int .u64 0]).run Try.prog w = .ok (.value (.tuple #[.int .u64 (lo : Int), .int .u64 (hi : Int)])) w) ∧
    lo + y = x + B64 * hi ∧ lo < B64 ∧ hi ≤ 1 := by
  simpa using sub64_ex x y 0 hx hy (by omega)
theorem sub64_exm (x c : Nat) (hx : x < B64) (hc : c ≤ 1) : ∃ lo hi : Nat,
    (∀ w, (callFunc 111 #[.int .u64 (x : Int), .int .u64 0, .int .u64 (c : Int)]).run Try.prog w = .ok (.value (.tuple #[.int .u64 (lo : Int), .int .u64 (hi : Int)])) w) ∧
    lo + c = x + B64 * hi ∧ lo < B64 ∧ hi ≤ 1 := by
  simpa using sub64_ex x 0 c hx b64_pos hc

theorem grown_drew {a w : World} {row : Option Nat} (h : a.grownBy w row) : a.grownBy w.drew row := ⟨h.os, h.tape, h.output, h.size, h.block⟩
theorem grown_set {a w : World} {g : Nat} (h : a.grownBy w (some g)) (i : Nat) (u : Value) : a.grownBy (w.setCell ⟨g, i, none⟩ u) (some g) :=
  ⟨h.os, h.tape, h.output, by simpa [World.setCell] using h.size, fun i hi hne => (Below.heap_setCell w _ u i (by rintro rfl; exact hne rfl)).trans (h.block i hi hne)⟩
theorem Nums.grown {k : IntKind} {w w' : World} {A : Option Addr} {xs : List Nat} {g : Nat} (h : Nums k w A xs) (hA : 0 < xs.length → ∀ a, A = some a → a.block ≠ g) (hb : w.grownBy w' (some g)) : Nums k w' A xs := by
  intro hl
  obtain ⟨q, off, e, hg, hc⟩ := h hl
  have hne : q ≠ g := hA hl _ e
  exact ⟨q, off, e, Nat.lt_of_lt_of_le hg hb.size, fun i v hv => (World.cell?_of_block (w := w) (a := ⟨q, off + i, none⟩) (hb.block q hg (by simpa using hne))).trans (hc i v hv)⟩

/-- z[off ..] with x added: what addTo leaves. -/
def AddPost (zs xs : List Nat) (g off n : Nat) (w : World) (e : Ending) (w' : World) : Prop :=
  ∃ zs' c, e = .returned (.int .u64 ((c : Nat) : Int)) ∧ AddSt B64 zs xs off n zs' c ∧ Row .u64 55 w' g zs' ∧ w.grownBy w' (some g)

set_option maxHeartbeats 1000000 in
theorem addTo_any (g off n c d L : Nat) (zs xs : List Nat) (A : Option Addr) (w : World) (hr : Row .u64 55 w g zs) (hz : Low B64 zs) (hn : off + n ≤ zs.length) (hA : Nums .u64 w A xs) (hx : Low B64 xs)
    (hAg : 0 < xs.length → ∀ a, A = some a → a.block ≠ g) (hL : L = xs.length) (hle : L ≤ n) (hbig : n ≤ 1000000000000) :
    Calls Try.prog 98 #[.slice (some ⟨g, off, none⟩) n c, .slice A L d] w (AddPost zs xs g off n w) := by
  have HL := Lib.hid hL
  clear hL
  go_enter Try.func98, Try.ntmps98
  go_wp2
  go_loopw [5, 11] (fun q t wr => ∃ (k cy : Nat) (zs' : List Nat), k ≤ L ∧ q = .int .u64 (cy : Int) ∧ t = .int .i64 (k : Int) ∧ AddSt B64 zs xs off k zs' cy ∧ Row .u64 55 wr g zs' ∧ w.grownBy wr (some g)) (fun _ t _ => L - (intOf t).toNat)
  case atStart => exact ⟨0, 0, zs, Nat.zero_le _, rfl, rfl, AddSt.start hz, hr, World.grownBy.refl w _⟩
  case round =>
    obtain ⟨k, cy, zs', hk, rfl, rfl, hst, hrow, hgr⟩ := hrel
    by_cases hlt : k < L
    · obtain ⟨q, qo, x, rfl, hq, hxk, hcx⟩ := (hA.grown hAg hgr).at_ (i := k) (by have := HL.out; omega)
      obtain ⟨v, hv⟩ : ∃ v, zs'[off + k]? = some v := ⟨zs'[off + k]'(by have := hst.len; omega), List.getElem?_eq_getElem _⟩
      have hcv := hrow.cell hv
      have hfv := hrow.frozen (off + k)
      have hvl : v < B64 := by have := hst.low v (List.mem_of_getElem? hv); exact this
      have hxl : x < B64 := hx x (List.mem_of_getElem? hxk)
      obtain ⟨lo, hi, hadd, he, hlo, hhi⟩ := add64_ex v x cy hvl hxl hst.le
      have hst' := hst.step hv (x := x) (by simp [List.getD_eq_getElem?_getD, hxk]) he hlo hhi
      have hrow' := hrow.set (off + k) lo
      have HE := Lib.hid he
      have HV := Lib.hid hv
      have HX := Lib.hid hxk
      clear he hv hxk hA hvl hxl hlo
      go_wp2
      go_roundw
      case rel => exact ⟨k + 1, hi, _, by omega, rfl, by go_num, hst', hrow', grown_set hgr _ _⟩
      case measure => simp [intOf]; omega
    · have hkL : k = L := by omega
      subst hkL
      clear hlt
      have hxL : xs.length ≤ k := by have := HL.out; omega
      clear hA
      go_wp2
      go_loopw [5, 8] (fun q t wr => ∃ (j cy : Nat) (zs' : List Nat), k ≤ j ∧ j ≤ n ∧ q = .int .u64 (cy : Int) ∧ t = .int .i64 (j : Int) ∧ AddSt B64 zs xs off j zs' cy ∧ Row .u64 55 wr g zs' ∧ w.grownBy wr (some g)) (fun _ t _ => n - (intOf t).toNat)
      case atStart => exact ⟨k, cy, zs', Nat.le_refl _, hle, rfl, rfl, hst, hrow, hgr⟩
      case round =>
        clear hst hrow hgr
        obtain ⟨j, cy, zs', hkj, hjn, rfl, rfl, hst, hrow, hgr⟩ := hrel
        have hcle := hst.le
        by_cases hc0 : cy = 0
        · have hq : ((cy : Int) != 0) = false := by simp [hc0]
          have H0 := Lib.hid hc0
          clear hc0
          go_wp2
          go_ret
          exact ⟨zs', cy, rfl, by have h0 := H0.out; subst h0; exact hst.rest hjn (by omega) hn, hrow, hgr⟩
        · have hq : ((cy : Int) != 0) = true := by simp; omega
          clear hc0
          by_cases hjl : j < n
          · obtain ⟨v, hv⟩ : ∃ v, zs'[off + j]? = some v := ⟨zs'[off + j]'(by have := hst.len; omega), List.getElem?_eq_getElem _⟩
            have hcv := hrow.cell hv
            have hfv := hrow.frozen (off + j)
            have hvl : v < B64 := by have := hst.low v (List.mem_of_getElem? hv); exact this
            obtain ⟨lo, hi, hadd, he, hlo, hhi⟩ := add64_exm v cy hvl hcle
            have hx0 : xs.getD j 0 = 0 := by simp [List.getD_eq_getElem?_getD, List.getElem?_eq_none (show xs.length ≤ j by omega)]
            have hst' := hst.step hv (x := 0) hx0 (by omega) hlo hhi
            have hrow' := hrow.set (off + j) lo
            have HE := Lib.hid he
            have HV := Lib.hid hv
            clear he hv hvl hlo hx0
            go_wp2
            go_roundw
            case rel => exact ⟨j + 1, hi, _, by omega, by omega, rfl, by go_num, hst', hrow', grown_set hgr _ _⟩
            case measure => simp [intOf]; omega
          · have hjn' : j = n := by omega
            subst hjn'
            go_wp2
            go_ret
            exact ⟨zs', cy, rfl, hst, hrow, hgr⟩
end Go.Proofs.Ythgekjkgfccnaaa

namespace Go.Proofs.Ythgekjkgfccnaaa
open Go.RowKit Num

theorem trim_val {b : Nat} (hb : 2 ≤ b) {xs : List Nat} (hl : Low b xs) {k : Nat} (hk : k ≤ xs.length) (hz : ∀ (i v : Nat), xs[i]? = some v → k ≤ i → v = 0)
    (hn : ∀ v, 0 < k → xs[k - 1]? = some v → v ≠ 0) : xs.take k = dig b (val b xs) := by
  refine take_neat hb hl hk (fun i h hi => hz i _ (List.getElem?_eq_getElem h) hi) (fun h => hn _ h (List.getElem?_eq_getElem (by omega)))
theorem trim_le {b : Nat} (hb : 2 ≤ b) {xs : List Nat} (hl : Low b xs) : (dig b (val b xs)).length ≤ xs.length := dig_len_le hb (val_lt b xs hl)
theorem trim_take {b : Nat} (hb : 2 ≤ b) {xs : List Nat} (hl : Low b xs) : xs.take (dig b (val b xs)).length = dig b (val b xs) := by
  -- the number's digits, then zeros
  have h1 := low_dig hb (val b xs)
  have h2 := trim_le hb hl
  have h3 : val b (dig b (val b xs) ++ List.replicate (xs.length - (dig b (val b xs)).length) 0) = val b xs := by
    rw [val_append, val_replicate, val_dig hb]; simp
  have h4 : dig b (val b xs) ++ List.replicate (xs.length - (dig b (val b xs)).length) 0 = xs := val_inj hb (by simp; omega) (h1.append (Low.replicate (by omega) _)) hl h3
  have h5 := congrArg (List.take (dig b (val b xs)).length) h4
  rw [List.take_left'] at h5
  · exact h5.symm
  · rfl

def ZeroFrom (xs : List Nat) (k : Nat) : Prop := ∀ (i v : Nat), xs[i]? = some v → k ≤ i → v = 0

set_option maxHeartbeats 400000 in
theorem trim_any (A : Option Addr) (c n : Nat) (xs : List Nat) (w : World) (h : Nums .u64 w A xs) (hlow : Low B64 xs) (hn : n = xs.length) (hl : n ≤ c) (hc : n ≤ 1000000000000) :
    Calls Try.prog 69 #[.slice A n c] w fun e w' => e = .returned (.slice A (dig B64 (val B64 xs)).length c) ∧ w = w' := by
  subst hn
  have fin : ∀ k, k ≤ xs.length → ZeroFrom xs k → (∀ v, 0 < k → xs[k - 1]? = some v → v ≠ 0) → k = (dig B64 (val B64 xs)).length := fun k hk hz hn => by
    rw [← trim_val b64_two hlow hk hz hn, List.length_take]; omega
  have FIN := Lib.hid fin
  clear fin
  go_enter Try.func69, Try.ntmps69
  go_wp2
  go_loop [3] (fun t => ∃ k : Nat, k ≤ xs.length ∧ t = .int .i64 k ∧ ZeroFrom xs k) (fun t => (intOf t).toNat)
  case atStart => exact ⟨xs.length, Nat.le_refl _, rfl, fun i v hv hi => by have := (List.getElem?_eq_some_iff.1 hv).1; omega⟩
  case round => 
    obtain ⟨k, hk, rfl, hz⟩ := hrel
    by_cases hp : 0 < k
    · obtain ⟨g, off, v, rfl, hg, hv, hc1⟩ := h.at_ (i := k - 1) (by omega)
      have HV := Lib.hid hv
      clear hv h
      go_wp2
      · go_round
        case rel => 
          refine ⟨k - 1, by omega, by congr 1; omega, fun i u hu hi => ?_⟩
          have hv0 : ((v : Int) == 0) = true := by assumption
          by_cases e : i = k - 1
          · have := HV.out; rw [e] at hu; rw [hu] at this; simp at hv0; injection this; omega
          · exact hz i u hu (by omega)
        case measure => simp [intOf]; omega
      · go_ret
        have hv0 : ((v : Int) == 0) = false := by assumption
        have hnz : ∀ u, 0 < k → xs[k - 1]? = some u → u ≠ 0 := fun u _ hu => by
          have := HV.out; rw [hu] at this; simp at hv0; injection this; omega
        exact ⟨congrArg (fun n => Ending.returned (.slice _ n c)) (FIN.out k hk hz hnz), rfl⟩
    · go_wp2
      go_ret
      exact ⟨congrArg (fun n => Ending.returned (.slice _ n c)) (FIN.out k hk hz (fun u h0 => absurd h0 hp)), rfl⟩

/-- What trim gives of a row of the call's own. -/
theorem own_of_trim {k : IntKind} {T : TypeId} {b B : Nat} (hb : 2 ≤ b) {w : World} {g : Nat} {zs : List Nat} (hr : Row k T w g zs) (hlow : Low b zs) (hg : B ≤ g) :
    OwnNum k T b B w (.slice (some ⟨g, 0, none⟩) (dig b (val b zs)).length zs.length) (val b zs) :=
  ⟨g, zs.length, zs, rfl, trim_le hb hlow, rfl, hg, hr, hlow, trim_take hb hlow⟩
end Go.Proofs.Ythgekjkgfccnaaa

namespace Go.Proofs.Ythgekjkgfccnaaa
open Go.RowKit Num

/-- zs with ys laid over it from place off on. -/
def lay (zs : List Nat) (off : Nat) (ys : List Nat) : List Nat := zs.take off ++ (ys ++ zs.drop (off + ys.length))
theorem lay_len {zs ys : List Nat} {off : Nat} (h : off + ys.length ≤ zs.length) : (lay zs off ys).length = zs.length := by simp [lay]; omega
theorem lay_nil (zs : List Nat) (off : Nat) : lay zs off [] = zs := by simp [lay]
theorem lay_low {b : Nat} {zs ys : List Nat} {off : Nat} (hz : Low b zs) (hy : Low b ys) : Low b (lay zs off ys) := (hz.take _).append (hy.append (hz.drop _))

def ints (k : IntKind) (zs : List Nat) : List Value := zs.map fun (x : Nat) => .int k (x : Int)
theorem Row.heap {k : IntKind} {T : TypeId} {w : World} {g : Nat} {zs : List Nat} (h : Row k T w g zs) : w.heap[g]? = some (.cells (ints k zs).toArray T (0, 0)) := by
  obtain ⟨c, hb, hn, hc⟩ := h
  have e : c = (ints k zs).toArray := by
    apply Array.ext_getElem?
    intro i
    by_cases hi : i < zs.length
    · rw [hc i hi]; simp [ints, hi]
    · rw [Array.getElem?_eq_none (by omega)]; simp [ints, List.getElem?_eq_none (show zs.length ≤ i by omega)]
  rw [← e]; exact hb
theorem Row.of_heap {k : IntKind} {T : TypeId} {w : World} {g : Nat} {zs : List Nat} (h : w.heap[g]? = some (.cells (ints k zs).toArray T (0, 0))) : Row k T w g zs :=
  ⟨_, h, by simp [ints], fun i hi => by simp [ints, hi]⟩

theorem wpList_copy_row {w : World} {ops : Array Oper} {rest : List Oper} {o : Oper} {a : Act} {Q : Exit → Act → World → Prop} (hgd : o.guard = none) (d s : Operand)
    (ho : o.op = .call { callee := .builtin .copy, args := #[d, s], argTypes := #[69, 69] })
    (dp sp : Option Addr) (n c m L : Nat) (hd : a.eval d = .slice dp n c) (hs : a.eval s = .slice sp L m)
    (g off : Nat) (zs xs : List Nat) (hr : Row .u64 55 w g zs) (hx : Nums .u64 w sp xs) (hL : L = xs.length) (hn : L ≤ n) (hdp : 0 < L → dp = some ⟨g, off, none⟩) (hfit : off + L ≤ zs.length)
    (h : ∀ w', Row .u64 55 w' g (lay zs off xs) → w.grownBy w' (some g) → wpList Try.prog ops Q rest (a.put o.dst (goInt L)) w') :
    wpList Try.prog ops Q (o :: rest) a w := by
  subst hL
  by_cases h0 : xs = []
  · subst h0
    refine wpList_copy_nothing hgd d s 69 69 ho 55 Try.underlying69 (by kernel_rfl) dp sp n c _ m hd hs (by simp) ?_
    exact h w (by rw [lay_nil]; exact hr) (World.grownBy.refl w _)
  · have hpos : 0 < xs.length := List.length_pos_iff.2 h0
    obtain rfl := hdp hpos
    obtain ⟨g', off', rfl, hg', hc⟩ := hx hpos
    have e : (ints .u64 xs).length = xs.length := by simp [ints]
    refine wpList_copy_own hgd d s 69 69 ho 55 Try.underlying69 (by kernel_rfl) g off n c ⟨g', off', none⟩ xs.length m hd hs _ 55 hr.heap (ints .u64 xs) (by rw [e]; exact (Nat.min_eq_left hn).symm) (fun j v hv => ?_) (by rw [e]; simp [ints]; omega) (fun v hv => ?_) ?_
    · simp only [ints, List.getElem?_map, Option.map_eq_some_iff] at hv
      obtain ⟨x, hx, rfl⟩ := hv
      have := hc j x hx
      unfold Addr.add
      split
      · rename_i h; subst h; exact this
      · exact this
    · simp only [ints, List.mem_map] at hv
      obtain ⟨x, _, rfl⟩ := hv
      rfl
    · rw [e]
      have e2 : ((ints .u64 zs).toArray.toList.take off ++ (ints .u64 xs ++ (ints .u64 zs).toArray.toList.drop (off + xs.length))).toArray = (ints .u64 (lay zs off xs)).toArray := by
        simp [ints, lay, List.map_take, List.map_drop]
      rw [e2]
      refine h _ (Row.of_heap (setRow_heap w g _ _ 55 _ hr.heap)) ?_
      exact ⟨rfl, rfl, rfl, by simp, fun i hi hne => setRow_other w g i _ (by rintro rfl; exact hne rfl)⟩
end Go.Proofs.Ythgekjkgfccnaaa

namespace Go.Proofs.Ythgekjkgfccnaaa
open Go.RowKit Num

theorem nums_ne {k : IntKind} {w : World} {A : Option Addr} {xs : List Nat} {B : Nat} (h : Nums k w A xs) (hB : w.heap.size ≤ B) (hp : 0 < xs.length) : ∀ a, A = some a → a.block ≠ B := by
  obtain ⟨g, off, e, hg, _⟩ := h hp
  intro a ha
  rw [e] at ha
  injection ha with ha
  subst ha
  show g ≠ B
  omega

theorem val_lay0 (b n : Nat) (xs : List Nat) : val b (lay (List.replicate n 0) 0 xs) = val b xs := by
  simp only [lay, List.take_zero, List.nil_append, List.drop_replicate, Nat.zero_add]
  rw [val_append, val_replicate]; simp
theorem two_pow_lt {b L x y : Nat} (hb : 2 ≤ b) (hx : x < b ^ L) (hy : y < b ^ L) : x + y < b ^ (L + 1) := by
  have : 2 * b ^ L ≤ b * b ^ L := Nat.mul_le_mul_right _ hb
  rw [Nat.pow_succ, Nat.mul_comm]
  omega
theorem seg0 {zs : List Nat} {n : Nat} (h : zs.length = n) : seg zs 0 n = zs := by subst h; exact seg_all zs
theorem sum_fin {b L c : Nat} {xs ys zs' : List Nat} (hb : 2 ≤ b) (hx : Low b xs) (hy : Low b ys) (hL : xs.length = L) (hL' : ys.length ≤ L)
    (h : AddSt b (lay (List.replicate (L + 1) 0) 0 xs) ys 0 (L + 1) zs' c) : val b zs' = val b xs + val b ys := by
  have hlen : (lay (List.replicate (L + 1) 0) 0 xs).length = L + 1 := by rw [lay_len (by simp; omega)]; simp
  have e := h.eq
  have l' : zs'.length = L + 1 := h.len.trans hlen
  rw [seg0 l', seg0 hlen,
    val_lay0, List.take_of_length_le (by omega)] at e
  have h1 := val_lt b xs hx
  have h2 := val_lt b ys hy
  have h3 : b ^ ys.length ≤ b ^ L := Nat.pow_le_pow_right (by omega) hL'
  rw [hL] at h1
  have h4 := two_pow_lt hb h1 (Nat.lt_of_lt_of_le h2 h3)
  have h5 : c = 0 := by
    rcases Nat.eq_zero_or_pos c with h0 | h0
    · exact h0
    · have : b ^ (L + 1) * 1 ≤ b ^ (L + 1) * c := Nat.mul_le_mul_left _ h0
      omega
  subst h5
  simpa using e

def SumPost (w : World) (n : Nat) (e : Ending) (w' : World) : Prop := ∃ v, e = .returned v ∧ OwnW w.heap.size w' v n ∧ Below w.heap.size w w'

set_option maxHeartbeats 1000000 in
set_option maxRecDepth 100000 in
theorem sum_ge (A A' : Option Addr) (c c' L L' : Nat) (xs ys : List Nat) (w : World) (hA : Nums .u64 w A xs) (hA' : Nums .u64 w A' ys) (hx : Low B64 xs) (hy : Low B64 ys)
    (hL : L = xs.length) (hL' : L' = ys.length) (hle : L' ≤ L) (hbig : L ≤ 100000000000) :
    Calls Try.prog 77 #[.slice A L c, .slice A' L' c'] w (SumPost w (val B64 xs + val B64 ys)) := by
  have hmk := make64 (L + 1) (by omega)
  push_cast at hmk
  have hr0 := Row.made w .u64 (L + 1) 55
  have hbA : Below w.heap.size w (w.alloc (.cells (madeCells #[.int .u64 0] (L + 1)) 55)) := (Below.refl _ _).alloc (Nat.le_refl _) _
  have hA0 := hA.keep hbA
  have hlow0 : Low B64 (lay (List.replicate (L + 1) 0) 0 xs) := lay_low (Low.replicate b64_pos _) hx
  have hlen0 : (lay (List.replicate (L + 1) 0) 0 xs).length = L + 1 := by rw [lay_len (by simp; omega)]; simp
  have hne : 0 < ys.length → ∀ a, A' = some a → a.block ≠ w.heap.size := nums_ne hA' (Nat.le_refl _)
  have hlen1 : 0 + (L + 1) ≤ (lay (List.replicate (L + 1) 0) 0 xs).length := by rw [hlen0]; omega
  have HL := Lib.hid hL
  have HL' := Lib.hid hL'
  have HN := Lib.hid hlen0
  have HNE := Lib.hid hne
  have HR0 := Lib.hid hr0
  clear hL hL' hlen0 hne hr0
  go_enter Try.func77, Try.ntmps77
  go_wp2_with (first
    | (refine wpList_copy_row rfl (.tmp 17) (.tmp 18) rfl _ _ _ _ _ _ rfl rfl _ 0 _ _ HR0.out hA0 HL.out (by omega) (fun _ => rfl) (by simp) ?_
       intro w1 hr1 hg1
       have hb1 : Below w.heap.size w w1 := hbA.grown hg1 hbA.size (by simp))
    | (go_at_call 98
       refine (addTo_any w.heap.size 0 (L + 1) (L + 1) c' L' _ ys A' _ (by assumption) hlow0 hlen1 (hA'.keep (by assumption)) hy HNE.out HL'.out (by omega) (by omega)).mono ?_
       rintro e w2 ⟨zs', cy, rfl, hst, hr2, hg2⟩
       have hb2 : Below w.heap.size w w2 := hb1.grown hg2 hb1.size (by simp)
       have hl2 : zs'.length = L + 1 := hst.len.trans HN.out
       have hn2 : Nums .u64 w2 (some ⟨w.heap.size, 0, none⟩) zs' := by have := hr2.nums0 zs'.length; rwa [List.take_length] at this
       have HL2 := Lib.hid hl2
       clear hl2)
    | (go_at_call 69
       refine (trim_any _ (L + 1) (L + 1) zs' _ (by assumption) hst.low HL2.out.symm (Nat.le_refl _) (by omega)).mono ?_
       rintro e w3 ⟨rfl, rfl⟩))
  go_ret
  have hv := sum_fin b64_two hx hy HL.out.symm (by rw [← HL'.out]; exact hle) hst
  rw [← hv]
  refine ⟨_, rfl, ?_, hb2⟩
  have := own_of_trim b64_two hr2 hst.low (Nat.le_refl w.heap.size)
  rw [HL2.out] at this
  exact this
set_option maxHeartbeats 1000000 in
set_option maxRecDepth 100000 in
theorem sum_lt (A A' : Option Addr) (c c' L L' : Nat) (xs ys : List Nat) (w : World) (hA : Nums .u64 w A xs) (hA' : Nums .u64 w A' ys) (hx : Low B64 xs) (hy : Low B64 ys)
    (hL : L = xs.length) (hL' : L' = ys.length) (hle : L' < L) (hbig : L ≤ 100000000000) :
    Calls Try.prog 77 #[.slice A' L' c', .slice A L c] w (SumPost w (val B64 xs + val B64 ys)) := by
  have hmk := make64 (L + 1) (by omega)
  push_cast at hmk
  have hr0 := Row.made w .u64 (L + 1) 55
  have hbA : Below w.heap.size w (w.alloc (.cells (madeCells #[.int .u64 0] (L + 1)) 55)) := (Below.refl _ _).alloc (Nat.le_refl _) _
  have hA0 := hA.keep hbA
  have hlow0 : Low B64 (lay (List.replicate (L + 1) 0) 0 xs) := lay_low (Low.replicate b64_pos _) hx
  have hlen0 : (lay (List.replicate (L + 1) 0) 0 xs).length = L + 1 := by rw [lay_len (by simp; omega)]; simp
  have hne : 0 < ys.length → ∀ a, A' = some a → a.block ≠ w.heap.size := nums_ne hA' (Nat.le_refl _)
  have hlen1 : 0 + (L + 1) ≤ (lay (List.replicate (L + 1) 0) 0 xs).length := by rw [hlen0]; omega
  have HL := Lib.hid hL
  have HL' := Lib.hid hL'
  have HN := Lib.hid hlen0
  have HNE := Lib.hid hne
  have HR0 := Lib.hid hr0
  clear hL hL' hlen0 hne hr0
  go_enter Try.func77, Try.ntmps77
  go_wp2_with (first
    | (refine wpList_copy_row rfl (.tmp 17) (.tmp 18) rfl _ _ _ _ _ _ rfl rfl _ 0 _ _ HR0.out hA0 HL.out (by omega) (fun _ => rfl) (by simp) ?_
       intro w1 hr1 hg1
       have hb1 : Below w.heap.size w w1 := hbA.grown hg1 hbA.size (by simp))
    | (go_at_call 98
       refine (addTo_any w.heap.size 0 (L + 1) (L + 1) c' L' _ ys A' _ (by assumption) hlow0 hlen1 (hA'.keep (by assumption)) hy HNE.out HL'.out (by omega) (by omega)).mono ?_
       rintro e w2 ⟨zs', cy, rfl, hst, hr2, hg2⟩
       have hb2 : Below w.heap.size w w2 := hb1.grown hg2 hb1.size (by simp)
       have hl2 : zs'.length = L + 1 := hst.len.trans HN.out
       have hn2 : Nums .u64 w2 (some ⟨w.heap.size, 0, none⟩) zs' := by have := hr2.nums0 zs'.length; rwa [List.take_length] at this
       have HL2 := Lib.hid hl2
       clear hl2)
    | (go_at_call 69
       refine (trim_any _ (L + 1) (L + 1) zs' _ (by assumption) hst.low HL2.out.symm (Nat.le_refl _) (by omega)).mono ?_
       rintro e w3 ⟨rfl, rfl⟩))
  go_ret
  have hv := sum_fin b64_two hx hy HL.out.symm (by rw [← HL'.out]; exact Nat.le_of_lt hle) hst
  rw [← hv]
  refine ⟨_, rfl, ?_, hb2⟩
  have := own_of_trim b64_two hr2 hst.low (Nat.le_refl w.heap.size)
  rw [HL2.out] at this
  exact this

theorem dig_low64 (n : Nat) : Low B64 (dig B64 n) := low_dig b64_two n
/-- sum, of two numbers. -/
theorem sum_any (a b : Value) (m n : Nat) (w : World) (ha : W64 w a m) (hb : W64 w b n) (hm : (dig B64 m).length ≤ 100000000000) (hn : (dig B64 n).length ≤ 100000000000) :
    Calls Try.prog 77 #[a, b] w (SumPost w (m + n)) := by
  obtain ⟨A, c, rfl, _, hA⟩ := ha
  obtain ⟨A', c', rfl, _, hA'⟩ := hb
  have em := val_dig b64_two m
  have en := val_dig b64_two n
  rcases Nat.lt_or_ge (dig B64 m).length (dig B64 n).length with h | h
  · have := sum_lt A' A c' c _ _ _ _ w hA' hA (dig_low64 n) (dig_low64 m) rfl rfl h hn
    rw [em, en, Nat.add_comm] at this
    exact this
  · have := sum_ge A A' c c' _ _ _ _ w hA hA' (dig_low64 m) (dig_low64 n) rfl rfl h hm
    rw [em, en] at this
    exact this
end Go.Proofs.Ythgekjkgfccnaaa

/- Plain laws: the bits of a number that is written in words. -/
namespace Go.Proofs.Num

theorem dig_get_drop {b : Nat} (hb : 2 ≤ b) (n i : Nat) : val b ((dig b n).drop i) = n / b ^ i := by
  induction i generalizing n with
  | zero => simp [val_dig hb]
  | succ i ih =>
    by_cases hn : n = 0
    · subst hn; simp [dig_zero, val]
    · rw [dig_pos hb hn, List.drop_succ_cons, ih, Nat.div_div_eq_div_mul, Nat.pow_succ, Nat.mul_comm]

theorem dig_getElem? {b : Nat} (hb : 2 ≤ b) {n i v : Nat} (h : (dig b n)[i]? = some v) : v = n / b ^ i % b := by
  have hi := (List.getElem?_eq_some_iff.1 h).1
  have e := dig_get_drop hb n i
  rw [List.drop_eq_getElem_cons hi] at e
  have hv : (dig b n)[i] = v := (List.getElem?_eq_some_iff.1 h).2
  rw [hv] at e
  simp only [val] at e
  rw [← e, Nat.add_mul_mod_self_left]
  refine (Nat.mod_eq_of_lt ?_).symm
  rw [← hv]
  exact low_dig hb n _ (List.getElem_mem hi)

theorem div_pow_len {b : Nat} (hb : 2 ≤ b) {n i : Nat} (h : (dig b n).length ≤ i) : n / b ^ i = 0 := by
  refine Nat.div_eq_of_lt (Nat.lt_of_lt_of_le (dig_len_lt hb) (Nat.pow_le_pow_right (by omega) h))

/-- n shifted right by 64 i + s, its low word: out of the words i and i + 1. -/
theorem win_of (n i s : Nat) (hs : s < 64) :
    n / 2 ^ (64 * i + s) % 18446744073709551616 =
      (n / 18446744073709551616 ^ i % 18446744073709551616) / 2 ^ s + 2 ^ (64 - s) * (n / 18446744073709551616 ^ (i + 1) % 18446744073709551616 % 2 ^ s) := by
  have e1 : (2 : Nat) ^ (64 * i) = 18446744073709551616 ^ i := by rw [Nat.pow_mul]
  have e2 : (18446744073709551616 : Nat) = 2 ^ s * 2 ^ (64 - s) := by rw [← Nat.pow_add, show s + (64 - s) = 64 by omega]
  rw [Nat.pow_add, e1, ← Nat.div_div_eq_div_mul, Nat.pow_succ, ← Nat.div_div_eq_div_mul]
  generalize n / 18446744073709551616 ^ i = m
  -- m = x + B (y + ..)
  have hx := Nat.mod_add_div m 18446744073709551616
  generalize hy : m / 18446744073709551616 = y at *
  generalize hxx : m % 18446744073709551616 = x at *
  have hxl : x < 18446744073709551616 := by omega
  have h2s : 0 < 2 ^ s := Nat.two_pow_pos s
  have h2t : 0 < 2 ^ (64 - s) := Nat.two_pow_pos _
  have hd : (2 ^ s : Nat) ∣ 18446744073709551616 := ⟨_, e2⟩
  have a1 : m / 2 ^ s = x / 2 ^ s + 2 ^ (64 - s) * y := by
    rw [← hx]
    have : 18446744073709551616 * y = 2 ^ s * (2 ^ (64 - s) * y) := by rw [← Nat.mul_assoc, ← e2]
    rw [this, Nat.add_mul_div_left _ _ h2s]
  have a3 : y % 18446744073709551616 % 2 ^ s = y % 2 ^ s := Nat.mod_mod_of_dvd y hd
  have a2 : x / 2 ^ s < 2 ^ (64 - s) := by
    rw [Nat.div_lt_iff_lt_mul h2s, Nat.mul_comm, ← e2]; exact hxl
  rw [a1, a3]
  have a4 : 2 ^ (64 - s) * y = 18446744073709551616 * (y / 2 ^ s) + 2 ^ (64 - s) * (y % 2 ^ s) := by
    have h := Nat.mod_add_div y (2 ^ s)
    have h2 : 2 ^ (64 - s) * y = 2 ^ (64 - s) * (y % 2 ^ s) + 2 ^ (64 - s) * (2 ^ s * (y / 2 ^ s)) := by rw [← Nat.mul_add, h]
    have h3 : 2 ^ (64 - s) * (2 ^ s * (y / 2 ^ s)) = 18446744073709551616 * (y / 2 ^ s) := by
      rw [← Nat.mul_assoc, Nat.mul_comm (2 ^ (64 - s)) (2 ^ s), ← e2]
    omega
  rw [a4]
  have a5 : y % 2 ^ s < 2 ^ s := Nat.mod_lt _ h2s
  have a6 : x / 2 ^ s + 2 ^ (64 - s) * (y % 2 ^ s) < 18446744073709551616 := by
    have : 2 ^ (64 - s) * (y % 2 ^ s + 1) ≤ 2 ^ (64 - s) * 2 ^ s := Nat.mul_le_mul_left _ a5
    rw [Nat.mul_comm (2 ^ (64 - s)) (2 ^ s), ← e2, Nat.mul_add] at this
    omega
  rw [show x / 2 ^ s + (18446744073709551616 * (y / 2 ^ s) + 2 ^ (64 - s) * (y % 2 ^ s)) = (x / 2 ^ s + 2 ^ (64 - s) * (y % 2 ^ s)) + 18446744073709551616 * (y / 2 ^ s) by omega, Nat.add_mul_mod_self_left]
  exact Nat.mod_eq_of_lt a6

theorem mul_pow_mod (y s : Nat) (hs : s < 64) : y * 2 ^ (64 - s) % 18446744073709551616 = 2 ^ (64 - s) * (y % 2 ^ s) := by
  have e2 : (18446744073709551616 : Nat) = 2 ^ (64 - s) * 2 ^ s := by rw [← Nat.pow_add, show 64 - s + s = 64 by omega]
  rw [Nat.mul_comm y, e2, Nat.mul_mod_mul_left]

/-- What the walk shows of a window over two words. -/
theorem win_bits (x y s : Nat) (hx : x < 18446744073709551616) (hs : s < 64) :
    bits .or .u64 ((x : Int) / 2 ^ s) (IntKind.u64.wrap ((y : Int) * 2 ^ (64 - s))) = ((x / 2 ^ s + 2 ^ (64 - s) * (y % 2 ^ s) : Nat) : Int) := by
  have e2 : (18446744073709551616 : Nat) = 2 ^ s * 2 ^ (64 - s) := by rw [← Nat.pow_add, show s + (64 - s) = 64 by omega]
  have h2s : 0 < 2 ^ s := Nat.two_pow_pos s
  have c1 : ((x : Int) / 2 ^ s) = ((x / 2 ^ s : Nat) : Int) := by push_cast; rfl
  have c2 : IntKind.u64.wrap ((y : Int) * 2 ^ (64 - s)) = ((2 ^ (64 - s) * (y % 2 ^ s) : Nat) : Int) := by
    rw [IntKind.wrap_u64, ← mul_pow_mod y s hs, Int.natCast_emod, Int.natCast_mul, Int.natCast_pow]; rfl
  have a2 : x / 2 ^ s < 2 ^ (64 - s) := by
    rw [Nat.div_lt_iff_lt_mul h2s, Nat.mul_comm, ← e2]; exact hx
  have a5 : y % 2 ^ s < 2 ^ s := Nat.mod_lt _ h2s
  have a6 : 2 ^ (64 - s) * (y % 2 ^ s) < 18446744073709551616 := by rw [← mul_pow_mod y s hs]; exact Nat.mod_lt _ (by omega)
  have a7 : x / 2 ^ s < 18446744073709551616 := Nat.lt_of_le_of_lt (Nat.div_le_self _ _) hx
  rw [c1, c2, bits_or_u64_nat _ _ a7 a6, Nat.or_comm, ← Nat.two_pow_add_eq_or_of_lt a2, Nat.add_comm]

end Go.Proofs.Num
namespace Go.Proofs.Num
/-- How many binary digits a number has. -/
def nbits (n : Nat) : Nat := if n = 0 then 0 else n.log2 + 1
theorem nbits_zero : nbits 0 = 0 := rfl
theorem nbits_pos {n : Nat} (h : n ≠ 0) : nbits n = n.log2 + 1 := by unfold nbits; rw [if_neg h]
theorem nbits_lt (n : Nat) : n < 2 ^ nbits n := by
  by_cases h : n = 0
  · subst h; simp [nbits]
  · rw [nbits_pos h]; exact Nat.lt_log2_self
theorem nbits_ge {n : Nat} (h : n ≠ 0) : 2 ^ (nbits n - 1) ≤ n := by
  rw [nbits_pos h]; exact Nat.log2_self_le h
theorem nbits_eq {n k : Nat} (h1 : 2 ^ k ≤ n) (h2 : n < 2 ^ (k + 1)) : nbits n = k + 1 := by
  have h0 : n ≠ 0 := by have := Nat.two_pow_pos k; omega
  rw [nbits_pos h0, (Nat.log2_eq_iff h0).2 ⟨h1, h2⟩]
theorem nbits_shift {n k : Nat} (h : n / 2 ^ k ≠ 0) : nbits n = k + nbits (n / 2 ^ k) := by
  have hp := Nat.two_pow_pos k
  have h1 := nbits_ge h
  have h2 := nbits_lt (n / 2 ^ k)
  have h3 : nbits (n / 2 ^ k) = (n / 2 ^ k).log2 + 1 := nbits_pos h
  generalize nbits (n / 2 ^ k) = m at *
  obtain ⟨m, rfl⟩ : ∃ j, m = j + 1 := ⟨(n / 2 ^ k).log2, h3⟩
  rw [show k + (m + 1) = (k + m) + 1 by omega]
  refine nbits_eq ?_ ?_
  · rw [Nat.pow_add, Nat.mul_comm]; exact (Nat.le_div_iff_mul_le hp).1 (by simpa using h1)
  · rw [show k + m + 1 = (m + 1) + k by omega, Nat.pow_add]; exact (Nat.div_lt_iff_lt_mul hp).1 h2
theorem nbits_le {n k : Nat} (h : n < 2 ^ k) : nbits n ≤ k := by
  by_cases h0 : n = 0
  · subst h0; simp [nbits]
  · have h1 := nbits_ge h0
    rcases Nat.lt_or_ge k (nbits n) with hk | hk
    · have := Nat.pow_le_pow_right (show 0 < 2 by omega) (show k ≤ nbits n - 1 by omega)
      omega
    · exact hk
theorem lt_of_nbits {n k : Nat} (h : nbits n ≤ k) : n < 2 ^ k := Nat.lt_of_lt_of_le (nbits_lt n) (Nat.pow_le_pow_right (by omega) h)

theorem bitLen_nbits (x : Nat) (h : x < 2 ^ 64) : Lib.bitLen x = nbits x := by
  induction x using Nat.strongRecOn with
  | ind x ih =>
    by_cases h0 : x = 0
    · subst h0; decide
    · rw [Lib.bitLen_half x h0 h, ih (x / 2) (by omega) (by omega)]
      by_cases h2 : x / 2 = 0
      · have : x = 1 := by omega
        subst this; decide
      · rw [nbits_shift (n := x) (k := 1) (by simpa using h2)]

/-- The binary digits of a number in words: out of its last word. -/
theorem nbits_words {n L v : Nat} (hL : (dig 18446744073709551616 n).length = L + 1) (hv : (dig 18446744073709551616 n)[L]? = some v) : nbits n = 64 * L + nbits v := by
  have e := dig_getElem? (b := 18446744073709551616) (by omega) hv
  have h1 := dig_len_lt (b := 18446744073709551616) (n := n) (by omega)
  have h2 := dig_len_ge (b := 18446744073709551616) (n := n) (by omega) (by omega)
  rw [hL] at h1 h2
  simp only [Nat.add_sub_cancel] at h2
  have hp : 0 < 18446744073709551616 ^ L := Nat.pow_pos (by omega)
  have h3 : n / 18446744073709551616 ^ L < 18446744073709551616 := by
    rw [Nat.div_lt_iff_lt_mul hp, Nat.mul_comm, ← Nat.pow_succ]; exact h1
  have h4 : n / 18446744073709551616 ^ L ≠ 0 := by
    intro h0
    rcases Nat.div_eq_zero_iff.1 h0 with h | h <;> omega
  rw [Nat.mod_eq_of_lt h3] at e
  have e1 : (2 : Nat) ^ (64 * L) = 18446744073709551616 ^ L := by rw [Nat.pow_mul]
  rw [e, ← e1]
  refine nbits_shift ?_
  rw [e1]; exact h4

/-- How two numbers compare. -/
def cmpN (m n : Nat) : Int := if m < n then -1 else if m = n then 0 else 1
theorem cmpN_lt {m n : Nat} (h : m < n) : cmpN m n = -1 := by unfold cmpN; rw [if_pos h]
theorem cmpN_eq (m : Nat) : cmpN m m = 0 := by unfold cmpN; rw [if_neg (by omega), if_pos rfl]
theorem cmpN_gt {m n : Nat} (h : n < m) : cmpN m n = 1 := by unfold cmpN; rw [if_neg (by omega), if_neg (by omega)]

theorem lt_of_len {b m n : Nat} (hb : 2 ≤ b) (h : (dig b m).length < (dig b n).length) : m < n := by
  have h1 := dig_len_lt hb (n := m)
  have h2 := dig_len_ge hb (n := n) (by omega)
  have := Nat.pow_le_pow_right (show 0 < b by omega) (show (dig b m).length ≤ (dig b n).length - 1 by omega)
  omega
theorem cmp_of_len {b m n : Nat} (hb : 2 ≤ b) (h : (dig b m).length ≠ (dig b n).length) : cmpN (dig b m).length (dig b n).length = cmpN m n := by
  rcases Nat.lt_or_gt_of_ne h with h | h
  · rw [cmpN_lt h, cmpN_lt (lt_of_len hb h)]
  · rw [cmpN_gt h, cmpN_gt (lt_of_len hb h)]
/-- Equal above digit i, which tells. -/
theorem lt_of_digit {b m n i x y : Nat} (hb : 2 ≤ b) (hx : (dig b m)[i]? = some x) (hy : (dig b n)[i]? = some y) (hd : m / b ^ (i + 1) = n / b ^ (i + 1)) (h : x < y) : m < n := by
  have e1 := dig_getElem? hb hx
  have e2 := dig_getElem? hb hy
  have hp : 0 < b ^ i := Nat.pow_pos (by omega)
  rw [Nat.pow_succ, ← Nat.div_div_eq_div_mul, ← Nat.div_div_eq_div_mul] at hd
  have f1 := Nat.mod_add_div (m / b ^ i) b
  have f2 := Nat.mod_add_div (n / b ^ i) b
  rw [← e1, hd] at f1
  rw [← e2] at f2
  have : m / b ^ i < n / b ^ i := by omega
  rcases Nat.lt_or_ge m n with hlt | hge
  · exact hlt
  · have := Nat.div_le_div_right (c := b ^ i) hge; omega
theorem eq_step {b m n i x : Nat} (hb : 2 ≤ b) (hx : (dig b m)[i]? = some x) (hy : (dig b n)[i]? = some x) (hd : m / b ^ (i + 1) = n / b ^ (i + 1)) : m / b ^ i = n / b ^ i := by
  have e1 := dig_getElem? hb hx
  have e2 := dig_getElem? hb hy
  rw [Nat.pow_succ, ← Nat.div_div_eq_div_mul, ← Nat.div_div_eq_div_mul] at hd
  have f1 := Nat.mod_add_div (m / b ^ i) b
  have f2 := Nat.mod_add_div (n / b ^ i) b
  rw [← e1, hd] at f1
  rw [← e2] at f2
  omega
end Go.Proofs.Num

namespace Go.Proofs.Ythgekjkgfccnaaa
open Go.RowKit Num

theorem pow_b64 (i : Nat) : (2 : Nat) ^ (64 * i) = B64 ^ i := by rw [Nat.pow_mul]; rfl

set_option maxHeartbeats 400000 in
theorem window_any (A : Option Addr) (c L n f : Nat) (w : World) (h : Nums .u64 w A (dig B64 n)) (hL : L = (dig B64 n).length) (hl : L ≤ 1000000000000) (hf : f ≤ 100000000000000) :
    Calls Try.prog 54 #[.slice A L c, .int .i64 (f : Int)] w fun e w' => e = .returned (.int .u64 ((n / 2 ^ f % B64 : Nat) : Int)) ∧ w = w' := by
  obtain ⟨i, s, hs, hfe⟩ : ∃ i s, s < 64 ∧ f = 64 * i + s := ⟨f / 64, f % 64, Nat.mod_lt _ (by omega), by omega⟩
  have hw : n / 2 ^ f % B64 = (n / B64 ^ i % B64) / 2 ^ s + 2 ^ (64 - s) * (n / B64 ^ (i + 1) % B64 % 2 ^ s) := by
    rw [hfe]; exact win_of n i s hs
  have e1 : (f : Int) / 64 = (i : Int) := by omega
  have e2 : (f : Int) % 64 = (s : Int) := by omega
  have hi0 : i ≤ 100000000000000 := by omega
  generalize n / 2 ^ f % B64 = r at *
  have HW := Lib.hid hw
  clear hw hfe
  generalize hF : (f : Int) = F at *
  have hF0 : 0 ≤ F := by omega
  have hF1 : F ≤ 100000000000000 := by omega
  clear hF
  by_cases h0 : i < L
  · obtain ⟨g, off, x, rfl, hg, hx, hcx⟩ := h.at_ (i := i) (by omega)
    have hxv := dig_getElem? b64_two hx
    have hxl : x < B64 := by rw [hxv]; exact Nat.mod_lt _ b64_pos
    by_cases h1 : i + 1 < L
    · obtain ⟨g', off', y, he, _, hy, hcy⟩ := h.at_ (i := i + 1) (by omega)
      simp only [Option.some.injEq, Addr.mk.injEq] at he
      obtain ⟨rfl, rfl, _⟩ := he
      have hyv := dig_getElem? b64_two hy
      have HB := Lib.hid (win_bits x y s hxl hs)
      have HX := Lib.hid hxv
      have HY := Lib.hid hyv
      have h1' : (i : Int) + 1 < (L : Int) := by omega
      have HL := Lib.hid hL
      clear hxv hyv hx hy h hxl hL
      go_enter Try.func54, Try.ntmps54
      go_wp2
      go_ret
      refine ⟨ret_i ?_, rfl⟩
      rw [HB.out, HW.out, HX.out, HY.out]
    · have HX := Lib.hid hxv
      have hd0 : n / B64 ^ (i + 1) = 0 := div_pow_len b64_two (by omega)
      have HD := Lib.hid hd0
      have h1' : ¬ (i : Int) + 1 < (L : Int) := by omega
      have HL := Lib.hid hL
      clear hxv hx h hxl hd0 hL
      go_enter Try.func54, Try.ntmps54
      go_wp2
      go_ret
      refine ⟨ret_i ?_, rfl⟩
      rw [HW.out, HX.out, HD.out]; simp
  · have hd0 : n / B64 ^ i = 0 := div_pow_len b64_two (by omega)
    have hd1 : n / B64 ^ (i + 1) = 0 := div_pow_len b64_two (by omega)
    have HD := Lib.hid hd0
    have HE := Lib.hid hd1
    have h1' : ¬ (i : Int) + 1 < (L : Int) := by omega
    have HL := Lib.hid hL
    clear hd0 hd1 h hL
    go_enter Try.func54, Try.ntmps54
    go_wp2
    go_ret
    refine ⟨ret_i ?_, rfl⟩
    rw [HW.out, HD.out, HE.out]
    simp
end Go.Proofs.Ythgekjkgfccnaaa

namespace Go.Proofs.Ythgekjkgfccnaaa
open Go.RowKit Num

theorem len64_nat (x : Nat) (w : World) (hx : x < B64) : Calls Try.prog 91 #[.int .u64 (x : Int)] w fun e w' => e = .returned (.int .i64 (nbits x : Nat)) ∧ w = w' := by
  have h := len64_int (x : Int) w (by omega) (by unfold B64 at hx; omega)
  rw [Int.toNat_natCast, bitLen_nbits x (by unfold B64 at hx; omega)] at h
  exact h
theorem nbits_64 {x : Nat} (hx : x < B64) : nbits x ≤ 64 := nbits_le (k := 64) hx

set_option maxHeartbeats 400000 in
theorem bits_any (A : Option Addr) (c L n : Nat) (w : World) (h : Nums .u64 w A (dig B64 n)) (hL : L = (dig B64 n).length) (hl : L ≤ 1000000000000) :
    Calls Try.prog 75 #[.slice A L c] w fun e w' => e = .returned (.int .i64 (nbits n : Nat)) ∧ w = w' := by
  by_cases h0 : L = 0
  · subst h0
    have hn : n = 0 := (dig_nil_iff b64_two).1 (List.eq_nil_of_length_eq_zero hL.symm)
    subst hn
    clear hL h
    go_enter Try.func75, Try.ntmps75
    go_wp2
    go_ret
    exact ⟨ret_i (by rw [nbits_zero]; rfl), rfl⟩
  · obtain ⟨K, rfl⟩ : ∃ K, L = K + 1 := ⟨L - 1, by omega⟩
    obtain ⟨g, off, v, rfl, hg, hv, hcv⟩ := h.at_ (i := K) (by omega)
    have hb := nbits_words hL.symm hv
    have hvl : v < B64 := by rw [dig_getElem? b64_two hv]; exact Nat.mod_lt _ b64_pos
    have hv64 := nbits_64 hvl
    have HL := Lib.hid hL
    generalize nbits n = r at *
    have HB := Lib.hid hb
    clear h hv hb hL
    have hne : (((K : Int) + 1) == 0) = false := by simp; omega
    have hcall := fun w => len64_nat v w hvl
    have HC := Lib.hid hcall
    clear hcall
    generalize nbits v = q at *
    go_enter Try.func75, Try.ntmps75
    go_wp2_with (go_at_call 91; refine (HC.out _).mono ?_; rintro e w' ⟨rfl, rfl⟩)
    go_ret
    exact ⟨ret_i (by rw [HB.out]; push_cast; omega), rfl⟩
end Go.Proofs.Ythgekjkgfccnaaa

/- Plain laws: multiplication by hand's method. -/
namespace Go.Proofs.Num

theorem seg_self {zs : List Nat} {n : Nat} (h : zs.length = n) : seg zs 0 n = zs := by subst h; exact seg_all zs
theorem val_split {b : Nat} {zs : List Nat} {i j r : Nat} (h : zs.length = i + j + r) :
    val b zs = val b (seg zs 0 i) + b ^ i * (val b (seg zs i j) + b ^ j * val b (seg zs (i + j) r)) := by
  have e0 : val b zs = val b (seg zs 0 (i + (j + r))) := by rw [seg_self (by omega)]
  rw [e0, val_seg_add b (by omega), Nat.zero_add, val_seg_add b (by omega)]
theorem val_zero {b : Nat} {xs : List Nat} (h : ∀ (i v : Nat), xs[i]? = some v → v = 0) : val b xs = 0 := by
  have : xs = List.replicate xs.length 0 := by
    apply List.ext_getElem
    · simp
    · intro i h1 h2
      rw [List.getElem_replicate]
      exact h i _ (List.getElem?_eq_getElem h1)
  rw [this, val_replicate]

/-- After i digits of bs. -/
structure MulSt (b : Nat) (us bs : List Nat) (i : Nat) (zs : List Nat) : Prop where
  len : zs.length = us.length + bs.length
  low : Low b zs
  zero : ∀ (j v : Nat), us.length + i ≤ j → zs[j]? = some v → v = 0
  eq : val b zs = val b us * val b (bs.take i)

theorem MulSt.start {b : Nat} (hb : 2 ≤ b) (us bs : List Nat) : MulSt b us bs 0 (List.replicate (us.length + bs.length) 0) :=
  ⟨by simp, Low.replicate (by omega) _, fun j v _ hv => List.eq_of_mem_replicate (List.mem_of_getElem? hv), by rw [val_replicate]; simp [val]⟩

theorem MulSt.step {b : Nat} {us bs zs zs' : List Nat} {i v over : Nat} (h : MulSt b us bs i zs) (hi : i < bs.length) (hv : bs[i]? = some v)
    (hs : ScaleSt b zs us v i us.length zs' over) : MulSt b us bs (i + 1) (zs'.set (us.length + i) over) := by
  have hl := hs.len
  have hl0 := h.len
  refine ⟨by rw [List.length_set]; omega, hs.low.set hs.le, fun j u hj hu => ?_, ?_⟩
  · rw [List.getElem?_set, if_neg (by omega), hs.far j (by omega)] at hu
    exact h.zero j u (by omega) hu
  · obtain ⟨r, hr⟩ : ∃ r, bs.length = i + (1 + r) := ⟨bs.length - i - 1, by omega⟩
    have e1 := val_split (b := b) (zs := zs) (i := i) (j := us.length) (r := 1 + r) (by omega)
    have e2 := val_split (b := b) (zs := zs'.set (us.length + i) over) (i := i) (j := us.length) (r := 1 + r) (by rw [List.length_set]; omega)
    have z1 : val b (seg zs (i + us.length) (1 + r)) = 0 := val_zero fun j u hu => by
      rw [seg_get?] at hu
      split at hu
      · exact h.zero _ u (by omega) hu
      · cases hu
    have z2 : val b (seg (zs'.set (us.length + i) over) (i + us.length) (1 + r)) = over := by
      have hnew : (zs'.set (us.length + i) over)[i + us.length + 0]? = some over := by
        rw [Nat.add_zero, Nat.add_comm i, List.getElem?_set_self (by omega)]
      rw [val_seg_add b (by rw [List.length_set]; omega)]
      rw [show seg (zs'.set (us.length + i) over) (i + us.length) 1 = seg (zs'.set (us.length + i) over) (i + us.length) (0 + 1) from rfl, val_seg_succ b hnew, seg_zero]
      have : val b (seg (zs'.set (us.length + i) over) (i + us.length + 1) r) = 0 := val_zero fun j u hu => by
        rw [seg_get?] at hu
        split at hu
        · rw [List.getElem?_set, if_neg (by omega), hs.far _ (by omega)] at hu
          exact h.zero _ u (by omega) hu
        · cases hu
      rw [this]; simp [val]
    have z3 : seg (zs'.set (us.length + i) over) 0 i = seg zs 0 i := by
      rw [seg_set_far (by omega)]
      exact seg_congr fun j _ h2 => hs.far j (by omega)
    have z4 : seg (zs'.set (us.length + i) over) i us.length = seg zs' i us.length := seg_set_far (by omega)
    rw [e2, z2, z3, z4, hs.eq, List.take_of_length_le (Nat.le_refl _)]
    rw [z1] at e1
    have ht : val b (bs.take (i + 1)) = val b (bs.take i) + b ^ i * v := by
      rw [val_take_succ b bs i hi, (List.getElem?_eq_some_iff.1 hv).2]
    have e3 := h.eq
    rw [ht]
    clear ht e2 z1 z2 z3 z4 hs hv hi h
    grind
end Go.Proofs.Num

/- Plain laws: shifts of a number in words. -/
namespace Go.Proofs.Num

theorem val_of_digits {b : Nat} (hb : 2 ≤ b) {zs : List Nat} {q : Nat} (h : ∀ (i v : Nat), zs[i]? = some v → v = q / b ^ i % b) (hq : q < b ^ zs.length) : val b zs = q := by
  induction zs generalizing q with
  | nil => simp at hq; subst hq; rfl
  | cons x zs ih =>
    have hx := h 0 x rfl
    simp only [Nat.pow_zero, Nat.div_one] at hx
    have h2 : val b zs = q / b := ih (fun i v hv => by
      have := h (i + 1) v (by simpa using hv)
      rw [Nat.pow_succ, Nat.mul_comm, ← Nat.div_div_eq_div_mul] at this
      exact this) (by rw [Nat.div_lt_iff_lt_mul (by omega), ← Nat.pow_succ]; exact hq)
    rw [val, h2, hx]
    exact Nat.mod_add_div q b

/-- The first k words of q. -/
structure ShrSt (b q K k : Nat) (zs : List Nat) : Prop where
  len : zs.length = K
  low : Low b zs
  eq : ∀ (i v : Nat), i < k → zs[i]? = some v → v = q / b ^ i % b
theorem ShrSt.start {b : Nat} (hb : 2 ≤ b) (q K : Nat) : ShrSt b q K 0 (List.replicate K 0) := ⟨by simp, Low.replicate (by omega) _, fun i v h => absurd h (by omega)⟩
theorem ShrSt.step {b q K k v : Nat} {zs : List Nat} (hb : 2 ≤ b) (h : ShrSt b q K k zs) (hv : v = q / b ^ k % b) : ShrSt b q K (k + 1) (zs.set k v) := by
  refine ⟨by rw [List.length_set]; exact h.len, h.low.set (by rw [hv]; exact Nat.mod_lt _ (by omega)), fun i u hi hu => ?_⟩
  rw [List.getElem?_set] at hu
  split at hu
  · rename_i e
    subst e
    split at hu
    · injection hu with hu; rw [← hu]; exact hv
    · cases hu
  · exact h.eq i u (by omega) hu
theorem ShrSt.fin {b q K : Nat} {zs : List Nat} (hb : 2 ≤ b) (h : ShrSt b q K K zs) (hq : q < b ^ K) : val b zs = q := by
  refine val_of_digits hb (fun i v hv => ?_) (by rw [h.len]; exact hq)
  exact h.eq i v (by have := (List.getElem?_eq_some_iff.1 hv).1; rw [h.len] at this; exact this) hv

/-- i words of xs have been shifted to the left by w words and s bits. -/
structure ShlSt (xs : List Nat) (w s i : Nat) (zs : List Nat) : Prop where
  len : zs.length = xs.length + w + 1
  low : Low 18446744073709551616 zs
  zero : ∀ (j v : Nat), w + i < j → zs[j]? = some v → v = 0
  head : ∀ v, zs[w + i]? = some v → v < 2 ^ s
  eq : val 18446744073709551616 zs = val 18446744073709551616 (xs.take i) * 2 ^ (64 * w + s)
theorem ShlSt.start (xs : List Nat) (w s : Nat) : ShlSt xs w s 0 (List.replicate (xs.length + w + 1) 0) :=
  ⟨by simp, Low.replicate (by omega) _, fun j v _ hv => List.eq_of_mem_replicate (List.mem_of_getElem? hv), fun v hv => by rw [List.eq_of_mem_replicate (List.mem_of_getElem? hv)]; exact Nat.two_pow_pos s,
    by rw [val_replicate]; simp [val]⟩

theorem shl_mod (v s : Nat) (hs : s < 64) : v * 2 ^ s % 18446744073709551616 = 2 ^ s * (v % 2 ^ (64 - s)) := by
  have e2 : (18446744073709551616 : Nat) = 2 ^ s * 2 ^ (64 - s) := by rw [← Nat.pow_add, show s + (64 - s) = 64 by omega]
  rw [Nat.mul_comm v, e2, Nat.mul_mod_mul_left]
theorem shl_div (v s : Nat) (hs : s < 64) : v * 2 ^ s / 18446744073709551616 = v / 2 ^ (64 - s) := by
  have e2 : (18446744073709551616 : Nat) = 2 ^ s * 2 ^ (64 - s) := by rw [← Nat.pow_add, show s + (64 - s) = 64 by omega]
  rw [Nat.mul_comm v, e2, Nat.mul_div_mul_left _ _ (Nat.two_pow_pos s)]
theorem or_shl (o v s : Nat) (ho : o < 2 ^ s) (hs : s < 64) : bits .or .u64 (o : Int) (IntKind.u64.wrap ((v : Int) * 2 ^ s)) = ((o + v * 2 ^ s % 18446744073709551616 : Nat) : Int) := by
  have c2 : IntKind.u64.wrap ((v : Int) * 2 ^ s) = ((v * 2 ^ s % 18446744073709551616 : Nat) : Int) := by
    rw [IntKind.wrap_u64, Int.natCast_emod, Int.natCast_mul, Int.natCast_pow]; rfl
  have h1 : 2 ^ s ≤ 2 ^ 63 := Nat.pow_le_pow_right (by omega) (by omega)
  rw [c2, bits_or_u64_nat _ _ (by omega) (Nat.mod_lt _ (by omega)), shl_mod v s hs, Nat.or_comm, ← Nat.two_pow_add_eq_or_of_lt ho, Nat.add_comm]
theorem or_shl_lt (o v s : Nat) (ho : o < 2 ^ s) (hs : s < 64) : o + v * 2 ^ s % 18446744073709551616 < 18446744073709551616 := by
  have e2 : (18446744073709551616 : Nat) = 2 ^ s * 2 ^ (64 - s) := by rw [← Nat.pow_add, show s + (64 - s) = 64 by omega]
  rw [shl_mod v s hs]
  have h1 : v % 2 ^ (64 - s) < 2 ^ (64 - s) := Nat.mod_lt _ (Nat.two_pow_pos _)
  have h2 : 2 ^ s * (v % 2 ^ (64 - s) + 1) ≤ 2 ^ s * 2 ^ (64 - s) := Nat.mul_le_mul_left _ h1
  rw [← e2, Nat.mul_add] at h2
  omega

theorem ShlSt.step {xs zs : List Nat} {w s i v o : Nat} (hs : s < 64) (h : ShlSt xs w s i zs) (hi : i < xs.length) (hv : xs[i]? = some v) (hvl : v < 18446744073709551616) (ho : zs[w + i]? = some o) :
    ShlSt xs w s (i + 1) ((zs.set (w + i) (o + v * 2 ^ s % 18446744073709551616)).set (w + i + 1) (v / 2 ^ (64 - s))) := by
  have hl := h.len
  have ho' := h.head o ho
  have hlt : v / 2 ^ (64 - s) < 2 ^ s := by
    rw [Nat.div_lt_iff_lt_mul (Nat.two_pow_pos _), ← Nat.pow_add, show s + (64 - s) = 64 by omega]; exact hvl
  have h63 : 2 ^ s ≤ 2 ^ 63 := Nat.pow_le_pow_right (by omega) (by omega)
  refine ⟨by simp only [List.length_set]; exact hl, (h.low.set (or_shl_lt o v s ho' hs)).set (by omega), fun j u hj hu => ?_, fun u hu => ?_, ?_⟩
  · rw [List.getElem?_set, if_neg (by omega), List.getElem?_set, if_neg (by omega)] at hu
    exact h.zero j u (by omega) hu
  · rw [show w + (i + 1) = w + i + 1 by omega, List.getElem?_set_self (by simp; omega)] at hu
    injection hu with hu
    rw [← hu]; exact hlt
  · have hp := (List.getElem?_eq_some_iff.1 ho)
    obtain ⟨z, hz⟩ : ∃ z, zs[w + i + 1]? = some z := ⟨zs[w + i + 1]'(by omega), List.getElem?_eq_getElem _⟩
    have hz0 := h.zero _ z (by omega) hz
    have s1 := val_set 18446744073709551616 zs (w + i) (o + v * 2 ^ s % 18446744073709551616) hp.1
    have s2 := val_set 18446744073709551616 (zs.set (w + i) (o + v * 2 ^ s % 18446744073709551616)) (w + i + 1) (v / 2 ^ (64 - s)) (by simp; omega)
    have g2 : (zs.set (w + i) (o + v * 2 ^ s % 18446744073709551616))[w + i + 1]'(by simp; omega) = 0 := by
      rw [List.getElem_set, if_neg (by omega)]
      have := (List.getElem?_eq_some_iff.1 hz).2
      rw [this]; exact hz0
    rw [hp.2] at s1
    rw [g2] at s2
    have ht : val 18446744073709551616 (xs.take (i + 1)) = val 18446744073709551616 (xs.take i) + 18446744073709551616 ^ i * v := by
      rw [val_take_succ _ xs i hi, (List.getElem?_eq_some_iff.1 hv).2]
    have e1 := h.eq
    have e3 := Nat.mod_add_div (v * 2 ^ s) 18446744073709551616
    rw [shl_div v s hs] at e3
    rw [ht, Nat.add_mul, ← e1]
    have e4 : 18446744073709551616 ^ i * v * 2 ^ (64 * w + s) = 18446744073709551616 ^ (w + i) * (v * 2 ^ s) := by
      have : (2 : Nat) ^ (64 * w + s) = 18446744073709551616 ^ w * 2 ^ s := by rw [Nat.pow_add, Nat.pow_mul]
      rw [this, Nat.pow_add]
      generalize (18446744073709551616 : Nat) ^ i = x
      generalize (18446744073709551616 : Nat) ^ w = y
      generalize (2 : Nat) ^ s = z
      grind
    rw [e4]
    rw [Nat.pow_succ] at s2
    clear e1 e4 ht ho' h hv ho hz g2 hp
    generalize (18446744073709551616 : Nat) ^ (w + i) = x at *
    generalize v * 2 ^ s % 18446744073709551616 = y at *
    generalize v / 2 ^ (64 - s) = z at *
    generalize v * 2 ^ s = t at *
    rw [← e3, Nat.mul_add]
    rw [Nat.mul_add] at s1
    rw [Nat.mul_assoc x _ z] at s2
    generalize val 18446744073709551616 ((zs.set (w + i) (o + y)).set (w + i + 1) z) = v2 at *
    generalize val 18446744073709551616 (zs.set (w + i) (o + y)) = v1 at *
    omega
end Go.Proofs.Num
namespace Go.Proofs.Num
/-- i limbs of xs have been packed into words. -/
structure PackSt (xs : List Nat) (K i : Nat) (zs : List Nat) : Prop where
  len : zs.length = K
  low : Low 18446744073709551616 zs
  zero : ∀ (j v : Nat), i < 2 * j + 1 → zs[j]? = some v → v = 0
  head : ∀ v, zs[i / 2]? = some v → v < 2 ^ (i % 2 * 32)
  eq : val 18446744073709551616 zs = val 4294967296 (xs.take i)
theorem PackSt.start (xs : List Nat) (K : Nat) : PackSt xs K 0 (List.replicate K 0) :=
  ⟨by simp, Low.replicate (by omega) _, fun j v _ hv => List.eq_of_mem_replicate (List.mem_of_getElem? hv), fun v hv => by rw [List.eq_of_mem_replicate (List.mem_of_getElem? hv)]; exact Nat.two_pow_pos _,
    by rw [val_replicate]; simp [val]⟩
theorem PackSt.step {xs zs : List Nat} {K i v o : Nat} (h : PackSt xs K i zs) (hv : xs[i]? = some v) (hvl : v < 4294967296) (ho : zs[i / 2]? = some o) :
    PackSt xs K (i + 1) (zs.set (i / 2) (o + v * 2 ^ (i % 2 * 32) % 18446744073709551616)) := by
  have hi := (List.getElem?_eq_some_iff.1 hv).1
  have hp := List.getElem?_eq_some_iff.1 ho
  have ho' := h.head o ho
  have hs : i % 2 * 32 < 64 := by omega
  have hm : v * 2 ^ (i % 2 * 32) % 18446744073709551616 = v * 2 ^ (i % 2 * 32) := by
    refine Nat.mod_eq_of_lt ?_
    rcases Nat.mod_two_eq_zero_or_one i with e | e <;> rw [e] <;> omega
  have hl := or_shl_lt o v (i % 2 * 32) ho' hs
  rw [hm] at hl ⊢
  refine ⟨by rw [List.length_set]; exact h.len, h.low.set hl, fun j u hj hu => ?_, fun u hu => ?_, ?_⟩
  · rw [List.getElem?_set, if_neg (by omega)] at hu
    exact h.zero j u (by omega) hu
  · rcases Nat.mod_two_eq_zero_or_one i with e | e
    · rw [show (i + 1) / 2 = i / 2 by omega, List.getElem?_set_self hp.1] at hu
      injection hu with hu
      rw [← hu, show (i + 1) % 2 = 1 by omega]
      rw [e] at ho' ⊢
      omega
    · rw [List.getElem?_set, if_neg (by omega)] at hu
      have := h.zero _ u (by omega) hu
      rw [this]; exact Nat.two_pow_pos _
  · have s1 := val_set 18446744073709551616 zs (i / 2) (o + v * 2 ^ (i % 2 * 32)) hp.1
    rw [hp.2] at s1
    have ht : val 4294967296 (xs.take (i + 1)) = val 4294967296 (xs.take i) + 4294967296 ^ i * v := by
      rw [val_take_succ _ xs i hi, (List.getElem?_eq_some_iff.1 hv).2]
    have e4 : 18446744073709551616 ^ (i / 2) * (v * 2 ^ (i % 2 * 32)) = 4294967296 ^ i * v := by
      have a1 : (18446744073709551616 : Nat) ^ (i / 2) = 2 ^ (64 * (i / 2)) := by rw [Nat.pow_mul]
      have a2 : (4294967296 : Nat) ^ i = 2 ^ (32 * i) := by rw [Nat.pow_mul]
      rw [a1, a2, Nat.mul_left_comm, ← Nat.pow_add, Nat.mul_comm v]
      congr 2; omega
    rw [ht, ← h.eq, ← e4]
    rw [Nat.mul_add] at s1
    omega

/-- How many words a number has, out of how many limbs. -/
theorem words_of_limbs (n : Nat) : (dig 18446744073709551616 n).length = ((dig 4294967296 n).length + 1) / 2 := by
  generalize hL : (dig 4294967296 n).length = L
  have h1 := dig_len_lt (b := 4294967296) (n := n) (by omega)
  rw [hL] at h1
  have e : (18446744073709551616 : Nat) = 4294967296 ^ 2 := by decide
  have h2 : (dig 18446744073709551616 n).length ≤ (L + 1) / 2 := by
    refine dig_len_le (by omega) (Nat.lt_of_lt_of_le h1 ?_)
    rw [e, ← Nat.pow_mul]
    exact Nat.pow_le_pow_right (by omega) (by omega)
  rcases Nat.eq_zero_or_pos L with h0 | h0
  · omega
  · have h3 := dig_len_ge (b := 4294967296) (n := n) (by omega) (by omega)
    rw [hL] at h3
    have h4 := dig_len_lt (b := 18446744073709551616) (n := n) (by omega)
    rcases Nat.lt_or_ge (dig 18446744073709551616 n).length ((L + 1) / 2) with h5 | h5
    · exfalso
      rw [e, ← Nat.pow_mul] at h4
      have := Nat.pow_le_pow_right (show 0 < 4294967296 by omega) (show 2 * (dig (4294967296 ^ 2) n).length ≤ L - 1 by rw [← e]; omega)
      omega
    · omega
theorem PackSt.fin {xs zs : List Nat} {K n : Nat} (h : PackSt xs K xs.length zs) (hx : xs = dig 4294967296 n) (hK : K = (xs.length + 1) / 2) : zs = dig 18446744073709551616 n := by
  have e := h.eq
  rw [List.take_length, hx, val_dig (by omega)] at e
  refine val_inj (b := 18446744073709551616) (by omega) ?_ h.low (low_dig (by omega) n) (by rw [e, val_dig (by omega)])
  rw [h.len, hK, hx, words_of_limbs]
end Go.Proofs.Num
namespace Go.Proofs.Num
/-- The limbs of words, two a word. -/
def limbs : List Nat → List Nat
  | [] => []
  | x :: xs => x % 4294967296 :: x / 4294967296 :: limbs xs
theorem limbs_len (xs : List Nat) : (limbs xs).length = 2 * xs.length := by
  induction xs with
  | nil => rfl
  | cons x xs ih => simp only [limbs, List.length_cons, ih]; omega
theorem limbs_append (xs ys : List Nat) : limbs (xs ++ ys) = limbs xs ++ limbs ys := by
  induction xs with
  | nil => rfl
  | cons x xs ih => simp only [List.cons_append, limbs, ih]
theorem limbs_val (xs : List Nat) : val 4294967296 (limbs xs) = val 18446744073709551616 xs := by
  induction xs with
  | nil => rfl
  | cons x xs ih =>
    simp only [limbs, val, ih]
    have := Nat.mod_add_div x 4294967296
    omega
theorem limbs_low {xs : List Nat} (h : Low 18446744073709551616 xs) : Low 4294967296 (limbs xs) := by
  induction xs with
  | nil => exact Low.nil _
  | cons x xs ih =>
    have hx := h.head
    exact Low.cons (Nat.mod_lt _ (by omega)) (Low.cons (by omega) (ih h.tail))
theorem limbs_take_succ {xs : List Nat} {k v : Nat} (h : xs[k]? = some v) : limbs (xs.take (k + 1)) = limbs (xs.take k) ++ [v % 4294967296, v / 4294967296] := by
  have hk := (List.getElem?_eq_some_iff.1 h).1
  rw [List.take_succ_eq_append_getElem hk, limbs_append, (List.getElem?_eq_some_iff.1 h).2]; rfl
/-- The limbs of a number's words are its limbs, or those and a 0. -/
theorem limbs_dig (n : Nat) : limbs (dig 18446744073709551616 n) = dig 4294967296 n ∨ limbs (dig 18446744073709551616 n) = dig 4294967296 n ++ [0] := by
  have e := words_of_limbs n
  have l := limbs_len (dig 18446744073709551616 n)
  have v := limbs_val (dig 18446744073709551616 n)
  rw [val_dig (by omega)] at v
  have lo := limbs_low (low_dig (b := 18446744073709551616) (by omega) n)
  by_cases h : 2 * (dig 18446744073709551616 n).length = (dig 4294967296 n).length
  · left
    exact val_inj (b := 4294967296) (by omega) (by omega) lo (low_dig (by omega) n) (by rw [v, val_dig (by omega)])
  · right
    refine val_inj (b := 4294967296) (by omega) (by simp; omega) lo ((low_dig (by omega) n).append (Low.cons (by omega) (Low.nil _))) ?_
    rw [v, val_append, val_dig (by omega)]; simp [val]
end Go.Proofs.Num
namespace Go.Proofs.Num
theorem nbits_limbs {n L v : Nat} (hL : (dig 4294967296 n).length = L + 1) (hv : (dig 4294967296 n)[L]? = some v) : nbits n = 32 * L + nbits v := by
  have e := dig_getElem? (b := 4294967296) (by omega) hv
  have h1 := dig_len_lt (b := 4294967296) (n := n) (by omega)
  have h2 := dig_len_ge (b := 4294967296) (n := n) (by omega) (by omega)
  rw [hL] at h1 h2
  simp only [Nat.add_sub_cancel] at h2
  have hp : 0 < 4294967296 ^ L := Nat.pow_pos (by omega)
  have h3 : n / 4294967296 ^ L < 4294967296 := by
    rw [Nat.div_lt_iff_lt_mul hp, Nat.mul_comm, ← Nat.pow_succ]; exact h1
  have h4 : n / 4294967296 ^ L ≠ 0 := by
    intro h0
    rcases Nat.div_eq_zero_iff.1 h0 with h | h <;> omega
  rw [Nat.mod_eq_of_lt h3] at e
  have e1 : (2 : Nat) ^ (32 * L) = 4294967296 ^ L := by rw [Nat.pow_mul]
  rw [e, ← e1]
  refine nbits_shift ?_
  rw [e1]; exact h4
theorem nbits_half {v : Nat} (h : v ≠ 0) : nbits v = nbits (v / 2) + 1 := by
  by_cases h2 : v / 2 = 0
  · have : v = 1 := by omega
    subst this; decide
  · rw [nbits_shift (n := v) (k := 1) (by simpa using h2)]; simp; omega
theorem shr_ne {v i : Nat} : v / 2 ^ i ≠ 0 ↔ i < nbits v := by
  constructor
  · intro h
    rcases Nat.lt_or_ge i (nbits v) with h1 | h1
    · exact h1
    · exact absurd (Nat.div_eq_of_lt (lt_of_nbits h1)) h
  · intro h h0
    have hv : v ≠ 0 := by rintro rfl; simp [nbits] at h
    have h1 := nbits_ge hv
    have h2 := Nat.pow_le_pow_right (show 0 < 2 by omega) (show i ≤ nbits v - 1 by omega)
    rcases Nat.div_eq_zero_iff.1 h0 with h3 | h3
    · have := Nat.two_pow_pos i; omega
    · omega
end Go.Proofs.Num

namespace Go.Proofs.Ythgekjkgfccnaaa
open Go.RowKit Num

/-- A number is returned; nothing that was there has turned. -/
def NumPost (w : World) (n : Nat) (e : Ending) (w' : World) : Prop := ∃ v, e = .returned v ∧ W64 w' v n ∧ Below w.heap.size w w'
theorem w64_nil (w : World) : W64 w (.slice none 0 0) 0 := ⟨none, 0, by rw [dig_zero]; rfl, by rw [dig_zero]; exact Nat.le_refl _, by rw [dig_zero]; exact Nums.nil⟩
theorem SumPost.num {w w' : World} {n : Nat} {e : Ending} (h : SumPost w n e w') : NumPost w n e w' := by
  obtain ⟨v, h1, h2, h3⟩ := h
  exact ⟨v, h1, h2.is, h3⟩

set_option maxHeartbeats 1000000 in
set_option maxRecDepth 100000 in
theorem shiftRight_any (a : Value) (n f : Nat) (w : World) (ha : W64 w a n) (hl : (dig B64 n).length ≤ 100000000000) (hf : f ≤ 10000000000000) :
    Calls Try.prog 73 #[a, .int .i64 (f : Int)] w (NumPost w (n / 2 ^ f)) := by
  obtain ⟨A, c, rfl, _, hA⟩ := ha
  generalize hL : (dig B64 n).length = L at *
  have e1 : (f : Int) / 64 = ((f / 64 : Nat) : Int) := by omega
  have hfw : n / 2 ^ f = n / B64 ^ (f / 64) / 2 ^ (f % 64) := by
    rw [← pow_b64, Nat.div_div_eq_div_mul, ← Nat.pow_add]; congr 2; omega
  by_cases hw : f / 64 < L
  · have hq : n / 2 ^ f < B64 ^ (L - f / 64) := by
      have h1 := dig_len_lt b64_two (n := n)
      rw [hL, show L = f / 64 + (L - f / 64) by omega, Nat.pow_add] at h1
      have h2 : n / B64 ^ (f / 64) < B64 ^ (L - f / 64) := by rw [Nat.div_lt_iff_lt_mul (Nat.pow_pos b64_pos), Nat.mul_comm]; exact h1
      rw [hfw]
      exact Nat.lt_of_le_of_lt (Nat.div_le_self _ _) h2
    have hdig : ∀ k, n / 2 ^ (f + 64 * k) % B64 = n / 2 ^ f / B64 ^ k % B64 := fun k => by
      rw [Nat.pow_add, ← Nat.div_div_eq_div_mul, pow_b64]
    generalize hK : L - f / 64 = K at *
    have hwh : ((L : Int) - ((f / 64 : Nat) : Int)) = (K : Int) := by omega
    have hmk := make64 K (by omega)
    have hr0 := Row.made w .u64 K 55
    have hbA : Below w.heap.size w (w.alloc (.cells (madeCells #[.int .u64 0] K) 55)) := (Below.refl _ _).alloc (Nat.le_refl _) _
    have hst0 := ShrSt.start b64_two (n / 2 ^ f) K
    generalize n / 2 ^ f = q at *
    have HD := Lib.hid hdig
    have HQ := Lib.hid hq
    have HL := Lib.hid hL
    have HK := Lib.hid hK
    have HR0 := Lib.hid hr0
    have HFW := Lib.hid hfw
    clear hdig hq hL hr0 hK hfw
    generalize f / 64 = wh at *
    have hwb : decide (L ≤ wh) = false := decide_eq_false (by omega)
    have hwi : ¬ L ≤ wh := by omega
    go_enter Try.func73, Try.ntmps73
    go_wp2
    go_loopw [21] (fun t wr => ∃ (k : Nat) (zs : List Nat), k ≤ K ∧ t = .int .i64 (k : Int) ∧ ShrSt B64 q K k zs ∧ Row .u64 55 wr w.heap.size zs ∧ Below w.heap.size w wr) (fun t _ => K - (intOf t).toNat)
    case atStart => exact ⟨0, _, Nat.zero_le _, rfl, hst0, HR0.out, hbA⟩
    case round =>
      clear hst0 HR0 hbA hmk
      obtain ⟨k, zs, hk, rfl, hst, hrow, hbl⟩ := hrel
      by_cases hlt : k < K
      · obtain ⟨v, hv⟩ : ∃ v, n / 2 ^ (f + 64 * k) % B64 = v := ⟨_, rfl⟩
        have hwin := window_any A c L n (f + 64 * k) wr (hA.keep hbl) HL.out.symm (by omega) (by omega)
        rw [hv] at hwin
        push_cast at hwin
        have hst' := hst.step b64_two (v := v) (by rw [← hv, HD.out])
        obtain ⟨u, hu⟩ : ∃ u, zs[k]? = some u := ⟨zs[k]'(by have := hst.len; omega), List.getElem?_eq_getElem _⟩
        have hcu := hrow.cell hu
        have hfu := hrow.frozen k
        have hrow' := hrow.set k v
        have HV := Lib.hid hv
        have HU := Lib.hid hu
        have HW := Lib.hid hwin
        clear hv hu hwin
        go_wp2_with (go_at_call 54; refine HW.out.mono ?_; rintro e w1 ⟨rfl, rfl⟩)
        go_roundw
        case rel => exact ⟨k + 1, _, by omega, by go_num, hst', hrow', below_set hbl (Nat.le_refl _) _⟩
        case measure => simp [intOf]; omega
      · have hkL : k = K := by omega
        subst hkL
        clear hlt
        have hn := hrow.nums0 zs.length
        rw [List.take_length] at hn
        have HLEN := Lib.hid hst.len
        have hfin := hst.fin b64_two HQ.out
        have HF := Lib.hid hfin
        clear hfin
        go_wp2_with (go_at_call 69
                     refine (trim_any _ k k zs _ hn hst.low HLEN.out.symm (Nat.le_refl _) (by omega)).mono ?_
                     rintro e w1 ⟨rfl, rfl⟩)
        go_ret
        rw [← HF.out]
        have := (own_of_trim b64_two hrow hst.low (Nat.le_refl w.heap.size)).is
        rw [HLEN.out] at this
        exact ⟨_, rfl, this, hbl⟩
  · have hq : n / 2 ^ f = 0 := by
      rw [hfw, div_pow_len b64_two (by rw [hL]; omega)]; simp
    rw [hq]
    clear hq hfw hL
    generalize f / 64 = wh at *
    have hwi : (L : Int) ≤ (wh : Int) := by omega
    go_enter Try.func73, Try.ntmps73
    go_wp2
    go_ret
    exact ⟨_, rfl, w64_nil _, Below.refl _ _⟩
end Go.Proofs.Ythgekjkgfccnaaa

namespace Go.Proofs.Ythgekjkgfccnaaa
open Go.RowKit Num

set_option maxHeartbeats 1000000 in
set_option maxRecDepth 100000 in
theorem shiftLeft_any (a : Value) (n f : Nat) (w : World) (ha : W64 w a n) (hl : (dig B64 n).length ≤ 100000000000) (hf : f ≤ 10000000000000) :
    Calls Try.prog 72 #[a, .int .i64 (f : Int)] w (SumPost w (n * 2 ^ f)) := by
  obtain ⟨A, c, rfl, _, hA⟩ := ha
  obtain ⟨xs, hxs⟩ : ∃ xs, dig B64 n = xs := ⟨_, rfl⟩
  have hlow := dig_low64 n
  have hval := val_dig b64_two n
  rw [hxs] at hlow hval hl hA ⊢
  obtain ⟨L, hL⟩ : ∃ L, xs.length = L := ⟨_, rfl⟩
  rw [hL] at hl ⊢
  obtain ⟨wh, s, hs, rfl⟩ : ∃ wh s, s < 64 ∧ f = 64 * wh + s := ⟨f / 64, f % 64, Nat.mod_lt _ (by omega), by omega⟩
  have e1 : ((64 * wh + s : Nat) : Int) / 64 = (wh : Int) := by omega
  have e2 : ((64 * wh + s : Nat) : Int) % 64 = (s : Int) := by omega
  have hwh : wh ≤ 10000000000000 := by omega
  have hst0 := ShlSt.start xs wh s
  rw [hL] at hst0
  have hmk := make64 (L + wh + 1) (by omega)
  push_cast at hmk
  have hr0 := Row.made w .u64 (L + wh + 1) 55
  have hbA : Below w.heap.size w (w.alloc (.cells (madeCells #[.int .u64 0] (L + wh + 1)) 55)) := (Below.refl _ _).alloc (Nat.le_refl _) _
  have HXS := Lib.hid hxs
  have HL := Lib.hid hL
  have HVAL := Lib.hid hval
  have HR0 := Lib.hid hr0
  clear hxs hL hval hr0
  generalize hF : ((64 * wh + s : Nat) : Int) = F at *
  have hF0 : 0 ≤ F := by omega
  have hF1 : F ≤ 10000000000000 := by omega
  clear hF
  go_enter Try.func72, Try.ntmps72
  go_wp2
  go_loopw [23] (fun t wr => ∃ (k : Nat) (zs : List Nat), k ≤ L ∧ t = .int .i64 (k : Int) ∧ ShlSt xs wh s k zs ∧ Row .u64 55 wr w.heap.size zs ∧ Below w.heap.size w wr) (fun t _ => L - (intOf t).toNat)
  case atStart => exact ⟨0, _, Nat.zero_le _, rfl, hst0, HR0.out, hbA⟩
  case round =>
    clear hst0 HR0 hbA hmk
    obtain ⟨k, zs, hk, rfl, hst, hrow, hbl⟩ := hrel
    by_cases hlt : k < L
    · obtain ⟨q, qo, v, rfl, hq, hv, hcv⟩ := (hA.keep hbl).at_ (i := k) (by have := HL.out; omega)
      have hvl : v < B64 := hlow v (List.mem_of_getElem? hv)
      have hlen := hst.len
      rw [HL.out] at hlen
      obtain ⟨o, ho⟩ : ∃ o, zs[wh + k]? = some o := ⟨zs[wh + k]'(by omega), List.getElem?_eq_getElem _⟩
      have hst' := hst.step hs (by have := HL.out; omega) hv hvl ho
      have hor := or_shl o v s (hst.head o ho) hs
      have hco := hrow.cell ho
      have hfo := hrow.frozen (wh + k)
      generalize o + v * 2 ^ s % 18446744073709551616 = nv at *
      have hrow1 := hrow.set (wh + k) nv
      obtain ⟨z, hz⟩ : ∃ z, (zs.set (wh + k) nv)[wh + k + 1]? = some z := ⟨(zs.set (wh + k) nv)[wh + k + 1]'(by rw [List.length_set]; omega), List.getElem?_eq_getElem _⟩
      have hcz := hrow1.cell hz
      have hfz := hrow1.frozen (wh + k + 1)
      have hdv : (v : Int) / 2 ^ (64 - s) = ((v / 2 ^ (64 - s) : Nat) : Int) := by push_cast; rfl
      generalize v / 2 ^ (64 - s) = u at *
      have hrow2 := hrow1.set (wh + k + 1) u
      have HV := Lib.hid hv
      have HO := Lib.hid ho
      have HZ := Lib.hid hz
      have HLEN := Lib.hid hlen
      have H2 := Lib.hid hrow2
      have HS2 := Lib.hid hst'
      clear hv ho hz hA hvl hlow hlen hrow2 hst' hrow1
      go_wp2
      go_region
      go_wp2
      go_roundw
      case rel => exact ⟨k + 1, _, by omega, by go_num, HS2.out, H2.out, (below_set (below_set hbl (Nat.le_refl _) _) (Nat.le_refl _) _).drew⟩
      case measure => simp [intOf]; omega
    · have hkL : k = L := by omega
      subst hkL
      clear hlt
      have hn := hrow.nums0 zs.length
      rw [List.take_length] at hn
      have hlen := hst.len
      rw [HL.out] at hlen
      have HLEN := Lib.hid hlen
      have hfin := hst.eq
      have HF := Lib.hid hfin
      clear hfin hlen hA
      go_wp2_with (go_at_call 69
                   refine (trim_any _ (k + wh + 1) (k + wh + 1) zs _ hn hst.low HLEN.out.symm (Nat.le_refl _) (by omega)).mono ?_
                   rintro e w1 ⟨rfl, rfl⟩)
      go_ret
      have hfin := HF.out
      rw [List.take_of_length_le (by rw [HL.out]; exact Nat.le_refl _)] at hfin
      have hv : n * 2 ^ (64 * wh + s) = val B64 zs := by rw [← HVAL.out]; exact hfin.symm
      rw [hv]
      have := own_of_trim b64_two hrow hst.low (Nat.le_refl w.heap.size)
      rw [HLEN.out] at this
      exact ⟨_, rfl, this, hbl⟩
end Go.Proofs.Ythgekjkgfccnaaa

namespace Go.Proofs.Ythgekjkgfccnaaa
open Go.RowKit Num

set_option maxHeartbeats 1000000 in
set_option maxRecDepth 100000 in
theorem fromNat_any (a : Value) (n : Nat) (w : World) (ha : N32 w a n) (hl : (dig B32 n).length ≤ 100000000000) :
    Calls Try.prog 49 #[a] w (SumPost w n) := by
  obtain ⟨A, c, rfl, _, hA⟩ := ha
  obtain ⟨xs, hxs⟩ : ∃ xs, dig B32 n = xs := ⟨_, rfl⟩
  have hlow := low_dig b32_two n
  rw [hxs] at hlow hl hA ⊢
  obtain ⟨L, hL⟩ : ∃ L, xs.length = L := ⟨_, rfl⟩
  rw [hL] at hl ⊢
  obtain ⟨K, hK⟩ : ∃ K, (L + 1) / 2 = K := ⟨_, rfl⟩
  have hK' : ((L : Int) + 1) / 2 = (K : Int) := by omega
  have hst0 := PackSt.start xs K
  have hmk := make64 K (by omega)
  have hr0 := Row.made w .u64 K 55
  have hbA : Below w.heap.size w (w.alloc (.cells (madeCells #[.int .u64 0] K) 55)) := (Below.refl _ _).alloc (Nat.le_refl _) _
  have HXS := Lib.hid hxs
  have HL := Lib.hid hL
  have HR0 := Lib.hid hr0
  have HK := Lib.hid hK
  clear hxs hL hr0 hK
  go_enter Try.func49, Try.ntmps49
  go_wp2
  go_loopw [13] (fun t wr => ∃ (k : Nat) (zs : List Nat), k ≤ L ∧ t = .int .i64 (k : Int) ∧ PackSt xs K k zs ∧ Row .u64 55 wr w.heap.size zs ∧ Below w.heap.size w wr) (fun t _ => L - (intOf t).toNat)
  case atStart => exact ⟨0, _, Nat.zero_le _, rfl, hst0, HR0.out, hbA⟩
  case round =>
    clear hst0 HR0 hbA hmk
    obtain ⟨k, zs, hk, rfl, hst, hrow, hbl⟩ := hrel
    by_cases hlt : k < L
    · obtain ⟨q, qo, v, rfl, hq, hv, hcv⟩ := (hA.keep hbl).at_ (i := k) (by have := HL.out; omega)
      have hvl : v < B32 := hlow v (List.mem_of_getElem? hv)
      have hlen := hst.len
      have hkK : k / 2 < K := by have := HK.out; omega
      obtain ⟨o, ho⟩ : ∃ o, zs[k / 2]? = some o := ⟨zs[k / 2]'(by omega), List.getElem?_eq_getElem _⟩
      have hst' := hst.step hv hvl ho
      have hor := or_shl o v (k % 2 * 32) (hst.head o ho) (by omega)
      have hco := hrow.cell ho
      have hfo := hrow.frozen (k / 2)
      have hwv : IntKind.u64.wrap (v : Int) = (v : Int) := by rw [IntKind.wrap_u64]; unfold B32 at hvl; omega
      generalize o + v * 2 ^ (k % 2 * 32) % 18446744073709551616 = nv at *
      have hrow1 := hrow.set (k / 2) nv
      have hk2 : (k : Int) / 2 = ((k / 2 : Nat) : Int) := by omega
      have hs2 : (k : Int) % 2 * 32 = ((k % 2 * 32 : Nat) : Int) := by omega
      have hs3 : k % 2 * 32 < 64 := by omega
      generalize k % 2 * 32 = s at *
      generalize k / 2 = q2 at *
      have HV := Lib.hid hv
      have HO := Lib.hid ho
      have HLEN := Lib.hid hlen
      have H1 := Lib.hid hrow1
      have HS2 := Lib.hid hst'
      clear hv ho hA hvl hlow hlen hst' hrow1
      go_wp2
      go_region
      go_wp2
      go_roundw
      case rel => exact ⟨k + 1, _, by omega, by go_num, HS2.out, H1.out, (below_set hbl (Nat.le_refl _) _).drew⟩
      case measure => simp [intOf]; omega
    · have hkL : k = L := by omega
      subst hkL
      clear hlt hA
      have hz : zs = dig B64 n := by
        have h1 := hst
        rw [← HL.out] at h1
        exact h1.fin HXS.out.symm (by rw [HL.out]; exact HK.out.symm)
      have hlen := hst.len
      have HZ := Lib.hid hz
      have HLEN := Lib.hid hlen
      clear hz hlen
      go_wp2
      go_ret
      refine ⟨_, rfl, ⟨w.heap.size, K, zs, ?_, ?_, HLEN.out.symm, Nat.le_refl _, hrow, hst.low, ?_⟩, hbl⟩
      · rw [← HZ.out, HLEN.out]; rfl
      · rw [← HZ.out, HLEN.out]; exact Nat.le_refl _
      · rw [← HZ.out, List.take_length]
end Go.Proofs.Ythgekjkgfccnaaa

namespace Go.Proofs.Ythgekjkgfccnaaa
open Go.RowKit Num

/-- A Nat of the call's own: at the head of a row of limbs in a block from B on. -/
def OwnL (B : Nat) (w : World) (v : Value) (n : Nat) : Prop := w.ownsRow B 101 1 v (dig B32 n).length (ints .u32 (dig B32 n))

theorem ints_len (k : IntKind) (zs : List Nat) : (ints k zs).length = zs.length := by simp [ints]

theorem own_reads {w : World} {B : Nat} {v : Value} {xs : List Nat} (h : w.ownsRow B 101 1 v xs.length (ints .u32 xs)) : ∃ A c, v = .slice A xs.length c ∧ xs.length ≤ c ∧ Nums .u32 w A xs := by
  rcases h.2 with ⟨rfl, h0⟩ | ⟨g, cap, cur, rfl, _, hh, hnc, _, hsz, ht⟩
  · have : xs = [] := List.eq_nil_of_length_eq_zero h0
    subst this
    exact ⟨none, 0, rfl, Nat.le_refl _, Nums.nil⟩
  · refine ⟨_, cap, rfl, hnc, fun _ => ⟨g, 0, rfl, (Array.getElem?_eq_some_iff.1 hh).1, fun i v hv => ?_⟩⟩
    have hi := (List.getElem?_eq_some_iff.1 hv).1
    have : (cur.toList.take (xs.length * 1))[i]? = some (.int .u32 (v : Int)) := by rw [ht]; simp [ints, hv]
    rw [List.getElem?_take, if_pos (by omega)] at this
    simp only [World.cell?, hh, Nat.zero_add]
    simpa using this
theorem OwnL.is {B : Nat} {w : World} {v : Value} {n : Nat} (h : OwnL B w v n) : N32 w v n := own_reads h

/-- A Nat is returned; nothing that was there has turned. -/
def NatPost (w : World) (n : Nat) (e : Ending) (w' : World) : Prop := ∃ v, e = .returned v ∧ OwnL w.heap.size w' v n ∧ Below w.heap.size w w'

theorem own_cut {w : World} {B : Nat} {g n cap : Nat} {xs : List Value} (h : w.ownsRow B 101 1 (.slice (some ⟨g, 0, none⟩) n cap) n xs) (m : Nat) (hm : m ≤ n) : w.ownsRow B 101 1 (.slice (some ⟨g, 0, none⟩) m cap) m (xs.take m) := by
  obtain ⟨h1, h2⟩ := h
  rcases h2 with ⟨h3, _⟩ | ⟨g', cap', cur, hv, hg, hh, hnc, hcm, hsz, ht⟩
  · cases h3
  · injection hv with e1 e2 e3
    injection e1 with e1
    injection e1 with e1
    subst e1 e3
    refine ⟨by simp; omega, .inr ⟨g, cap, cur, rfl, hg, hh, by omega, hcm, hsz, ?_⟩⟩
    rw [← ht, List.take_take, Nat.min_eq_left (by omega), Nat.mul_one]

set_option maxHeartbeats 1000000 in
set_option maxRecDepth 100000 in
theorem nat_any (a : Value) (n : Nat) (w : World) (ha : W64 w a n) (hl : (dig B64 n).length ≤ 10000000000) :
    Calls Try.prog 50 #[a] w (NatPost w n) := by
  obtain ⟨A, c, rfl, _, hA⟩ := ha
  obtain ⟨xs, hxs⟩ : ∃ xs, dig B64 n = xs := ⟨_, rfl⟩
  have hlow := low_dig b64_two n
  rw [hxs] at hlow hl hA ⊢
  obtain ⟨L, hL⟩ : ∃ L, xs.length = L := ⟨_, rfl⟩
  rw [hL] at hl ⊢
  have HXS := Lib.hid hxs
  have HL := Lib.hid hL
  clear hxs hL
  obtain ⟨i0, hi, hz0, hz1, hz2⟩ := info_parts info101
  go_enter Try.func50, Try.ntmps50
  go_wp2_with (at_make; refine wpList_make_own _ rfl _ _ 48 rfl w.heap.size 101 i0 (.int .u32 0) 1 Try.underlying48 hi hz0 hz1 _ _ _ (2 * L) rfl rfl (by omega) ?b2 ?b3 (Nat.le_refl _) ?_)
  case b2 => rw [hz2]; omega
  case b3 => unfold maxLen; omega
  intro w0 hown0 hgrow0
  go_wp2
  go_loopw [3, 13] (fun x t wr => ∃ (k m : Nat), k ≤ L ∧ m = 2 * k ∧ x = .slice (some ⟨w.heap.size, 0, none⟩) m (2 * L) ∧ t = .int .i64 (k : Int) ∧ wr.ownsRow w.heap.size 101 1 (.slice (some ⟨w.heap.size, 0, none⟩) m (2 * L)) m (ints .u32 (limbs (xs.take k))) ∧ Below w.heap.size w wr)
    (fun _ t _ => L - (intOf t).toNat)
  case atStart => exact ⟨0, 0, Nat.zero_le _, rfl, rfl, rfl, hown0, (Below.refl _ _).grown hgrow0 (Nat.le_refl _) (fun k h => by cases h)⟩
  case round =>
    clear hown0 hgrow0
    obtain ⟨k, m, hk, hm, rfl, rfl, hown, hbl⟩ := hrel
    have HM := Lib.hid hm
    by_cases hlt : k < L
    · obtain ⟨q, qo, v, rfl, hq, hv, hcv⟩ := (hA.keep hbl).at_ (i := k) (by have := HL.out; omega)
      have hvl : v < B64 := hlow v (List.mem_of_getElem? hv)
      have hlim := limbs_take_succ hv
      obtain ⟨lo, hlo⟩ : ∃ lo, v % 4294967296 = lo := ⟨_, rfl⟩
      obtain ⟨hi', hhi⟩ : ∃ hi', v / 4294967296 = hi' := ⟨_, rfl⟩
      rw [hlo, hhi] at hlim
      have hw1 : IntKind.u32.wrap (v : Int) = (lo : Int) := by rw [IntKind.wrap_u32']; omega
      have hw2 : IntKind.u32.wrap ((v : Int) / 4294967296) = (hi' : Int) := by rw [IntKind.wrap_u32']; unfold B64 at hvl; omega
      have HV := Lib.hid hv
      have HLIM := Lib.hid hlim
      have H1 := Lib.hid hlo
      have H2 := Lib.hid hhi
      have hm1 : m + 2 ≤ 2 * L := by omega
      have hm2 : m ≤ 100000000000 := by omega
      clear hv hlim hlo hhi hA hvl hlow hm
      go_wp2_with (at_builtin
                   refine wpList_append_fits _ rfl (.tmp 17) (.tmp 23) 48 rfl w.heap.size 101 i0 1 Try.underlying48 hi hz1 w.heap.size m (2 * L) _ rfl (hown.alloc _) ⟨wr.heap.size, 0, none⟩ 2 2 [.int .u32 (lo : Int), .int .u32 (hi' : Int)] rfl rfl ?c1 ?c2 hm1 ?_)
      case c1 =>
        intro t u ht
        match t, ht with
        | 0, ht => simp at ht; subst ht; simp [Addr.add]
        | 1, ht => simp at ht; subst ht; simp [Addr.add]
      case c2 =>
        intro u hu
        simp at hu
        rcases hu with rfl | rfl <;> rfl
      intro w1 hown1 hgrow1
      have hb1 : Below w.heap.size w w1 := (hbl.alloc hbl.size _).grown hgrow1 (Nat.le_trans hbl.size (by simp)) (by simp)
      have H3 := Lib.hid hown1
      clear hown1 hown
      go_wp2
      go_roundw
      case rel =>
        refine ⟨k + 1, m + 2, by omega, by have := HM.out; omega, rfl, by go_num, ?_, hb1⟩
        have := H3.out
        rw [HLIM.out]
        simpa [ints] using this
      case measure => simp [intOf]; omega
    · have hkL : k = L := by omega
      subst hkL
      clear hlt hA
      rw [List.take_of_length_le (by rw [HL.out]; exact Nat.le_refl _)] at hown
      have hm2 : m ≤ 100000000000 := by omega
      have hll := limbs_len xs
      rw [HL.out] at hll
      obtain ⟨ys, hys⟩ : ∃ ys, dig B32 n = ys := ⟨_, rfl⟩
      have hneat := neat_dig b32_two n
      have hor : limbs xs = ys ∨ limbs xs = ys ++ [0] := by rw [← hys, ← HXS.out]; exact limbs_dig n
      rw [hys] at hneat
      have hmk : m = 2 * k := hm
      rw [← hmk] at hown ⊢
      have hread : wr.ownsRow w.heap.size 101 1 (.slice (some ⟨w.heap.size, 0, none⟩) m m) (limbs xs).length (ints .u32 (limbs xs)) := by rw [hll, ← hm]; exact hown
      obtain ⟨A', c', hsl, hcl, hnum⟩ := own_reads hread
      have HYS := Lib.hid hys
      have HLL := Lib.hid hll
      have HOWN := Lib.hid hown
      clear hread hown hys hmk
      by_cases hm0 : m = 0
      · have hy0 : ys = [] := by
          rcases hor with h | h
          · exact List.eq_nil_of_length_eq_zero (by rw [← h, HLL.out]; omega)
          · have := congrArg List.length h
            rw [HLL.out] at this; simp at this; omega
        have HY0 := Lib.hid hy0
        have HM0 := Lib.hid hm0
        have HOR := Lib.hid hor
        have hp : ¬ 0 < m := by omega
        clear hy0 hor hsl hnum hm0 hm hll
        go_wp2
        go_ret
        refine ⟨_, rfl, ?_, hbl⟩
        have h2 := HOWN.out
        have hl0 : limbs xs = [] := List.eq_nil_of_length_eq_zero (by rw [HLL.out]; have := HM.out; have := HM0.out; omega)
        unfold OwnL
        rw [HYS.out, HY0.out]
        rw [hl0, HM0.out] at h2
        rw [HM0.out]
        exact h2
      · have hlm : m - 1 < (limbs xs).length := by rw [hll]; omega
        obtain ⟨g, off, u, hA', hg, hu, hcu⟩ := hnum.at_ hlm
        rw [hA'] at hsl
        injection hsl with e1 e2 e3
        injection e1 with e1
        injection e1 with e4 e5 e6
        subst e4 e5
        rw [Nat.zero_add] at hcu
        have hmu : (m : Int) - 1 = ((m - 1 : Nat) : Int) := by omega
        have HMU := Lib.hid hmu
        have hp : 0 < m := by omega
        by_cases hu0 : u = 0
        · have hq0 : ((u : Int) == 0) = true := by simp [hu0]
          have hys' : limbs xs = ys ++ [0] := by
            rcases hor with h | h
            · exfalso
              rw [h] at hu hlm
              have := (neat_iff ys).1 hneat (by omega)
              have hlen : ys.length = m := by rw [← h, hll]; omega
              have h3 := (List.getElem?_eq_some_iff.1 hu).2
              simp only [hlen] at this
              exact this (h3.trans hu0)
            · exact h
          have hyl : ys.length = m - 1 := by
            have := congrArg List.length hys'
            rw [hll] at this; simp at this; omega
          have HY := Lib.hid hys'
          have HYL := Lib.hid hyl
          have HU := Lib.hid hu
          have HE := Lib.hid e3
          have HU0 := Lib.hid hu0
          have HOR := Lib.hid hor
          clear hys' hyl hu e3 hu0 hor hmu hm hll e2 hA' hnum hm0
          go_wp2
          go_ret
          refine ⟨_, rfl, ?_, hbl⟩
          have h2 := own_cut HOWN.out (m - 1) (by omega)
          unfold OwnL
          rw [HYS.out, HYL.out]
          rw [HY.out] at h2
          have h3 : (ints .u32 (ys ++ [0])).take (m - 1) = ints .u32 ys := by
            simp only [ints, List.map_append]
            rw [List.take_left']
            simp [HYL.out]
          rw [h3] at h2
          exact h2
        · have hq0 : ((u : Int) == 0) = false := by simp [hu0]
          have hys' : limbs xs = ys := by
            rcases hor with h | h
            · exact h
            · exfalso
              have hlen : ys.length + 1 = m := by have := congrArg List.length h; rw [hll] at this; simp at this; omega
              rw [h, List.getElem?_append_right (by omega), show m - 1 - ys.length = 0 by omega] at hu
              simp at hu
              exact hu0 hu.symm
          have hyl : ys.length = m := by rw [← hys', hll]; omega
          have HY := Lib.hid hys'
          have HYL := Lib.hid hyl
          have HU := Lib.hid hu
          have HE := Lib.hid e3
          have HU0 := Lib.hid hu0
          have HOR := Lib.hid hor
          clear hys' hyl hu e3 hu0 hor hmu hm hll e2 hA' hnum hm0
          go_wp2
          go_ret
          refine ⟨_, rfl, ?_, hbl⟩
          have h2 := HOWN.out
          unfold OwnL
          rw [HYS.out, HYL.out]
          rw [HY.out] at h2
          exact h2
end Go.Proofs.Ythgekjkgfccnaaa

namespace Go.Proofs.Ythgekjkgfccnaaa
open Go.RowKit Num

/-- A sum of words that fits a word. -/
theorem wrap_in (a b : Nat) (h : a + b < B64) : IntKind.u64.wrap ((a : Int) + (b : Int)) = ((a + b : Nat) : Int) := by
  rw [IntKind.wrap_u64]; unfold B64 at h; omega
theorem wrap_ex (a b : Nat) (h : a + b < B64) : ∃ s : Nat, IntKind.u64.wrap ((a : Int) + (b : Int)) = (s : Int) ∧ s = a + b := ⟨_, wrap_in a b h, rfl⟩

/-- One step of a scaled sum: what the calls give. -/
theorem scale_ex (v x m c : Nat) (hv : v < B64) (hx : x < B64) (hm : m < B64) (hc : c < B64) : ∃ hi lo low c1 h2 lo2 c2 over : Nat,
    (∀ w, Calls Try.prog 87 #[.int .u64 (x : Int), .int .u64 (m : Int)] w fun e w' => e = .returned (.tuple #[.int .u64 (hi : Int), .int .u64 (lo : Int)]) ∧ w = w') ∧
    (∀ w, (callFunc 107 #[.int .u64 (lo : Int), .int .u64 (v : Int), .int .u64 0]).run Try.prog w = .ok (.value (.tuple #[.int .u64 (low : Int), .int .u64 (c1 : Int)])) w) ∧
    IntKind.u64.wrap ((hi : Int) + (c1 : Int)) = (h2 : Int) ∧
    (∀ w, (callFunc 107 #[.int .u64 (low : Int), .int .u64 (c : Int), .int .u64 0]).run Try.prog w = .ok (.value (.tuple #[.int .u64 (lo2 : Int), .int .u64 (c2 : Int)])) w) ∧
    IntKind.u64.wrap ((h2 : Int) + (c2 : Int)) = (over : Int) ∧
    lo2 + B64 * over = v + x * m + c ∧ lo2 < B64 ∧ over < B64 := by
  obtain ⟨hi, lo, h1, e1, l1, g1⟩ := mul64_ex x m hx hm
  obtain ⟨low, c1, h2, e2, l2, g2⟩ := add64_ex0 lo v l1 hv
  obtain ⟨lo2, c2, h3, e3, l3, g3⟩ := add64_ex0 low c l2 hc
  have e : lo2 + B64 * (hi + c1 + c2) = v + x * m + c := by
    rw [Nat.mul_add, Nat.mul_add]; omega
  have hb := word_bound hv hx hm hc e
  exact ⟨hi, lo, low, c1, hi + c1, lo2, c2, hi + c1 + c2, h1, h2, wrap_in _ _ (by omega), h3, wrap_in _ _ hb, e, l3, hb⟩

def ScalePost (zs xs : List Nat) (m g off : Nat) (w : World) (e : Ending) (w' : World) : Prop :=
  ∃ zs' c, e = .returned (.int .u64 ((c : Nat) : Int)) ∧ ScaleSt B64 zs xs m off xs.length zs' c ∧ Row .u64 55 w' g zs' ∧ w.grownBy w' (some g)

set_option maxHeartbeats 1000000 in
set_option maxRecDepth 100000 in
theorem addScaled_any (g off n c d L m : Nat) (zs xs : List Nat) (A : Option Addr) (w : World) (hr : Row .u64 55 w g zs) (hz : Low B64 zs) (hA : Nums .u64 w A xs) (hx : Low B64 xs)
    (hAg : 0 < xs.length → ∀ a, A = some a → a.block ≠ g) (hL : L = xs.length) (hn : off + L ≤ zs.length) (hm : m < B64) (hle : L ≤ n) (hnc : n ≤ c) (hbig : n ≤ 1000000000000) :
    Calls Try.prog 113 #[.slice (some ⟨g, off, none⟩) n c, .slice A L d, .int .u64 (m : Int)] w (ScalePost zs xs m g off w) := by
  have HL := Lib.hid hL
  clear hL
  go_enter Try.func113, Try.ntmps113
  go_wp2
  go_loopw [7, 20] (fun q t wr => ∃ (k ov : Nat) (zs' : List Nat), k ≤ L ∧ q = .int .u64 (ov : Int) ∧ t = .int .i64 (k : Int) ∧ ScaleSt B64 zs xs m off k zs' ov ∧ Row .u64 55 wr g zs' ∧ w.grownBy wr (some g)) (fun _ t _ => L - (intOf t).toNat)
  case atStart => exact ⟨0, 0, zs, Nat.zero_le _, rfl, rfl, ScaleSt.start b64_two hz, hr, World.grownBy.refl w _⟩
  case round =>
    obtain ⟨k, ov, zs', hk, rfl, rfl, hst, hrow, hgr⟩ := hrel
    by_cases hlt : k < L
    · obtain ⟨q, qo, x, rfl, hq, hxk, hcx⟩ := (hA.grown hAg hgr).at_ (i := k) (by have := HL.out; omega)
      obtain ⟨v, hv⟩ : ∃ v, zs'[off + k]? = some v := ⟨zs'[off + k]'(by have := hst.len; omega), List.getElem?_eq_getElem _⟩
      have hcv := hrow.cell hv
      have hfv := hrow.frozen (off + k)
      have hvl : v < B64 := by have := hst.low v (List.mem_of_getElem? hv); exact this
      have hxl : x < B64 := hx x (List.mem_of_getElem? hxk)
      obtain ⟨hi, lo, low, c1, h2, lo2, c2, over, e1, e2, e3, e4, e5, e6, hlo, hov⟩ := scale_ex v x m ov hvl hxl hm hst.le
      have hst' := hst.step hv hxk e6 hlo hov
      have hrow' := hrow.set (off + k) lo2
      have HE := Lib.hid e6
      have HV := Lib.hid hv
      have HX := Lib.hid hxk
      have H1 := Lib.hid e1
      clear e6 hv hxk hA hvl hxl hlo hov e1
      go_wp2_with (go_at_call 87; refine (H1.out _).mono ?_; rintro e w' ⟨rfl, rfl⟩)
      go_roundw
      case rel => exact ⟨k + 1, over, _, by omega, rfl, by go_num, hst', hrow', grown_set hgr _ _⟩
      case measure => simp [intOf]; omega
    · have hkL : k = L := by omega
      subst hkL
      clear hlt
      go_wp2
      go_ret
      exact ⟨zs', ov, rfl, by rw [← HL.out]; exact hst, hrow, hgr⟩
end Go.Proofs.Ythgekjkgfccnaaa

namespace Go.Proofs.Ythgekjkgfccnaaa
open Go.RowKit Num

set_option maxHeartbeats 1000000 in
set_option maxRecDepth 100000 in
theorem longMultiply_any (A A' : Option Addr) (c c' L L' : Nat) (us bs : List Nat) (w : World) (hA : Nums .u64 w A us) (hA' : Nums .u64 w A' bs) (ha : Low B64 us) (hb : Low B64 bs)
    (hL : L = us.length) (hL' : L' = bs.length) (hbig : L ≤ 100000000000) (hbig' : L' ≤ 100000000000) :
    Calls Try.prog 108 #[.slice A L c, .slice A' L' c'] w (SumPost w (val B64 us * val B64 bs)) := by
  have hmk := make64 (L + L') (by omega)
  push_cast at hmk
  have hr0 := Row.made w .u64 (L + L') 55
  have hbA : Below w.heap.size w (w.alloc (.cells (madeCells #[.int .u64 0] (L + L')) 55)) := (Below.refl _ _).alloc (Nat.le_refl _) _
  have hst0 := MulSt.start b64_two us bs
  rw [← hL, ← hL'] at hst0
  have HL := Lib.hid hL
  have HL' := Lib.hid hL'
  have HR0 := Lib.hid hr0
  clear hL hL' hr0
  go_enter Try.func108, Try.ntmps108
  go_wp2
  go_loopw [16] (fun t wr => ∃ (k : Nat) (zs : List Nat), k ≤ L' ∧ t = .int .i64 (k : Int) ∧ MulSt B64 us bs k zs ∧ Row .u64 55 wr w.heap.size zs ∧ Below w.heap.size w wr) (fun t _ => L' - (intOf t).toNat)
  case atStart => exact ⟨0, _, Nat.zero_le _, rfl, hst0, HR0.out, hbA⟩
  case round =>
    clear hst0 HR0 hbA hmk
    obtain ⟨k, zs, hk, rfl, hst, hrow, hbl⟩ := hrel
    by_cases hlt : k < L'
    · obtain ⟨q, qo, v, rfl, hq, hv, hcv⟩ := (hA'.keep hbl).at_ (i := k) (by have := HL'.out; omega)
      have hvl : v < B64 := hb v (List.mem_of_getElem? hv)
      have hAk := hA.keep hbl
      have hne : 0 < us.length → ∀ a, A = some a → a.block ≠ w.heap.size := nums_ne hA (Nat.le_refl _)
      have HV := Lib.hid hv
      have HNE := Lib.hid hne
      have hlen := hst.len
      rw [← HL.out, ← HL'.out] at hlen
      have HLEN := Lib.hid hlen
      clear hv hne hA hA' hlen
      go_wp2_with (go_at_call 113
                   refine (addScaled_any w.heap.size k _ _ c L v zs us A _ hrow hst.low hAk ha HNE.out HL.out (by have := HLEN.out; omega) hvl (by omega) (by omega) (by omega)).mono ?_
                   rintro e w1 ⟨zs', ov, rfl, hs1, hr1, hg1⟩
                   have hb1 : Below w.heap.size w w1 := hbl.grown hg1 hbl.size (by simp)
                   obtain ⟨u, hu⟩ : ∃ u, zs'[L + k]? = some u := ⟨zs'[L + k]'(by have h1 := hs1.len; have h2 := HLEN.out; omega), List.getElem?_eq_getElem _⟩
                   have hcu := hr1.cell hu
                   have hfu := hr1.frozen (L + k)
                   have HU := Lib.hid hu
                   clear hu)
      go_roundw
      case rel =>
        refine ⟨k + 1, _, by omega, by go_num, ?_, hr1.set (L + k) ov, below_set hb1 (Nat.le_refl _) _⟩
        have := hst.step (by rw [← HL'.out]; exact hlt) HV.out hs1
        rw [← HL.out] at this
        exact this
      case measure => simp [intOf]; omega
    · have hkL : k = L' := by omega
      subst hkL
      clear hlt
      have hlen := hst.len
      rw [← HL.out, ← HL'.out] at hlen
      have hn := hrow.nums0 zs.length
      rw [List.take_length] at hn
      have HLEN := Lib.hid hlen
      have he := hst.eq
      have HE := Lib.hid he
      clear hlen he hA hA'
      go_wp2_with (go_at_call 69
                   refine (trim_any _ (L + k) (L + k) zs _ hn hst.low HLEN.out.symm (Nat.le_refl _) (by omega)).mono ?_
                   rintro e w1 ⟨rfl, rfl⟩)
      go_ret
      have hfin := HE.out
      rw [List.take_of_length_le (by have := HL'.out; omega)] at hfin
      rw [← hfin]
      refine ⟨_, rfl, ?_, hbl⟩
      have := own_of_trim b64_two hrow hst.low (Nat.le_refl w.heap.size)
      rw [HLEN.out] at this
      exact this
end Go.Proofs.Ythgekjkgfccnaaa

namespace Go.Proofs.Ythgekjkgfccnaaa
open Go.RowKit Num

/-- What multiply owes, for factors of at most N words. -/
def MulSpec (N : Nat) : Prop := ∀ (a b : Value) (m n : Nat) (w : World), W64 w a m → W64 w b n → (dig B64 m).length ≤ N → (dig B64 n).length ≤ N → Calls Try.prog 99 #[a, b] w (SumPost w (m * n))

set_option maxHeartbeats 400000 in
theorem mul_short (a b : Value) (m n : Nat) (w : World) (ha : W64 w a m) (hb : W64 w b n) (hm : (dig B64 m).length ≤ 1000000000) (hn : (dig B64 n).length ≤ 1000000000) (hs : (dig B64 m).length ≤ 79 ∨ (dig B64 n).length ≤ 79) :
    Calls Try.prog 99 #[a, b] w (SumPost w (m * n)) := by
  obtain ⟨A, c, rfl, _, hA⟩ := ha
  obtain ⟨A', c', rfl, _, hA'⟩ := hb
  have em := val_dig b64_two m
  have en := val_dig b64_two n
  have h1 := fun w => fun (hA : Nums .u64 w A (dig B64 m)) (hA' : Nums .u64 w A' (dig B64 n)) => longMultiply_any A A' c c' _ _ _ _ w hA hA' (dig_low64 m) (dig_low64 n) rfl rfl (by omega) (by omega)
  have h2 := fun w => fun (hA : Nums .u64 w A (dig B64 m)) (hA' : Nums .u64 w A' (dig B64 n)) => longMultiply_any A' A c' c _ _ _ _ w hA' hA (dig_low64 n) (dig_low64 m) rfl rfl (by omega) (by omega)
  rw [em, en] at h1 h2
  rw [Nat.mul_comm n m] at h2
  have H1 := Lib.hid h1
  have H2 := Lib.hid h2
  clear h1 h2 em en
  generalize hL : (dig B64 m).length = L at *
  generalize hL' : (dig B64 n).length = L' at *
  have HL := Lib.hid hL
  have HL' := Lib.hid hL'
  clear hL hL'
  by_cases hlt : L < L'
  · go_enter Try.func99, Try.ntmps99
    go_wp2_with (go_at_call 108; refine (H2.out _ hA hA').mono ?_; rintro e w1 ⟨v, rfl, hv, hb1⟩)
    go_ret
    exact ⟨_, rfl, hv, hb1⟩
  · go_enter Try.func99, Try.ntmps99
    go_wp2_with (go_at_call 108; refine (H1.out _ hA hA').mono ?_; rintro e w1 ⟨v, rfl, hv, hb1⟩)
    go_ret
    exact ⟨_, rfl, hv, hb1⟩
theorem mulSpec_small : MulSpec 79 := fun a b m n w ha hb hm hn => mul_short a b m n w ha hb (by omega) (by omega) (.inl hm)
/-- What multiply owes for two factors. -/
def MulAt (m n : Nat) : Prop := ∀ (a b : Value) (w : World), W64 w a m → W64 w b n → Calls Try.prog 99 #[a, b] w (SumPost w (m * n))
theorem mulAt_short {m n : Nat} (hm : (dig B64 m).length ≤ 1000000000) (hn : (dig B64 n).length ≤ 1000000000) (hs : (dig B64 m).length ≤ 79 ∨ (dig B64 n).length ≤ 79) : MulAt m n := fun a b w ha hb => mul_short a b m n w ha hb hm hn hs
end Go.Proofs.Ythgekjkgfccnaaa
