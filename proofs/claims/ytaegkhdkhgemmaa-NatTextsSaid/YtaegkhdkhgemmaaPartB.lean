/- Part of the proof of NatTexts: Num, Mem, Shell, Head, WinLaws, Win, Bits, MulW, DivLaws, AddLaws, MulLaws, ShLaws. -/
import Derived.Test.YtaegkhdkhgemmaaRows
import Derived.WalkKit
import Derived.WalkSpells
import Derived.WalkLawsBesides
import Derived.Deep.QuietTactic
import Derived.Deep.OwnRows
import Derived.BigQuiet
import Derived.Lib.Hide
import Derived.JoinedOf
import Derived.KernelRfl
import Derived.Laws.Bits64
import Derived.Laws.Bits64b
import Derived.Lib.BitFns
import Derived.Test.YtaegkhdkhgemmaaPartA
import Derived.Lib.Mul64
/- Plain laws on numbers that are written in a base, the least significant digit first: no program, no memory. -/
namespace Go.Proofs.Num

/-- The number that digits in base b make. -/
def val (b : Nat) : List Nat → Nat
  | [] => 0
  | x :: xs => x + b * val b xs

/-- All are digits of the base. -/
def Low (b : Nat) (xs : List Nat) : Prop := ∀ x ∈ xs, x < b

theorem Low.nil (b : Nat) : Low b [] := fun _ h => by cases h
theorem Low.cons {b x : Nat} {xs : List Nat} (hx : x < b) (h : Low b xs) : Low b (x :: xs) := by
  intro y hy
  rcases List.mem_cons.1 hy with rfl | hy
  · exact hx
  · exact h y hy
theorem Low.head {b x : Nat} {xs : List Nat} (h : Low b (x :: xs)) : x < b := h x (by simp)
theorem Low.tail {b x : Nat} {xs : List Nat} (h : Low b (x :: xs)) : Low b xs := fun y hy => h y (by simp [hy])
theorem Low.append {b : Nat} {xs ys : List Nat} (h : Low b xs) (k : Low b ys) : Low b (xs ++ ys) := by
  intro y hy
  rcases List.mem_append.1 hy with hy | hy
  · exact h y hy
  · exact k y hy
theorem Low.take {b : Nat} {xs : List Nat} (h : Low b xs) (n : Nat) : Low b (xs.take n) := fun y hy => h y (List.mem_of_mem_take hy)
theorem Low.drop {b : Nat} {xs : List Nat} (h : Low b xs) (n : Nat) : Low b (xs.drop n) := fun y hy => h y (List.mem_of_mem_drop hy)
theorem Low.get {b : Nat} {xs : List Nat} (h : Low b xs) {i : Nat} (hi : i < xs.length) : xs[i] < b := h _ (List.getElem_mem hi)
theorem Low.replicate {b : Nat} (hb : 0 < b) (n : Nat) : Low b (List.replicate n 0) := by
  intro y hy
  rw [List.eq_of_mem_replicate hy]; exact hb
theorem Low.set {b : Nat} {xs : List Nat} (h : Low b xs) {i v : Nat} (hv : v < b) : Low b (xs.set i v) := by
  intro y hy
  rcases List.mem_or_eq_of_mem_set hy with hy | rfl
  · exact h y hy
  · exact hv

theorem val_append (b : Nat) (xs ys : List Nat) : val b (xs ++ ys) = val b xs + b ^ xs.length * val b ys := by
  induction xs with
  | nil => simp [val]
  | cons x xs ih =>
    simp only [List.cons_append, val, ih, List.length_cons, Nat.pow_succ]
    grind

theorem val_snoc (b : Nat) (xs : List Nat) (x : Nat) : val b (xs ++ [x]) = val b xs + b ^ xs.length * x := by
  rw [val_append]; simp [val]

theorem val_take_succ (b : Nat) (xs : List Nat) (k : Nat) (h : k < xs.length) : val b (xs.take (k + 1)) = val b (xs.take k) + b ^ k * xs[k] := by
  rw [List.take_succ_eq_append_getElem h, val_snoc, List.length_take, Nat.min_eq_left (by omega)]

theorem val_lt (b : Nat) (xs : List Nat) (h : Low b xs) : val b xs < b ^ xs.length := by
  induction xs with
  | nil => simp [val]
  | cons x xs ih =>
    have hx := h.head
    have hi := ih h.tail
    simp only [val, List.length_cons, Nat.pow_succ]
    have : b * (val b xs + 1) ≤ b * b ^ xs.length := Nat.mul_le_mul_left b hi
    rw [Nat.mul_add] at this
    rw [Nat.mul_comm (b ^ xs.length) b]
    omega

theorem val_replicate (b n : Nat) : val b (List.replicate n 0) = 0 := by
  induction n with
  | zero => simp [val]
  | succ n ih => simp [List.replicate_succ, val, ih]

theorem val_take_drop (b : Nat) (xs : List Nat) (k : Nat) (h : k ≤ xs.length) : val b xs = val b (xs.take k) + b ^ k * val b (xs.drop k) := by
  have e := val_append b (xs.take k) (xs.drop k)
  rw [List.take_append_drop, List.length_take, Nat.min_eq_left h] at e
  exact e

theorem val_set (b : Nat) (xs : List Nat) (i v : Nat) (h : i < xs.length) : val b (xs.set i v) + b ^ i * xs[i] = val b xs + b ^ i * v := by
  induction xs generalizing i with
  | nil => simp at h
  | cons x xs ih =>
    cases i with
    | zero => simp [val]; omega
    | succ i =>
      have := ih i (by simpa using h)
      simp only [List.set_cons_succ, val, List.getElem_cons_succ, Nat.pow_succ]
      grind

/-- The last digit, if there is one, is not 0. -/
def Neat (xs : List Nat) : Prop := xs = [] ∨ ∃ ys y, xs = ys ++ [y] ∧ y ≠ 0

theorem neat_nil : Neat [] := .inl rfl
theorem neat_snoc {xs : List Nat} {y : Nat} (hy : y ≠ 0) : Neat (xs ++ [y]) := .inr ⟨xs, y, rfl, hy⟩
theorem neat_iff (xs : List Nat) : Neat xs ↔ ∀ h : 0 < xs.length, xs[xs.length - 1] ≠ 0 := by
  constructor
  · rintro (rfl | ⟨ys, y, rfl, hy⟩) h
    · simp at h
    · simpa using hy
  · intro h
    rcases List.eq_nil_or_concat xs with rfl | ⟨ys, y, rfl⟩
    · exact .inl rfl
    · refine .inr ⟨ys, y, by simp, ?_⟩
      have := h (by simp)
      simpa using this
theorem Neat.tail {x : Nat} {xs : List Nat} (h : Neat (x :: xs)) : Neat xs := by
  rw [neat_iff] at h ⊢
  intro hl
  have := h (by simp)
  simp only [List.length_cons, Nat.add_sub_cancel] at this
  rw [List.getElem_cons] at this
  rw [dif_neg (by omega)] at this
  exact this

theorem val_eq_zero {b : Nat} (hb : 0 < b) {xs : List Nat} (h : Neat xs) (hv : val b xs = 0) : xs = [] := by
  rcases h with rfl | ⟨ys, y, rfl, hy⟩
  · rfl
  · rw [val_snoc] at hv
    have : 0 < b ^ ys.length := Nat.pow_pos hb
    have h2 : b ^ ys.length * y = 0 := by omega
    rcases Nat.mul_eq_zero.1 h2 with h | h
    · omega
    · exact absurd h hy

theorem neat_ge {b : Nat} {xs : List Nat} (h : Neat xs) (hl : 0 < xs.length) : b ^ (xs.length - 1) ≤ val b xs := by
  rcases h with rfl | ⟨ys, y, rfl, hy⟩
  · simp at hl
  · rw [val_snoc]
    simp only [List.length_append, List.length_singleton, Nat.add_sub_cancel]
    have : b ^ ys.length * 1 ≤ b ^ ys.length * y := Nat.mul_le_mul_left _ (by omega)
    omega

/-- The digits of a number. -/
def dig (b n : Nat) : List Nat := if _h : n = 0 ∨ b < 2 then [] else n % b :: dig b (n / b)
termination_by n
decreasing_by exact Nat.div_lt_self (by omega) (by omega)

theorem dig_zero (b : Nat) : dig b 0 = [] := by unfold dig; simp
theorem dig_pos {b n : Nat} (hb : 2 ≤ b) (hn : n ≠ 0) : dig b n = n % b :: dig b (n / b) := by
  rw [dig.eq_1 b n, dif_neg (by omega)]

theorem val_dig {b : Nat} (hb : 2 ≤ b) (n : Nat) : val b (dig b n) = n := by
  induction n using Nat.strongRecOn with
  | ind n ih =>
    by_cases hn : n = 0
    · subst hn; simp [dig_zero, val]
    · rw [dig_pos hb hn, val, ih _ (Nat.div_lt_self (by omega) (by omega))]
      exact Nat.mod_add_div n b

theorem low_dig {b : Nat} (hb : 2 ≤ b) (n : Nat) : Low b (dig b n) := by
  induction n using Nat.strongRecOn with
  | ind n ih =>
    by_cases hn : n = 0
    · subst hn; simp [dig_zero, Low.nil]
    · rw [dig_pos hb hn]
      exact Low.cons (Nat.mod_lt _ (by omega)) (ih _ (Nat.div_lt_self (by omega) (by omega)))

theorem dig_val {b : Nat} (hb : 2 ≤ b) {xs : List Nat} (hl : Low b xs) (hn : Neat xs) : dig b (val b xs) = xs := by
  induction xs with
  | nil => simp [val, dig_zero]
  | cons x xs ih =>
    have hx := hl.head
    have h0 : val b (x :: xs) ≠ 0 := fun e => by
      have := val_eq_zero (by omega) hn e
      simp at this
    rw [dig_pos hb h0]
    have e1 : val b (x :: xs) % b = x := by
      simp only [val]; rw [Nat.add_mul_mod_self_left]; exact Nat.mod_eq_of_lt hx
    have e2 : val b (x :: xs) / b = val b xs := by
      simp only [val]; rw [Nat.add_mul_div_left _ _ (by omega), Nat.div_eq_of_lt hx]; omega
    rw [e1, e2, ih hl.tail hn.tail]

theorem neat_dig {b : Nat} (hb : 2 ≤ b) (n : Nat) : Neat (dig b n) := by
  induction n using Nat.strongRecOn with
  | ind n ih =>
    by_cases hn : n = 0
    · subst hn; simp [dig_zero, neat_nil]
    · rw [dig_pos hb hn]
      rcases ih _ (Nat.div_lt_self (show 0 < n by omega) (show 1 < b by omega)) with h | ⟨ys, y, h, hy⟩
      · have h0 : n / b = 0 := by rw [← val_dig hb (n / b), h]; rfl
        have : n < b := by
          rcases Nat.div_eq_zero_iff.1 h0 with h | h <;> omega
        rw [h, Nat.mod_eq_of_lt this]
        exact .inr ⟨[], n, rfl, hn⟩
      · rw [h]; exact .inr ⟨n % b :: ys, y, rfl, hy⟩

/-- Digits without a 0 at the end are those of the number that they make. -/
theorem dig_of {b n : Nat} (hb : 2 ≤ b) {xs : List Nat} (hl : Low b xs) (hn : Neat xs) (hv : val b xs = n) : dig b n = xs := by
  subst hv; exact dig_val hb hl hn

theorem dig_len_lt {b n : Nat} (hb : 2 ≤ b) : n < b ^ (dig b n).length := by
  have := val_lt b _ (low_dig hb n)
  rwa [val_dig hb] at this
theorem dig_len_ge {b n : Nat} (hb : 2 ≤ b) (h : 0 < (dig b n).length) : b ^ ((dig b n).length - 1) ≤ n := by
  have := neat_ge (b := b) (neat_dig hb n) h
  rwa [val_dig hb] at this
theorem dig_len_le {b n k : Nat} (hb : 2 ≤ b) (h : n < b ^ k) : (dig b n).length ≤ k := by
  rcases Nat.lt_or_ge k (dig b n).length with hk | hk
  · have h1 := dig_len_ge hb (n := n) (by omega)
    have h2 : b ^ k ≤ b ^ ((dig b n).length - 1) := Nat.pow_le_pow_right (by omega) (by omega)
    omega
  · exact hk
theorem dig_nil_iff {b n : Nat} (hb : 2 ≤ b) : dig b n = [] ↔ n = 0 := by
  constructor
  · intro h; have := val_dig hb n; rw [h] at this; simpa [val] using this.symm
  · rintro rfl; exact dig_zero b

/-- The digits that are left when the zeros at the end are cut off. -/
theorem take_neat {b : Nat} (hb : 2 ≤ b) {xs : List Nat} (hl : Low b xs) {k : Nat} (hk : k ≤ xs.length) (hz : ∀ i (h : i < xs.length), k ≤ i → xs[i]'h = 0)
    (hn : ∀ h : 0 < k, xs[k - 1]'(by omega) ≠ 0) : xs.take k = dig b (val b xs) := by
  have hd : xs.drop k = List.replicate (xs.length - k) 0 := by
    apply List.ext_getElem
    · simp
    · intro i h1 h2
      simp at h1
      rw [List.getElem_drop, List.getElem_replicate]
      exact hz _ _ (by omega)
  have hv : val b xs = val b (xs.take k) := by
    rw [val_take_drop b xs k hk, hd, val_replicate]; simp
  rw [hv]
  refine (dig_val hb (hl.take k) ?_).symm
  rw [neat_iff]
  intro h
  simp only [List.length_take, List.getElem_take, Nat.min_eq_left hk] at h ⊢
  exact hn h

theorem val_inj {b : Nat} (hb : 2 ≤ b) {xs ys : List Nat} (hlen : xs.length = ys.length) (hx : Low b xs) (hy : Low b ys) (h : val b xs = val b ys) : xs = ys := by
  induction xs generalizing ys with
  | nil => exact (List.eq_nil_of_length_eq_zero hlen.symm).symm
  | cons x xs ih =>
    cases ys with
    | nil => simp at hlen
    | cons y ys =>
      simp only [val] at h
      have h1 := hx.head
      have h2 := hy.head
      have e1 : (x + b * val b xs) % b = x := by rw [Nat.add_mul_mod_self_left]; exact Nat.mod_eq_of_lt h1
      have e2 : (y + b * val b ys) % b = y := by rw [Nat.add_mul_mod_self_left]; exact Nat.mod_eq_of_lt h2
      have e : x = y := by rw [← e1, ← e2, h]
      subst e
      have h3 : b * val b xs = b * val b ys := by omega
      have h4 := Nat.eq_of_mul_eq_mul_left (by omega) h3
      rw [ih (by simpa using hlen) hx.tail hy.tail h4]

end Go.Proofs.Num

/- What is said of memory: slices that read as numbers, rows of the call's own that hold numbers. -/
namespace Go.Proofs.Ytaegkhdkhgemmaa
open Go.RowKit Num

/-- The bases, under names: a walk must not meet such numerals. -/
def B64 : Nat := 18446744073709551616
def B32 : Nat := 4294967296
theorem b64_two : 2 ≤ B64 := by unfold B64; omega
theorem b32_two : 2 ≤ B32 := by unfold B32; omega
theorem b64_pos : 0 < B64 := by unfold B64; omega
theorem b32_pos : 0 < B32 := by unfold B32; omega

/-- The slice at A reads as these numbers; its cells lie in a block that is there. -/
def Nums (k : IntKind) (w : World) (A : Option Addr) (xs : List Nat) : Prop :=
  0 < xs.length → ∃ g off, A = some ⟨g, off, none⟩ ∧ g < w.heap.size ∧ ∀ (i v : Nat), xs[i]? = some v → w.cell? ⟨g, off + i, none⟩ = some (.int k (v : Int))

theorem Nums.nil {k : IntKind} {w : World} {A : Option Addr} : Nums k w A [] := fun h => absurd h (by simp)

theorem Nums.keep {k : IntKind} {w w' : World} {A : Option Addr} {xs : List Nat} (h : Nums k w A xs) (hb : Below w.heap.size w w') : Nums k w' A xs := by
  intro hl
  obtain ⟨g, off, e, hg, hc⟩ := h hl
  exact ⟨g, off, e, Nat.lt_of_lt_of_le hg hb.size, fun i v hv => (hb.cell (p := ⟨g, off + i, none⟩) hg).trans (hc i v hv)⟩

theorem Nums.at_ {k : IntKind} {w : World} {A : Option Addr} {xs : List Nat} (h : Nums k w A xs) {i : Nat} (hi : i < xs.length) :
    ∃ g off v, A = some ⟨g, off, none⟩ ∧ g < w.heap.size ∧ xs[i]? = some v ∧ w.cell? ⟨g, off + i, none⟩ = some (.int k (v : Int)) := by
  obtain ⟨g, off, e, hg, hc⟩ := h (by omega)
  exact ⟨g, off, xs[i], e, hg, List.getElem?_eq_getElem hi, hc _ _ (List.getElem?_eq_getElem hi)⟩

theorem Nums.take {k : IntKind} {w : World} {A : Option Addr} {xs : List Nat} (h : Nums k w A xs) (n : Nat) : Nums k w A (xs.take n) := by
  intro hl
  obtain ⟨g, off, e, hg, hc⟩ := h (by simp at hl; omega)
  refine ⟨g, off, e, hg, fun i v hv => hc i v ?_⟩
  rw [List.getElem?_take] at hv
  split at hv
  · exact hv
  · cases hv

/-- Block g is a row of these numbers, each of kind k; none is frozen. T: the number's type. -/
def Row (k : IntKind) (T : TypeId) (w : World) (g : Nat) (zs : List Nat) : Prop := w.rowIs g T zs.length (fun j => .int k ((zs.getD j 0 : Nat) : Int))

section
variable {k : IntKind} {T : TypeId} {w w' : World} {g : Nat} {zs : List Nat}

theorem Row.cell (h : Row k T w g zs) {i v : Nat} (hv : zs[i]? = some v) : w.cell? ⟨g, i, none⟩ = some (.int k (v : Int)) := by
  have hi : i < zs.length := (List.getElem?_eq_some_iff.1 hv).1
  have := World.rowIs.cell h hi
  rw [this]
  simp [hv]

theorem Row.frozen (h : Row k T w g zs) (i : Nat) : w.frozen? ⟨g, i, none⟩ = false := World.rowIs.frozen h i
theorem Row.lt (h : Row k T w g zs) : g < w.heap.size := World.rowIs.lt h
theorem Row.drew (h : Row k T w g zs) : Row k T w.drew g zs := h
theorem Row.of_block (h : Row k T w g zs) (e : w'.heap[g]? = w.heap[g]?) : Row k T w' g zs := World.rowIs.of_block h e
theorem Row.below {B : Nat} (h : Row k T w g zs) (hb : Below B w w') (hg : g < B) : Row k T w' g zs := h.of_block (hb.block g hg)
theorem Row.grown {row : Option Nat} (h : Row k T w g zs) (hb : w.grownBy w' row) (hg : some g ≠ row) : Row k T w' g zs := h.of_block (hb.block g h.lt hg)
theorem Row.alloc (h : Row k T w g zs) (o : Obj) : Row k T (w.alloc o) g zs := World.rowIs.alloc h o
theorem Row.set (h : Row k T w g zs) (i v : Nat) : Row k T (w.setCell ⟨g, i, none⟩ (.int k (v : Int))) g (zs.set i v) := by
  unfold Row
  rw [List.length_set]
  refine World.rowIs.congr (World.rowIs.set h i _) fun j hj => ?_
  simp only [List.getD_eq_getElem?_getD, List.getElem?_set]
  by_cases e : j = i
  · subst e; simp [hj]
  · rw [if_neg e, if_neg (fun h => e h.symm)]
theorem Row.setOther (h : Row k T w g zs) {a : Addr} (ha : g ≠ a.block) (v : Value) : Row k T (w.setCell a v) g zs := World.rowIs.setOther h ha v
theorem Row.made (w : World) (k : IntKind) (n : Nat) (T : TypeId) : Row k T (w.alloc (.cells (madeCells #[.int k 0] n) T)) w.heap.size (List.replicate n 0) := by
  unfold Row
  rw [List.length_replicate]
  exact World.rowIs.congr (World.rowIs_made w (.int k 0) n T) fun j hj => by simp [hj]

/-- A part of a row reads as numbers. -/
theorem Row.nums (h : Row k T w g zs) (off n : Nat) : Nums k w (some ⟨g, off, none⟩) ((zs.drop off).take n) := by
  intro _
  refine ⟨g, off, rfl, h.lt, fun i v hv => h.cell ?_⟩
  rw [List.getElem?_take] at hv
  split at hv
  · rw [List.getElem?_drop] at hv; exact hv
  · cases hv
theorem Row.nums0 (h : Row k T w g zs) (n : Nat) : Nums k w (some ⟨g, 0, none⟩) (zs.take n) := by
  have := h.nums 0 n
  rwa [List.drop_zero] at this
end

/-- What is below B has not turned; what is new, or in a block from B on, may have. -/
theorem below_set {B : Nat} {a w : World} (h : Below B a w) {g i : Nat} (hg : B ≤ g) (v : Value) : Below B a (w.setCell ⟨g, i, none⟩ v) := h.setCell (p := ⟨g, i, none⟩) hg v

/-- The slice value v reads in w as the digits of n (kind k, base b); nothing is said of who owns it. -/
def IsNum (k : IntKind) (b : Nat) (w : World) (v : Value) (n : Nat) : Prop :=
  ∃ A c, v = .slice A (dig b n).length c ∧ (dig b n).length ≤ c ∧ Nums k w A (dig b n)

theorem IsNum.keep {k : IntKind} {b : Nat} {w w' : World} {v : Value} {n : Nat} (h : IsNum k b w v n) (hb : Below w.heap.size w w') : IsNum k b w' v n := by
  obtain ⟨A, c, e, hc, hn⟩ := h
  exact ⟨A, c, e, hc, hn.keep hb⟩

/-- .. and it lies at the head of a row of its own, in a block from B on. -/
def OwnNum (k : IntKind) (T : TypeId) (b : Nat) (B : Nat) (w : World) (v : Value) (n : Nat) : Prop :=
  ∃ g c zs, v = .slice (some ⟨g, 0, none⟩) (dig b n).length c ∧ (dig b n).length ≤ c ∧ c = zs.length ∧ B ≤ g ∧ Row k T w g zs ∧ Low b zs ∧ zs.take (dig b n).length = dig b n

theorem OwnNum.is {k : IntKind} {T : TypeId} {b B : Nat} {w : World} {v : Value} {n : Nat} (h : OwnNum k T b B w v n) : IsNum k b w v n := by
  obtain ⟨g, c, zs, e, hc, _, _, hr, _, ht⟩ := h
  refine ⟨_, _, e, hc, ?_⟩
  have := hr.nums0 (dig b n).length
  rwa [ht] at this

/-- Words of 64 bits; limbs of 32 bits. -/
abbrev W64 (w : World) (v : Value) (n : Nat) : Prop := IsNum .u64 B64 w v n
abbrev N32 (w : World) (v : Value) (n : Nat) : Prop := IsNum .u32 B32 w v n
abbrev OwnW (B : Nat) (w : World) (v : Value) (n : Nat) : Prop := OwnNum .u64 24 B64 B w v n

theorem info24 : (Try.prog.info? 24).map (fun i => (i.zero, i.size, i.bytes)) = some (some (.int .u64 0), 1, 8) := by kernel_rfl
theorem info56 : (Try.prog.info? 56).map (fun i => (i.zero, i.size, i.bytes)) = some (some (.int .u32 0), 1, 4) := by kernel_rfl
/-- make of words. -/
theorem make64 (n : Nat) (h : n ≤ 1000000000000) (w : World) : (Instr.makeSlice 88 (.int .i64 (n : Int)) (.int .i64 (n : Int))).run Try.prog w = .ok (.slice (some ⟨w.heap.size, 0, none⟩) n n) (w.alloc (.cells (madeCells #[.int .u64 0] n) 24)) :=
  run_make_row' 88 24 (.int .u64 0) 8 Try.underlying88 info24 rfl .i64 .i64 n (by omega) (by omega) w

theorem ret_i {k : IntKind} {a b : Int} (h : a = b) : Ending.returned (.int k a) = .returned (.int k b) := by rw [h]
theorem ret_b {a b : Bool} (h : a = b) : Ending.returned (.bool a) = .returned (.bool b) := by rw [h]

/-- A quiet callee behind draws. -/
theorem quiet_l {P : Program} {f : FuncId} {args : Array Value} {w : World} {n : Nat} {v : Value}
    (h : Calls P f args (w.drewN n) fun e w' => e = .returned v ∧ w.drewN n = w') : Calls P f args (w.drewN n) fun e w'' => e = .returned v ∧ ∃ m, w'' = w.drewN m :=
  h.mono fun _ _ ⟨he, hm⟩ => ⟨he, n, hm.symm⟩
theorem below_drewN {B : Nat} {a w : World} (h : Below B a w) (n : Nat) : Below B a (w.drewN n) := ⟨h.os, h.tape, h.output, h.size, h.block⟩

theorem quiet_a {P : Program} {f : FuncId} {args : Array Value} {w : World} {a n : Nat} {v : Value}
    (h : Calls P f args (w.drewN (a + n)) fun e w' => e = .returned v ∧ w.drewN (a + n) = w') :
    Calls P f args (w.drewN (a + n)) fun e w'' => e = .returned v ∧ ∃ m, w'' = w.drewN (a + m) :=
  h.mono fun _ _ ⟨he, hm⟩ => ⟨he, n, hm.symm⟩

end Go.Proofs.Ytaegkhdkhgemmaa

/- A slice of limbs that came in, as the frame of a law's proof tells of it, reads as numbers. -/
namespace Go.Proofs.Ytaegkhdkhgemmaa
open Go.RowKit Num

/-- What the frame tells of a slice of integers that came in: nil, or a row of cap cells that fit their kind. -/
def IsRow (k : IntKind) (w : World) (a : Option Addr) (len cap : Nat) (zs : List Int) : Prop :=
  (a = none ∧ len = 0 ∧ cap = 0 ∧ zs = []) ∨
  ∃ x, a = some x ∧ len ≤ cap ∧ cap ≤ maxLen ∧ zs.length = cap ∧ (∀ i, i < zs.length → w.cell? (x.add i) = some (.int k (zs.getD i 0))) ∧ ∀ n ∈ zs, (Lit.int k n).wf = true

theorem rows_nums {w : World} {a : Option Addr} {len cap : Nat} {zs : List Int} (h : IsRow .u32 w a len cap zs) :
    ∃ xs : List Nat, Nums .u32 w a xs ∧ Low B32 xs ∧ len = xs.length ∧ len ≤ cap ∧ (a = none → cap = 0) := by
  rcases h with ⟨rfl, rfl, rfl, rfl⟩ | ⟨x, rfl, hl, _, hz, hcell, hwf⟩
  · exact ⟨[], Nums.nil, Low.nil _, rfl, Nat.le_refl _, fun _ => rfl⟩
  · refine ⟨(zs.take len).map Int.toNat, fun hp => ?_, fun y hy => ?_, ?_, hl, fun h => by cases h⟩
    · have hlen : 0 < zs.length := by simp at hp; omega
      have h0 := hcell 0 hlen
      obtain ⟨b, off, spot⟩ := x
      have hspot : spot = none := by simpa [Addr.add] using World.cell?_spot h0
      subst hspot
      refine ⟨b, off, rfl, ?_, fun i v hv => ?_⟩
      · have := block_lt_of_cell h0
        simpa [Addr.add] using this
      · rw [List.getElem?_map, Option.map_eq_some_iff] at hv
        obtain ⟨z, hz1, rfl⟩ := hv
        rw [List.getElem?_take] at hz1
        split at hz1
        · have hi := (List.getElem?_eq_some_iff.1 hz1).1
          have hc := hcell i hi
          have hzz : zs.getD i 0 = z := by rw [List.getD_eq_getElem?_getD, hz1]; rfl
          rw [hzz] at hc
          have hw := hwf z (List.mem_of_getElem? hz1)
          have h0z : 0 ≤ z := by simp [Lit.wf, IntKind.min, IntKind.max, IntKind.bits, IntKind.signed] at hw; omega
          have e : ((z.toNat : Nat) : Int) = z := Int.toNat_of_nonneg h0z
          rw [e]
          have ea : (⟨b, off, none⟩ : Addr).add i = ⟨b, off + i, none⟩ := by
            unfold Addr.add
            split
            · rename_i h; subst h; rfl
            · rfl
          rw [ea] at hc
          exact hc
        · cases hz1
    · simp only [List.mem_map] at hy
      obtain ⟨z, hz1, rfl⟩ := hy
      have hw := hwf z (List.mem_of_mem_take hz1)
      simp [Lit.wf, IntKind.min, IntKind.max, IntKind.bits, IntKind.signed] at hw
      unfold B32
      omega
    · simp; omega
theorem word_nat {x : Int} (h : (Lit.int .u64 x).wf = true) : ∃ v : Nat, x = (v : Int) ∧ v < B64 := by
  simp [Lit.wf, IntKind.min, IntKind.max, IntKind.bits, IntKind.signed] at h
  refine ⟨x.toNat, by omega, ?_⟩
  unfold B64
  omega
end Go.Proofs.Ytaegkhdkhgemmaa

/- The words of the dump's head, one by one, so that the kernel need not read the whole head at once: then what the form asks of them. -/
namespace Go.Proofs.Ytaegkhdkhgemmaa

/-- A blank. -/
def sp : Char := Char.ofNat 32
def joinSp : List (List Char) → List Char
  | [] => []
  | [w] => w
  | w :: v :: ws => w ++ sp :: joinSp (v :: ws)

theorem wordsSigns_blank (r : List Char) : wordsSigns (sp :: r) = [] :: wordsSigns r := rfl
theorem wordsSigns_ne (r : List Char) : wordsSigns r ≠ [] := by
  intro h
  unfold wordsSigns at h
  split at h
  · cases h
  · cases h
  · split at h <;> cases h
theorem wordsSigns_other (c : Char) (r : List Char) (h : c ≠ sp) : ∃ w ws, wordsSigns r = w :: ws ∧ wordsSigns (c :: r) = (c :: w) :: ws := by
  cases e : wordsSigns r with
  | nil => exact absurd e (wordsSigns_ne r)
  | cons w ws =>
    refine ⟨w, ws, rfl, ?_⟩
    rw [wordsSigns.eq_3 c r (fun hc => h hc), e]
theorem wordsSigns_word (w r : List Char) (h : ∀ c ∈ w, c ≠ sp) : wordsSigns (w ++ sp :: r) = w :: wordsSigns r := by
  induction w with
  | nil => exact wordsSigns_blank r
  | cons c w ih =>
    obtain ⟨v, vs, h1, h2⟩ := wordsSigns_other c (w ++ sp :: r) (h c (by simp))
    rw [ih fun d hd => h d (by simp [hd])] at h1
    injection h1 with h3 h4
    rw [List.cons_append, h2, ← h3, ← h4]
theorem wordsSigns_last (w : List Char) (h : ∀ c ∈ w, c ≠ sp) : wordsSigns w = [w] := by
  induction w with
  | nil => rfl
  | cons c w ih =>
    obtain ⟨v, vs, h1, h2⟩ := wordsSigns_other c w (h c (by simp))
    rw [ih fun d hd => h d (by simp [hd])] at h1
    injection h1 with h3 h4
    rw [h2, ← h3, ← h4]
theorem wordsSigns_join (ws : List (List Char)) (hne : ws ≠ []) (h : ∀ w ∈ ws, ∀ c ∈ w, c ≠ sp) : wordsSigns (joinSp ws) = ws := by
  induction ws with
  | nil => exact absurd rfl hne
  | cons w ws ih =>
    cases ws with
    | nil => exact wordsSigns_last w (h w (by simp))
    | cons v vs =>
      show wordsSigns (w ++ sp :: joinSp (v :: vs)) = _
      rw [wordsSigns_word w _ (h w (by simp)), ih (by simp) fun u hu => h u (by simp [hu])]

def headCodes : List (List Nat) := [
  [104, 97, 114, 110, 101, 115, 115],
  [57, 100, 52, 57, 98, 48, 99, 51, 54, 54, 53, 54, 54, 50, 48, 97, 54, 57, 57, 51, 101, 49, 100, 53, 57, 102, 51, 98, 48, 54, 98, 54, 52, 101, 99, 49, 54, 52, 97, 56, 102, 49, 51, 99, 53, 56, 102, 99, 57, 57, 52, 48, 51, 48, 49, 49, 53, 102, 102, 48, 54, 102, 54, 49],
  [99, 117, 116],
  [97, 116],
  [99, 108, 97, 118, 101, 99, 105, 110, 47, 99, 108, 97, 118, 101, 99, 105, 110, 108, 97, 119, 48, 49, 46, 78, 97, 116, 67, 104, 101, 99, 107, 115],
  [99, 108, 97, 118, 101, 99, 105, 110, 47, 99, 108, 97, 118, 101, 99, 105, 110, 108, 97, 119, 48, 49, 46, 78, 97, 116, 65, 100, 100, 115],
  [99, 108, 97, 118, 101, 99, 105, 110, 47, 99, 108, 97, 118, 101, 99, 105, 110, 108, 97, 119, 48, 49, 46, 78, 97, 116, 77, 117, 108, 115],
  [99, 108, 97, 118, 101, 99, 105, 110, 47, 99, 108, 97, 118, 101, 99, 105, 110, 108, 97, 119, 48, 49, 46, 78, 97, 116, 68, 105, 118, 105, 100, 101, 115],
  [99, 108, 97, 118, 101, 99, 105, 110, 47, 99, 108, 97, 118, 101, 99, 105, 110, 108, 97, 119, 48, 49, 46, 78, 97, 116, 83, 104, 105, 102, 116, 115],
  [99, 108, 97, 118, 101, 99, 105, 110, 47, 99, 108, 97, 118, 101, 99, 105, 110, 108, 97, 119, 48, 49, 46, 78, 97, 116, 80, 111, 119, 101, 114, 115],
  [99, 108, 97, 118, 101, 99, 105, 110, 47, 99, 108, 97, 118, 101, 99, 105, 110, 108, 97, 119, 48, 49, 46, 78, 97, 116, 80, 111, 119, 77, 111, 100, 115],
  [99, 108, 97, 118, 101, 99, 105, 110, 47, 99, 108, 97, 118, 101, 99, 105, 110, 108, 97, 119, 48, 49, 46, 78, 97, 116, 82, 111, 111, 116, 115],
  [99, 108, 97, 118, 101, 99, 105, 110, 47, 99, 108, 97, 118, 101, 99, 105, 110, 108, 97, 119, 48, 49, 46, 78, 97, 116, 71, 99, 100, 115],
  [99, 108, 97, 118, 101, 99, 105, 110, 47, 99, 108, 97, 118, 101, 99, 105, 110, 108, 97, 119, 48, 49, 46, 78, 97, 116, 84, 101, 120, 116, 115],
  [99, 108, 97, 118, 101, 99, 105, 110, 47, 99, 108, 97, 118, 101, 99, 105, 110, 108, 97, 119, 48, 49, 46, 78, 97, 116, 68, 105, 103, 105, 116, 115],
  [99, 108, 97, 118, 101, 99, 105, 110, 47, 99, 108, 97, 118, 101, 99, 105, 110, 108, 97, 119, 48, 49, 46, 78, 97, 116, 70, 105, 116, 115],
  [99, 108, 97, 118, 101, 99, 105, 110, 47, 99, 108, 97, 118, 101, 99, 105, 110, 108, 97, 119, 48, 49, 46, 78, 97, 116, 82, 105, 110, 103],
  [99, 108, 97, 118, 101, 99, 105, 110, 47, 99, 108, 97, 118, 101, 99, 105, 110, 108, 97, 119, 48, 49, 46, 78, 97, 116, 83, 113, 117, 97, 114, 101, 115],
  [99, 108, 97, 118, 101, 99, 105, 110, 47, 99, 108, 97, 118, 101, 99, 105, 110, 108, 97, 119, 48, 49, 46, 78, 97, 116, 81, 117, 111, 116, 105, 101, 110, 116],
  [99, 108, 97, 118, 101, 99, 105, 110, 47, 99, 108, 97, 118, 101, 99, 105, 110, 108, 97, 119, 48, 49, 46, 78, 97, 116, 81, 117, 111, 116, 105, 101, 110, 116, 79, 102],
  [99, 108, 97, 118, 101, 99, 105, 110, 47, 99, 108, 97, 118, 101, 99, 105, 110, 108, 97, 119, 48, 49, 46, 78, 97, 116, 66, 101, 116, 119, 101, 101, 110],
  [99, 108, 97, 118, 101, 99, 105, 110, 47, 99, 108, 97, 118, 101, 99, 105, 110, 108, 97, 119, 48, 49, 46, 78, 97, 116, 66, 97, 99, 107],
  [99, 108, 97, 118, 101, 99, 105, 110, 47, 99, 108, 97, 118, 101, 99, 105, 110, 108, 97, 119, 48, 49, 46, 78, 97, 116, 67, 111, 109, 109, 111, 110],
  [99, 108, 97, 118, 101, 99, 105, 110, 47, 99, 108, 97, 118, 101, 99, 105, 110, 108, 97, 119, 48, 49, 46, 78, 97, 116, 87, 101, 105, 103, 104, 116, 101, 100],
  [99, 108, 97, 118, 101, 99, 105, 110, 47, 99, 108, 97, 118, 101, 99, 105, 110, 108, 97, 119, 48, 49, 46, 78, 97, 116, 69, 120, 112, 111, 110, 101, 110, 116, 115],
  [99, 108, 97, 118, 101, 99, 105, 110, 47, 99, 108, 97, 118, 101, 99, 105, 110, 108, 97, 119, 48, 49, 46, 78, 97, 116, 79, 119, 110],
  [99, 108, 97, 118, 101, 99, 105, 110, 47, 99, 108, 97, 118, 101, 99, 105, 110, 108, 97, 119, 48, 49, 46, 78, 97, 116, 76, 105, 109, 105, 116, 115]]
def headWords : List (List Char) := headCodes.map fun w => w.map Char.ofNat
set_option maxRecDepth 100000 in
theorem order_signs : Try.prog.initOrder = String.ofList (joinSp headWords) := by kernel_rfl
set_option maxRecDepth 100000 in
theorem no_blank : (headWords.all fun w => w.all fun c => c != sp) = true := by kernel_rfl
theorem order_words : wordsSigns Try.prog.initOrder.toList = headWords := by
  rw [order_signs, String.toList_ofList]
  refine wordsSigns_join headWords (by simp [headWords, headCodes]) fun w hw c hc => ?_
  have h := no_blank
  rw [List.all_eq_true] at h
  have h2 := h w hw
  rw [List.all_eq_true] at h2
  simpa using h2 c hc

theorem behind : behindMainWord (wordsSigns Try.prog.initOrder.toList) = headWords.drop 2 := by
  have h : behindMainWord headWords = headWords.drop 2 := by kernel_rfl
  rw [order_words]; exact h
def cutW : List Char := ([99, 117, 116] : List Nat).map Char.ofNat
theorem drop2 : headWords.drop 2 = cutW :: headWords.drop 3 := by kernel_rfl
theorem isCut : (cutW == "cut".toList) = true := by kernel_rfl
theorem notGc : (cutW == "gc".toList || cutW == "spec".toList) = false := by kernel_rfl
theorem notCarried : (cutW == "carried".toList) = false := by kernel_rfl
theorem make_of {P : Program} {c : List Char} {rest : List (List Char)} (h : behindMainWord (wordsSigns P.initOrder.toList) = c :: rest) (h1 : (c == "gc".toList || c == "spec".toList) = false) (h2 : (c == "cut".toList) = true) : P.make = some .cut := by
  unfold Program.make
  rw [h]
  simp only [h1, h2, Bool.true_or, if_true]
  simp
theorem make_cut : Try.prog.make = some .cut := make_of (behind.trans drop2) notGc isCut
theorem headLifts_of {P : Program} {ws : List (List Char)} (h : behindMainWord (wordsSigns P.initOrder.toList) = ws) (hs : stripLifts liftWords ws = ([], ws)) : P.headLifts = [] := by
  unfold Program.headLifts
  rw [h, hs]
  simp
theorem liftsFinal_of {P : Program} {c : List Char} {rest : List (List Char)} (h : behindMainWord (wordsSigns P.initOrder.toList) = c :: rest) (hc : (c == "carried".toList) = false) (hl : P.headLifts = []) : P.liftsFinal = false := by
  unfold Program.liftsFinal
  rw [h, hl]
  have e : (some c == some "carried".toList) = false := hc
  simp only [List.head?_cons, e, Bool.false_and, Bool.false_or]
  rfl
theorem mayEnter_of {P : Program} {c : List Char} {rest : List (List Char)} (h : behindMainWord (wordsSigns P.initOrder.toList) = c :: rest) (hs : stripLifts liftWords (c :: rest) = ([], c :: rest)) (hc : (c == "cut".toList) = true)
    (h1 : P.laysLater = false) (h2 : P.bearsReflect = false) (h3 : P.doorFits [] = true) : P.mayEnter = true := by
  have e : (some c == some "cut".toList) = true := hc
  unfold Program.mayEnter
  rw [h]
  simp only [hs, h1, h2, h3, List.head?_cons, e]
  simp
set_option maxRecDepth 100000 in
theorem lays_no : Try.prog.laysLater = false := by kernel_rfl
set_option maxRecDepth 100000 in
theorem reflect_no : Try.prog.bearsReflect = false := by kernel_rfl
set_option maxRecDepth 100000 in
theorem door_fits : Try.prog.doorFits [] = true := by kernel_rfl
set_option maxRecDepth 100000 in
theorem strip_no : stripLifts liftWords (cutW :: headWords.drop 3) = ([], cutW :: headWords.drop 3) := by kernel_rfl
theorem lifts_no : Try.prog.liftsFinal = false := liftsFinal_of (behind.trans drop2) notCarried (headLifts_of (behind.trans drop2) strip_no)
theorem may_enter : Try.prog.mayEnter = true := mayEnter_of (behind.trans drop2) strip_no isCut lays_no reflect_no door_fits

theorem and_t {a b : Bool} (h : a = true) (k : b = true) : (a && b) = true := by rw [h, k]; rfl
theorem lifted_fact (c : OpenClaim) (h : c.lifted = false) : (c.lifted == Try.prog.liftsFinal) = true := by rw [lifts_no, h]; rfl
theorem make_fact (c : OpenClaim) (h : c.make = .cut) : (Try.prog.make == some c.make) = true := by rw [make_cut, h]; rfl
end Go.Proofs.Ytaegkhdkhgemmaa

/- Plain laws: the bits of a number that is written in words. -/
namespace Go.Proofs.Num

theorem dig_get_drop {b : Nat} (hb : 2 ≤ b) (n i : Nat) : val b ((dig b n).drop i) = n / b ^ i := by
  induction i generalizing n with
  | zero => simp [val_dig hb]
  | succ i ih =>
    by_cases hn : n = 0
    · subst hn; simp [dig_zero, val]
    · rw [dig_pos hb hn, List.drop_succ_cons, ih, Nat.div_div_eq_div_mul, Nat.pow_succ, Nat.mul_comm]

theorem dig_getElem? {b : Nat} (hb : 2 ≤ b) {n i v : Nat} (h : (dig b n)[i]? = some v) : v = n / b ^ i % b := by
  have hi := (List.getElem?_eq_some_iff.1 h).1
  have e := dig_get_drop hb n i
  rw [List.drop_eq_getElem_cons hi] at e
  have hv : (dig b n)[i] = v := (List.getElem?_eq_some_iff.1 h).2
  rw [hv] at e
  simp only [val] at e
  rw [← e, Nat.add_mul_mod_self_left]
  refine (Nat.mod_eq_of_lt ?_).symm
  rw [← hv]
  exact low_dig hb n _ (List.getElem_mem hi)

theorem div_pow_len {b : Nat} (hb : 2 ≤ b) {n i : Nat} (h : (dig b n).length ≤ i) : n / b ^ i = 0 := by
  refine Nat.div_eq_of_lt (Nat.lt_of_lt_of_le (dig_len_lt hb) (Nat.pow_le_pow_right (by omega) h))

/-- n shifted right by 64 i + s, its low word: out of the words i and i + 1. -/
theorem win_of (n i s : Nat) (hs : s < 64) :
    n / 2 ^ (64 * i + s) % 18446744073709551616 =
      (n / 18446744073709551616 ^ i % 18446744073709551616) / 2 ^ s + 2 ^ (64 - s) * (n / 18446744073709551616 ^ (i + 1) % 18446744073709551616 % 2 ^ s) := by
  have e1 : (2 : Nat) ^ (64 * i) = 18446744073709551616 ^ i := by rw [Nat.pow_mul]
  have e2 : (18446744073709551616 : Nat) = 2 ^ s * 2 ^ (64 - s) := by rw [← Nat.pow_add, show s + (64 - s) = 64 by omega]
  rw [Nat.pow_add, e1, ← Nat.div_div_eq_div_mul, Nat.pow_succ, ← Nat.div_div_eq_div_mul]
  generalize n / 18446744073709551616 ^ i = m
  -- m = x + B (y + ..)
  have hx := Nat.mod_add_div m 18446744073709551616
  generalize hy : m / 18446744073709551616 = y at *
  generalize hxx : m % 18446744073709551616 = x at *
  have hxl : x < 18446744073709551616 := by omega
  have h2s : 0 < 2 ^ s := Nat.two_pow_pos s
  have h2t : 0 < 2 ^ (64 - s) := Nat.two_pow_pos _
  have hd : (2 ^ s : Nat) ∣ 18446744073709551616 := ⟨_, e2⟩
  have a1 : m / 2 ^ s = x / 2 ^ s + 2 ^ (64 - s) * y := by
    rw [← hx]
    have : 18446744073709551616 * y = 2 ^ s * (2 ^ (64 - s) * y) := by rw [← Nat.mul_assoc, ← e2]
    rw [this, Nat.add_mul_div_left _ _ h2s]
  have a3 : y % 18446744073709551616 % 2 ^ s = y % 2 ^ s := Nat.mod_mod_of_dvd y hd
  have a2 : x / 2 ^ s < 2 ^ (64 - s) := by
    rw [Nat.div_lt_iff_lt_mul h2s, Nat.mul_comm, ← e2]; exact hxl
  rw [a1, a3]
  have a4 : 2 ^ (64 - s) * y = 18446744073709551616 * (y / 2 ^ s) + 2 ^ (64 - s) * (y % 2 ^ s) := by
    have h := Nat.mod_add_div y (2 ^ s)
    have h2 : 2 ^ (64 - s) * y = 2 ^ (64 - s) * (y % 2 ^ s) + 2 ^ (64 - s) * (2 ^ s * (y / 2 ^ s)) := by rw [← Nat.mul_add, h]
    have h3 : 2 ^ (64 - s) * (2 ^ s * (y / 2 ^ s)) = 18446744073709551616 * (y / 2 ^ s) := by
      rw [← Nat.mul_assoc, Nat.mul_comm (2 ^ (64 - s)) (2 ^ s), ← e2]
    omega
  rw [a4]
  have a5 : y % 2 ^ s < 2 ^ s := Nat.mod_lt _ h2s
  have a6 : x / 2 ^ s + 2 ^ (64 - s) * (y % 2 ^ s) < 18446744073709551616 := by
    have : 2 ^ (64 - s) * (y % 2 ^ s + 1) ≤ 2 ^ (64 - s) * 2 ^ s := Nat.mul_le_mul_left _ a5
    rw [Nat.mul_comm (2 ^ (64 - s)) (2 ^ s), ← e2, Nat.mul_add] at this
    omega
  rw [show x / 2 ^ s + (18446744073709551616 * (y / 2 ^ s) + 2 ^ (64 - s) * (y % 2 ^ s)) = (x / 2 ^ s + 2 ^ (64 - s) * (y % 2 ^ s)) + 18446744073709551616 * (y / 2 ^ s) by omega, Nat.add_mul_mod_self_left]
  exact Nat.mod_eq_of_lt a6

theorem mul_pow_mod (y s : Nat) (hs : s < 64) : y * 2 ^ (64 - s) % 18446744073709551616 = 2 ^ (64 - s) * (y % 2 ^ s) := by
  have e2 : (18446744073709551616 : Nat) = 2 ^ (64 - s) * 2 ^ s := by rw [← Nat.pow_add, show 64 - s + s = 64 by omega]
  rw [Nat.mul_comm y, e2, Nat.mul_mod_mul_left]

/-- What the walk shows of a window over two words. -/
theorem win_bits (x y s : Nat) (hx : x < 18446744073709551616) (hs : s < 64) :
    bits .or .u64 ((x : Int) / 2 ^ s) (IntKind.u64.wrap ((y : Int) * 2 ^ (64 - s))) = ((x / 2 ^ s + 2 ^ (64 - s) * (y % 2 ^ s) : Nat) : Int) := by
  have e2 : (18446744073709551616 : Nat) = 2 ^ s * 2 ^ (64 - s) := by rw [← Nat.pow_add, show s + (64 - s) = 64 by omega]
  have h2s : 0 < 2 ^ s := Nat.two_pow_pos s
  have c1 : ((x : Int) / 2 ^ s) = ((x / 2 ^ s : Nat) : Int) := by push_cast; rfl
  have c2 : IntKind.u64.wrap ((y : Int) * 2 ^ (64 - s)) = ((2 ^ (64 - s) * (y % 2 ^ s) : Nat) : Int) := by
    rw [IntKind.wrap_u64, ← mul_pow_mod y s hs, Int.natCast_emod, Int.natCast_mul, Int.natCast_pow]; rfl
  have a2 : x / 2 ^ s < 2 ^ (64 - s) := by
    rw [Nat.div_lt_iff_lt_mul h2s, Nat.mul_comm, ← e2]; exact hx
  have a5 : y % 2 ^ s < 2 ^ s := Nat.mod_lt _ h2s
  have a6 : 2 ^ (64 - s) * (y % 2 ^ s) < 18446744073709551616 := by rw [← mul_pow_mod y s hs]; exact Nat.mod_lt _ (by omega)
  have a7 : x / 2 ^ s < 18446744073709551616 := Nat.lt_of_le_of_lt (Nat.div_le_self _ _) hx
  rw [c1, c2, bits_or_u64_nat _ _ a7 a6, Nat.or_comm, ← Nat.two_pow_add_eq_or_of_lt a2, Nat.add_comm]

end Go.Proofs.Num
namespace Go.Proofs.Num
/-- How many binary digits a number has. -/
def nbits (n : Nat) : Nat := if n = 0 then 0 else n.log2 + 1
theorem nbits_zero : nbits 0 = 0 := rfl
theorem nbits_pos {n : Nat} (h : n ≠ 0) : nbits n = n.log2 + 1 := by unfold nbits; rw [if_neg h]
theorem nbits_lt (n : Nat) : n < 2 ^ nbits n := by
  by_cases h : n = 0
  · subst h; simp [nbits]
  · rw [nbits_pos h]; exact Nat.lt_log2_self
theorem nbits_ge {n : Nat} (h : n ≠ 0) : 2 ^ (nbits n - 1) ≤ n := by
  rw [nbits_pos h]; exact Nat.log2_self_le h
theorem nbits_eq {n k : Nat} (h1 : 2 ^ k ≤ n) (h2 : n < 2 ^ (k + 1)) : nbits n = k + 1 := by
  have h0 : n ≠ 0 := by have := Nat.two_pow_pos k; omega
  rw [nbits_pos h0, (Nat.log2_eq_iff h0).2 ⟨h1, h2⟩]
theorem nbits_shift {n k : Nat} (h : n / 2 ^ k ≠ 0) : nbits n = k + nbits (n / 2 ^ k) := by
  have hp := Nat.two_pow_pos k
  have h1 := nbits_ge h
  have h2 := nbits_lt (n / 2 ^ k)
  have h3 : nbits (n / 2 ^ k) = (n / 2 ^ k).log2 + 1 := nbits_pos h
  generalize nbits (n / 2 ^ k) = m at *
  obtain ⟨m, rfl⟩ : ∃ j, m = j + 1 := ⟨(n / 2 ^ k).log2, h3⟩
  rw [show k + (m + 1) = (k + m) + 1 by omega]
  refine nbits_eq ?_ ?_
  · rw [Nat.pow_add, Nat.mul_comm]; exact (Nat.le_div_iff_mul_le hp).1 (by simpa using h1)
  · rw [show k + m + 1 = (m + 1) + k by omega, Nat.pow_add]; exact (Nat.div_lt_iff_lt_mul hp).1 h2
theorem nbits_le {n k : Nat} (h : n < 2 ^ k) : nbits n ≤ k := by
  by_cases h0 : n = 0
  · subst h0; simp [nbits]
  · have h1 := nbits_ge h0
    rcases Nat.lt_or_ge k (nbits n) with hk | hk
    · have := Nat.pow_le_pow_right (show 0 < 2 by omega) (show k ≤ nbits n - 1 by omega)
      omega
    · exact hk
theorem lt_of_nbits {n k : Nat} (h : nbits n ≤ k) : n < 2 ^ k := Nat.lt_of_lt_of_le (nbits_lt n) (Nat.pow_le_pow_right (by omega) h)

theorem bitLen_nbits (x : Nat) (h : x < 2 ^ 64) : Lib.bitLen x = nbits x := by
  induction x using Nat.strongRecOn with
  | ind x ih =>
    by_cases h0 : x = 0
    · subst h0; decide
    · rw [Lib.bitLen_half x h0 h, ih (x / 2) (by omega) (by omega)]
      by_cases h2 : x / 2 = 0
      · have : x = 1 := by omega
        subst this; decide
      · rw [nbits_shift (n := x) (k := 1) (by simpa using h2)]

/-- The binary digits of a number in words: out of its last word. -/
theorem nbits_words {n L v : Nat} (hL : (dig 18446744073709551616 n).length = L + 1) (hv : (dig 18446744073709551616 n)[L]? = some v) : nbits n = 64 * L + nbits v := by
  have e := dig_getElem? (b := 18446744073709551616) (by omega) hv
  have h1 := dig_len_lt (b := 18446744073709551616) (n := n) (by omega)
  have h2 := dig_len_ge (b := 18446744073709551616) (n := n) (by omega) (by omega)
  rw [hL] at h1 h2
  simp only [Nat.add_sub_cancel] at h2
  have hp : 0 < 18446744073709551616 ^ L := Nat.pow_pos (by omega)
  have h3 : n / 18446744073709551616 ^ L < 18446744073709551616 := by
    rw [Nat.div_lt_iff_lt_mul hp, Nat.mul_comm, ← Nat.pow_succ]; exact h1
  have h4 : n / 18446744073709551616 ^ L ≠ 0 := by
    intro h0
    rcases Nat.div_eq_zero_iff.1 h0 with h | h <;> omega
  rw [Nat.mod_eq_of_lt h3] at e
  have e1 : (2 : Nat) ^ (64 * L) = 18446744073709551616 ^ L := by rw [Nat.pow_mul]
  rw [e, ← e1]
  refine nbits_shift ?_
  rw [e1]; exact h4

/-- How two numbers compare. -/
def cmpN (m n : Nat) : Int := if m < n then -1 else if m = n then 0 else 1
theorem cmpN_lt {m n : Nat} (h : m < n) : cmpN m n = -1 := by unfold cmpN; rw [if_pos h]
theorem cmpN_eq (m : Nat) : cmpN m m = 0 := by unfold cmpN; rw [if_neg (by omega), if_pos rfl]
theorem cmpN_gt {m n : Nat} (h : n < m) : cmpN m n = 1 := by unfold cmpN; rw [if_neg (by omega), if_neg (by omega)]

theorem lt_of_len {b m n : Nat} (hb : 2 ≤ b) (h : (dig b m).length < (dig b n).length) : m < n := by
  have h1 := dig_len_lt hb (n := m)
  have h2 := dig_len_ge hb (n := n) (by omega)
  have := Nat.pow_le_pow_right (show 0 < b by omega) (show (dig b m).length ≤ (dig b n).length - 1 by omega)
  omega
theorem cmp_of_len {b m n : Nat} (hb : 2 ≤ b) (h : (dig b m).length ≠ (dig b n).length) : cmpN (dig b m).length (dig b n).length = cmpN m n := by
  rcases Nat.lt_or_gt_of_ne h with h | h
  · rw [cmpN_lt h, cmpN_lt (lt_of_len hb h)]
  · rw [cmpN_gt h, cmpN_gt (lt_of_len hb h)]
/-- Equal above digit i, which tells. -/
theorem lt_of_digit {b m n i x y : Nat} (hb : 2 ≤ b) (hx : (dig b m)[i]? = some x) (hy : (dig b n)[i]? = some y) (hd : m / b ^ (i + 1) = n / b ^ (i + 1)) (h : x < y) : m < n := by
  have e1 := dig_getElem? hb hx
  have e2 := dig_getElem? hb hy
  have hp : 0 < b ^ i := Nat.pow_pos (by omega)
  rw [Nat.pow_succ, ← Nat.div_div_eq_div_mul, ← Nat.div_div_eq_div_mul] at hd
  have f1 := Nat.mod_add_div (m / b ^ i) b
  have f2 := Nat.mod_add_div (n / b ^ i) b
  rw [← e1, hd] at f1
  rw [← e2] at f2
  have : m / b ^ i < n / b ^ i := by omega
  rcases Nat.lt_or_ge m n with hlt | hge
  · exact hlt
  · have := Nat.div_le_div_right (c := b ^ i) hge; omega
theorem eq_step {b m n i x : Nat} (hb : 2 ≤ b) (hx : (dig b m)[i]? = some x) (hy : (dig b n)[i]? = some x) (hd : m / b ^ (i + 1) = n / b ^ (i + 1)) : m / b ^ i = n / b ^ i := by
  have e1 := dig_getElem? hb hx
  have e2 := dig_getElem? hb hy
  rw [Nat.pow_succ, ← Nat.div_div_eq_div_mul, ← Nat.div_div_eq_div_mul] at hd
  have f1 := Nat.mod_add_div (m / b ^ i) b
  have f2 := Nat.mod_add_div (n / b ^ i) b
  rw [← e1, hd] at f1
  rw [← e2] at f2
  omega
end Go.Proofs.Num

namespace Go.Proofs.Ytaegkhdkhgemmaa
open Go.RowKit Num

theorem pow_b64 (i : Nat) : (2 : Nat) ^ (64 * i) = B64 ^ i := by rw [Nat.pow_mul]; rfl

set_option maxHeartbeats 400000 in
theorem window_any (A : Option Addr) (c L n f : Nat) (w : World) (h : Nums .u64 w A (dig B64 n)) (hL : L = (dig B64 n).length) (hl : L ≤ 1000000000000) (hf : f ≤ 100000000000000) :
    Calls Try.prog 77 #[.slice A L c, .int .i64 (f : Int)] w fun e w' => e = .returned (.int .u64 ((n / 2 ^ f % B64 : Nat) : Int)) ∧ w = w' := by
  obtain ⟨i, s, hs, hfe⟩ : ∃ i s, s < 64 ∧ f = 64 * i + s := ⟨f / 64, f % 64, Nat.mod_lt _ (by omega), by omega⟩
  have hw : n / 2 ^ f % B64 = (n / B64 ^ i % B64) / 2 ^ s + 2 ^ (64 - s) * (n / B64 ^ (i + 1) % B64 % 2 ^ s) := by
    rw [hfe]; exact win_of n i s hs
  have e1 : (f : Int) / 64 = (i : Int) := by omega
  have e2 : (f : Int) % 64 = (s : Int) := by omega
  have hi0 : i ≤ 100000000000000 := by omega
  generalize n / 2 ^ f % B64 = r at *
  have HW := Lib.hid hw
  clear hw hfe
  generalize hF : (f : Int) = F at *
  have hF0 : 0 ≤ F := by omega
  have hF1 : F ≤ 100000000000000 := by omega
  clear hF
  by_cases h0 : i < L
  · obtain ⟨g, off, x, rfl, hg, hx, hcx⟩ := h.at_ (i := i) (by omega)
    have hxv := dig_getElem? b64_two hx
    have hxl : x < B64 := by rw [hxv]; exact Nat.mod_lt _ b64_pos
    by_cases h1 : i + 1 < L
    · obtain ⟨g', off', y, he, _, hy, hcy⟩ := h.at_ (i := i + 1) (by omega)
      simp only [Option.some.injEq, Addr.mk.injEq] at he
      obtain ⟨rfl, rfl, _⟩ := he
      have hyv := dig_getElem? b64_two hy
      have HB := Lib.hid (win_bits x y s hxl hs)
      have HX := Lib.hid hxv
      have HY := Lib.hid hyv
      have h1' : (i : Int) + 1 < (L : Int) := by omega
      have HL := Lib.hid hL
      clear hxv hyv hx hy h hxl hL
      go_enter Try.func77, Try.ntmps77
      go_wp2
      go_ret
      refine ⟨ret_i ?_, rfl⟩
      rw [HB.out, HW.out, HX.out, HY.out]
    · have HX := Lib.hid hxv
      have hd0 : n / B64 ^ (i + 1) = 0 := div_pow_len b64_two (by omega)
      have HD := Lib.hid hd0
      have h1' : ¬ (i : Int) + 1 < (L : Int) := by omega
      have HL := Lib.hid hL
      clear hxv hx h hxl hd0 hL
      go_enter Try.func77, Try.ntmps77
      go_wp2
      go_ret
      refine ⟨ret_i ?_, rfl⟩
      rw [HW.out, HX.out, HD.out]; simp
  · have hd0 : n / B64 ^ i = 0 := div_pow_len b64_two (by omega)
    have hd1 : n / B64 ^ (i + 1) = 0 := div_pow_len b64_two (by omega)
    have HD := Lib.hid hd0
    have HE := Lib.hid hd1
    have h1' : ¬ (i : Int) + 1 < (L : Int) := by omega
    have HL := Lib.hid hL
    clear hd0 hd1 h hL
    go_enter Try.func77, Try.ntmps77
    go_wp2
    go_ret
    refine ⟨ret_i ?_, rfl⟩
    rw [HW.out, HD.out, HE.out]
    simp
end Go.Proofs.Ytaegkhdkhgemmaa

namespace Go.Proofs.Ytaegkhdkhgemmaa
open Go.RowKit Num

theorem len64_nat (x : Nat) (w : World) (hx : x < B64) : Calls Try.prog 115 #[.int .u64 (x : Int)] w fun e w' => e = .returned (.int .i64 (nbits x : Nat)) ∧ w = w' := by
  have h := len64_int (x : Int) w (by omega) (by unfold B64 at hx; omega)
  rw [Int.toNat_natCast, bitLen_nbits x (by unfold B64 at hx; omega)] at h
  exact h
theorem nbits_64 {x : Nat} (hx : x < B64) : nbits x ≤ 64 := nbits_le (k := 64) hx

set_option maxHeartbeats 400000 in
theorem bits_any (A : Option Addr) (c L n : Nat) (w : World) (h : Nums .u64 w A (dig B64 n)) (hL : L = (dig B64 n).length) (hl : L ≤ 1000000000000) :
    Calls Try.prog 91 #[.slice A L c] w fun e w' => e = .returned (.int .i64 (nbits n : Nat)) ∧ w = w' := by
  by_cases h0 : L = 0
  · subst h0
    have hn : n = 0 := (dig_nil_iff b64_two).1 (List.eq_nil_of_length_eq_zero hL.symm)
    subst hn
    clear hL h
    go_enter Try.func91, Try.ntmps91
    go_wp2
    go_ret
    exact ⟨ret_i (by rw [nbits_zero]; rfl), rfl⟩
  · obtain ⟨K, rfl⟩ : ∃ K, L = K + 1 := ⟨L - 1, by omega⟩
    obtain ⟨g, off, v, rfl, hg, hv, hcv⟩ := h.at_ (i := K) (by omega)
    have hb := nbits_words hL.symm hv
    have hvl : v < B64 := by rw [dig_getElem? b64_two hv]; exact Nat.mod_lt _ b64_pos
    have hv64 := nbits_64 hvl
    have HL := Lib.hid hL
    generalize nbits n = r at *
    have HB := Lib.hid hb
    clear h hv hb hL
    have hne : (((K : Int) + 1) == 0) = false := by simp; omega
    have hcall := fun w => len64_nat v w hvl
    have HC := Lib.hid hcall
    clear hcall
    generalize nbits v = q at *
    go_enter Try.func91, Try.ntmps91
    go_wp2_with (go_at_call 115; refine (HC.out _).mono ?_; rintro e w' ⟨rfl, rfl⟩)
    go_ret
    exact ⟨ret_i (by rw [HB.out]; push_cast; omega), rfl⟩
end Go.Proofs.Ytaegkhdkhgemmaa

namespace Go.Proofs.Ytaegkhdkhgemmaa
open Go.RowKit Num

theorem m_mask (a : Nat) (ha : a < 18446744073709551616) : bits .and .u64 (a : Int) 4294967295 = ((a % 4294967296 : Nat) : Int) := by
  have h := bits_and_u64_nat a 4294967295 ha (by omega)
  rw [show a &&& 4294967295 = a % 4294967296 from Nat.and_two_pow_sub_one_eq_mod a 32] at h
  exact h
theorem m_div (a : Nat) : (a : Int) / 4294967296 = ((a / 4294967296 : Nat) : Int) := by omega
theorem m_mul (a b : Nat) : (a : Int) * (b : Int) = ((a * b : Nat) : Int) := (Int.natCast_mul a b).symm
theorem m_add (a b : Nat) : (a : Int) + (b : Int) = ((a + b : Nat) : Int) := (Int.natCast_add a b).symm
theorem m_in (a : Nat) (ha : a < 18446744073709551616) : IntKind.u64.wrap (a : Int) = (a : Int) := by rw [IntKind.wrap_u64]; omega
theorem m_wrap (a : Nat) : IntKind.u64.wrap (a : Int) = ((a % 18446744073709551616 : Nat) : Int) := by rw [IntKind.wrap_u64]; omega

set_option maxHeartbeats 1000000 in
set_option maxRecDepth 100000 in
theorem mul64_raw (x y : Nat) (hx : x < B64) (hy : y < B64) (w : World) :
    Calls Try.prog 121 #[.int .u64 (x : Int), .int .u64 (y : Int)] w fun e w' => e = .returned (.tuple #[.int .u64 ((x * y / 18446744073709551616 : Nat) : Int), .int .u64 ((x * y % 18446744073709551616 : Nat) : Int)]) ∧ w = w' := by
  obtain ⟨h1, h2, h3, h4⟩ := Lib.mul64_hi x y hx hy
  have H1 := Lib.hid h1
  have H2 := Lib.hid h2
  have H3 := Lib.hid h3
  have H4 := Lib.hid h4
  clear h1 h2 h3 h4
  go_enter Try.func121, Try.ntmps121
  go_wp2
  have a1 := H1.out
  have a2 := H2.out
  have a3 := H3.out
  have p1 := Lib.half_mul_le (a := x / 4294967296) (b := y / 4294967296) (by unfold B64 at hx; omega) (by unfold B64 at hy; omega)
  have p2 := Lib.half_mul_le (a := x / 4294967296) (b := y % 4294967296) (by unfold B64 at hx; omega) (by omega)
  have p3 := Lib.half_mul_le (a := x % 4294967296) (b := y / 4294967296) (by omega) (by unfold B64 at hy; omega)
  simp only [m_mask x hx, m_mask y hy, m_div, m_mul, m_add, m_in _ a1, m_in (x / 4294967296 * (y % 4294967296)) (by omega), m_in _ a2, m_mask _ a2, m_in (x % 4294967296 * (y / 4294967296)) (by omega), m_in _ a3,
    m_in (x / 4294967296 * (y / 4294967296)) (by omega)]
  have a4 := H4.out
  have hxy : x * y / 18446744073709551616 < 18446744073709551616 := by
    rw [Nat.div_lt_iff_lt_mul (by omega)]
    exact Nat.mul_lt_mul_of_lt_of_lt hx hy
  rw [m_in (x / 4294967296 * (y / 4294967296) + (x / 4294967296 * (y % 4294967296) + x % 4294967296 * (y % 4294967296) / 4294967296) / 4294967296) (by omega), m_add, m_in _ (by omega), m_wrap, a4]
  go_ret2
  exact ⟨rfl, rfl⟩
/-- A product of two words: under names. -/
theorem mul64_ex (x y : Nat) (hx : x < B64) (hy : y < B64) : ∃ hi lo : Nat,
    (∀ w, Calls Try.prog 121 #[.int .u64 (x : Int), .int .u64 (y : Int)] w fun e w' => e = .returned (.tuple #[.int .u64 (hi : Int), .int .u64 (lo : Int)]) ∧ w = w') ∧
    lo + B64 * hi = x * y ∧ lo < B64 ∧ hi + 1 < B64 := by
  refine ⟨x * y / B64, x * y % B64, fun w => mul64_raw x y hx hy w, Nat.mod_add_div _ _, Nat.mod_lt _ b64_pos, ?_⟩
  have h1 : x * y ≤ 18446744073709551615 * 18446744073709551615 := Nat.mul_le_mul (by unfold B64 at hx; omega) (by unfold B64 at hy; omega)
  unfold B64
  omega
end Go.Proofs.Ytaegkhdkhgemmaa

/- Plain laws of division by digits: no program, no memory. -/
namespace Go.Proofs.Num

/-- One digit of a quotient by halves of words: q is not too small, q and rest make the upper part. -/
structure DigSt (K y1 y0 U u q r : Nat) : Prop where
  eq : q * y1 + r = U
  up : U * K + u < (q + 1) * (y1 * K + y0)
  rl : r < K
  ql : q ≤ K + 1

theorem DigSt.start {K y1 y0 U u : Nat} (hy : K ≤ 2 * y1) (hy1 : y1 < K) (hy0 : y0 < K) (hU : U < y1 * K + y0) (hu : u < K) : DigSt K y1 y0 U u (U / y1) (U % y1) := by
  have hp : 0 < y1 := by omega
  have h1 := Nat.div_add_mod U y1
  have h2 := Nat.mod_lt U hp
  generalize U / y1 = q at *
  generalize U % y1 = r at *
  refine ⟨by rw [Nat.mul_comm]; exact h1, ?_, by omega, ?_⟩
  · have h3 : U + 1 ≤ (q + 1) * y1 := by rw [Nat.add_mul, Nat.mul_comm q]; omega
    have h4 : (U + 1) * K ≤ (q + 1) * y1 * K := Nat.mul_le_mul_right _ h3
    rw [Nat.add_mul] at h4
    have h5 : (q + 1) * (y1 * K + y0) = (q + 1) * y1 * K + (q + 1) * y0 := by rw [Nat.mul_add, Nat.mul_assoc]
    omega
  · rcases Nat.lt_or_ge (K + 1) q with h | h
    · exfalso
      have h3 : (K + 2) * y1 ≤ q * y1 := Nat.mul_le_mul_right _ h
      rw [Nat.add_mul, Nat.mul_comm K] at h3
      rw [Nat.mul_comm] at h1
      omega
    · exact h

/-- The test of a digit that is below the base. -/
theorem DigSt.test {K y1 y0 U u q r : Nat} (h : DigSt K y1 y0 U u q r) : r * K + u < q * y0 ↔ U * K + u < q * (y1 * K + y0) := by
  have e : q * (y1 * K + y0) = q * y1 * K + q * y0 := by rw [Nat.mul_add, Nat.mul_assoc]
  have e2 : U * K = q * y1 * K + r * K := by rw [← h.eq, Nat.add_mul]
  omega
theorem DigSt.pos {K y1 y0 U u q : Nat} (h : U * K + u < q * (y1 * K + y0)) : 0 < q := by
  rcases Nat.eq_zero_or_pos q with h0 | h0
  · subst h0; simp at h
  · exact h0
/-- A digit that is not below the base is too great. -/
theorem DigSt.big {K y1 y0 U u q : Nat} (hU : U < y1 * K + y0) (hu : u < K) (hq : K ≤ q) : U * K + u < q * (y1 * K + y0) := by
  have h1 : (U + 1) * K ≤ (y1 * K + y0) * K := Nat.mul_le_mul_right _ hU
  have h2 : K * (y1 * K + y0) ≤ q * (y1 * K + y0) := Nat.mul_le_mul_right _ hq
  rw [Nat.add_mul] at h1
  rw [Nat.mul_comm] at h2
  omega
/-- One less, while the rest stays below the base. -/
theorem DigSt.step {K y1 y0 U u q r : Nat} (h : DigSt K y1 y0 U u q r) (hc : U * K + u < q * (y1 * K + y0)) (hr : r + y1 < K) : DigSt K y1 y0 U u (q - 1) (r + y1) := by
  have h0 := DigSt.pos hc
  obtain ⟨p, rfl⟩ : ∃ p, q = p + 1 := ⟨q - 1, by omega⟩
  have h1 := h.eq
  have h2 := h.ql
  refine ⟨?_, by simpa using hc, hr, by omega⟩
  rw [Nat.add_mul] at h1
  simp only [Nat.add_sub_cancel]
  omega
/-- The digit, its product with the divisor, and what is left. -/
def IsDig (Y A q : Nat) : Prop := q * Y ≤ A ∧ A < q * Y + Y
theorem IsDig.div {Y A q : Nat} (h : IsDig Y A q) : A / Y = q ∧ A % Y = A - q * Y := by
  obtain ⟨h1, h2⟩ := h
  have hY : 0 < Y := by omega
  obtain ⟨r, rfl⟩ : ∃ r, A = q * Y + r := ⟨A - q * Y, by omega⟩
  have hr : r < Y := by omega
  rw [Nat.mul_comm q Y, Nat.mul_add_div hY, Nat.div_eq_of_lt hr, Nat.mul_add_mod, Nat.mod_eq_of_lt hr]
  omega
theorem DigSt.good {K y1 y0 U u q r : Nat} (h : DigSt K y1 y0 U u q r) (hc : ¬ U * K + u < q * (y1 * K + y0)) : IsDig (y1 * K + y0) (U * K + u) q := by
  have := h.up
  rw [Nat.add_mul, Nat.one_mul] at this
  exact ⟨by omega, this⟩
/-- .. or until the rest leaves the base: then the digit is right. -/
theorem DigSt.leave {K y1 y0 U u q r : Nat} (h : DigSt K y1 y0 U u q r) (hc : U * K + u < q * (y1 * K + y0)) (hy0 : y0 < K) (hr : K ≤ r + y1) : IsDig (y1 * K + y0) (U * K + u) (q - 1) := by
  have h0 := DigSt.pos hc
  obtain ⟨p, rfl⟩ : ∃ p, q = p + 1 := ⟨q - 1, by omega⟩
  have h1 := h.eq
  have h2 := h.ql
  simp only [Nat.add_sub_cancel]
  rw [Nat.add_mul] at h1
  refine ⟨?_, by rw [Nat.add_mul, Nat.one_mul] at hc; exact hc⟩
  have e : p * (y1 * K + y0) = p * y1 * K + p * y0 := by rw [Nat.mul_add, Nat.mul_assoc]
  have e2 : U * K = p * y1 * K + (r + y1) * K := by rw [← Nat.add_mul]; congr 1; omega
  have e3 : K * K ≤ (r + y1) * K := Nat.mul_le_mul_right _ hr
  have e4 : p * y0 ≤ K * K := Nat.mul_le_mul (by omega) (by omega)
  omega

/-- Two digits make the quotient. -/
theorem two_digs {K Y U u1 u0 q1 q0 R1 : Nat} (h1 : IsDig Y (U * K + u1) q1) (hR : R1 = U * K + u1 - q1 * Y) (h0 : IsDig Y (R1 * K + u0) q0) :
    IsDig Y ((U * K + u1) * K + u0) (q1 * K + q0) ∧ (U * K + u1) * K + u0 - (q1 * K + q0) * Y = R1 * K + u0 - q0 * Y := by
  obtain ⟨a1, a2⟩ := h1
  obtain ⟨b1, b2⟩ := h0
  have e : (q1 * K + q0) * Y = q1 * Y * K + q0 * Y := by rw [Nat.add_mul, Nat.mul_right_comm]
  have e2 : (U * K + u1) * K = R1 * K + q1 * Y * K := by rw [← Nat.add_mul]; congr 1; omega
  refine ⟨⟨?_, ?_⟩, ?_⟩ <;> omega

/-- Estimate of a digit by the first two words of the divisor: right, or one too great. -/
theorem est_le {D2 T3 E rest restb Bn A q d : Nat} (hA : A = T3 * E + rest) (hb : Bn = D2 * E + restb) (hr : rest < E) (hq : q * Bn ≤ A) (hd : T3 < (d + 1) * D2) : q ≤ d := by
  rcases Nat.lt_or_ge d q with h | h
  · exfalso
    have h1 : (d + 1) * Bn ≤ q * Bn := Nat.mul_le_mul_right _ h
    have h2 : (d + 1) * Bn = (d + 1) * D2 * E + (d + 1) * restb := by rw [hb, Nat.mul_add, Nat.mul_assoc]
    have h3 : (T3 + 1) * E ≤ (d + 1) * D2 * E := Nat.mul_le_mul_right _ hd
    rw [Nat.add_mul] at h3
    omega
  · exact h
theorem est_ge {D2 T3 E rest restb Bn A q d : Nat} (hA : A = T3 * E + rest) (hb : Bn = D2 * E + restb) (hrb : restb < E) (hq : A < q * Bn + Bn) (hd : d * D2 ≤ T3) (hle : d ≤ D2) : d ≤ q + 1 := by
  rcases Nat.lt_or_ge (q + 1) d with h | h
  · exfalso
    obtain ⟨c, rfl⟩ : ∃ c, d = c + 1 := ⟨d - 1, by omega⟩
    have h1 : (q + 1) * Bn ≤ c * Bn := Nat.mul_le_mul_right _ (by omega)
    rw [Nat.add_mul, Nat.one_mul] at h1
    have h2 : c * Bn ≤ c * ((D2 + 1) * E) := Nat.mul_le_mul_left _ (by rw [hb, Nat.add_mul]; omega)
    have h3 : c * ((D2 + 1) * E) ≤ T3 * E := by
      rw [← Nat.mul_assoc]
      refine Nat.mul_le_mul_right _ ?_
      rw [Nat.mul_add, Nat.mul_one]
      rw [Nat.add_mul, Nat.one_mul] at hd
      omega
    omega
  · exact h
/-- .. also where the first words are equal. -/
theorem est_top {B b1 E A Bn q : Nat} (hA : b1 * B * E ≤ A) (hb : Bn < (b1 + 1) * E) (hh : B ≤ 2 * b1) (hq : A < q * Bn + Bn) (hqB : q < B) : q ≤ B - 1 ∧ B - 1 ≤ q + 1 := by
  refine ⟨by omega, ?_⟩
  rcases Nat.lt_or_ge (q + 1) (B - 1) with h | h
  · exfalso
    obtain ⟨c, rfl⟩ : ∃ c, B = c + 2 := ⟨B - 2, by omega⟩
    have h1 : (q + 1) * Bn ≤ c * Bn := Nat.mul_le_mul_right _ (by omega)
    rw [Nat.add_mul, Nat.one_mul] at h1
    have h2 : c * Bn ≤ c * ((b1 + 1) * E) := Nat.mul_le_mul_left _ (by omega)
    have h3 : c * ((b1 + 1) * E) ≤ b1 * (c + 2) * E := by
      rw [← Nat.mul_assoc]
      refine Nat.mul_le_mul_right _ ?_
      rw [Nat.mul_add, Nat.mul_add, Nat.mul_one, Nat.mul_comm c b1]
      omega
    omega
  · exact h

end Go.Proofs.Num

/- Plain laws: a number in a part of a row, and what adding, digit by digit, makes of it. -/
namespace Go.Proofs.Num

/-- k digits from place off on. -/
def seg (zs : List Nat) (off k : Nat) : List Nat := (zs.drop off).take k

theorem seg_zero (zs : List Nat) (off : Nat) : seg zs off 0 = [] := by simp [seg]
theorem seg_len {zs : List Nat} {off k : Nat} (h : off + k ≤ zs.length) : (seg zs off k).length = k := by simp [seg]; omega
theorem seg_low {b : Nat} {zs : List Nat} (h : Low b zs) (off k : Nat) : Low b (seg zs off k) := (h.drop off).take k
theorem seg_get? (zs : List Nat) (off k i : Nat) : (seg zs off k)[i]? = if i < k then zs[off + i]? else none := by
  simp only [seg, List.getElem?_take, List.getElem?_drop]
theorem seg_all (zs : List Nat) : seg zs 0 zs.length = zs := by simp [seg]
theorem seg_congr {zs ys : List Nat} {off k : Nat} (h : ∀ i, off ≤ i → i < off + k → zs[i]? = ys[i]?) : seg zs off k = seg ys off k := by
  apply List.ext_getElem?
  intro i
  rw [seg_get?, seg_get?]
  split
  · exact h _ (by omega) (by omega)
  · rfl
theorem val_seg_succ (b : Nat) {zs : List Nat} {off k v : Nat} (h : zs[off + k]? = some v) : val b (seg zs off (k + 1)) = val b (seg zs off k) + b ^ k * v := by
  have hl := (List.getElem?_eq_some_iff.1 h).1
  have hv := (List.getElem?_eq_some_iff.1 h).2
  have h1 : k < (zs.drop off).length := by simp; omega
  have := val_take_succ b (zs.drop off) k h1
  rw [List.getElem_drop, hv] at this
  exact this
theorem val_seg_add (b : Nat) {zs : List Nat} {off j k : Nat} (h : off + j + k ≤ zs.length) : val b (seg zs off (j + k)) = val b (seg zs off j) + b ^ j * val b (seg zs (off + j) k) := by
  have e : seg zs off (j + k) = seg zs off j ++ seg zs (off + j) k := by
    unfold seg
    rw [List.take_add, List.drop_drop]
  rw [e, val_append, seg_len (by omega)]
theorem seg_set_far {zs : List Nat} {off k i v : Nat} (h : i < off ∨ off + k ≤ i) : seg (zs.set i v) off k = seg zs off k := seg_congr fun j h1 h2 => by
  rw [List.getElem?_set, if_neg (by omega)]

/-- After k digits: what has been written at off .. is the sum of what stood there and of the first k digits of xs, but for the carry. -/
structure AddSt (b : Nat) (zs xs : List Nat) (off k : Nat) (zs' : List Nat) (c : Nat) : Prop where
  len : zs'.length = zs.length
  low : Low b zs'
  le : c ≤ 1
  far : ∀ i, i < off ∨ off + k ≤ i → zs'[i]? = zs[i]?
  eq : val b (seg zs' off k) + b ^ k * c = val b (seg zs off k) + val b (xs.take k)

theorem AddSt.start {b : Nat} {zs xs : List Nat} {off : Nat} (hz : Low b zs) : AddSt b zs xs off 0 zs 0 :=
  ⟨rfl, hz, by omega, fun _ _ => rfl, by simp [seg_zero, val]⟩

theorem AddSt.step {b : Nat} {zs xs zs' : List Nat} {off k c v x lo hi : Nat} (h : AddSt b zs xs off k zs' c)
    (hv : zs'[off + k]? = some v) (hx : xs.getD k 0 = x) (hs : lo + b * hi = v + x + c) (hlo : lo < b) (hhi : hi ≤ 1) :
    AddSt b zs xs off (k + 1) (zs'.set (off + k) lo) hi := by
  have hlen := (List.getElem?_eq_some_iff.1 hv).1
  refine ⟨by rw [List.length_set]; exact h.len, h.low.set hlo, hhi, fun i hi' => ?_, ?_⟩
  · rw [List.getElem?_set, if_neg (by omega)]
    exact h.far i (by omega)
  · have hz : zs[off + k]? = some v := by rw [← h.far (off + k) (by omega)]; exact hv
    have hnew : (zs'.set (off + k) lo)[off + k]? = some lo := by rw [List.getElem?_set_self hlen]
    have ht : val b (xs.take (k + 1)) = val b (xs.take k) + b ^ k * x := by
      by_cases hk : k < xs.length
      · rw [val_take_succ b xs k hk, ← hx]
        simp [List.getD_eq_getElem?_getD, List.getElem?_eq_getElem hk]
      · have : x = 0 := by rw [← hx]; simp [List.getD_eq_getElem?_getD, List.getElem?_eq_none (show xs.length ≤ k by omega)]
        rw [this, List.take_of_length_le (by omega), List.take_of_length_le (by omega)]; simp
    rw [val_seg_succ b hnew, val_seg_succ b hz, ht, seg_set_far (by omega)]
    have e := h.eq
    have : b ^ k * (lo + b * hi) = b ^ k * (v + x + c) := by rw [hs]
    rw [Nat.pow_succ]
    grind

/-- Behind a carry of 0 the rest stays as it was. -/
theorem AddSt.rest {b : Nat} {zs xs zs' : List Nat} {off k n : Nat} (h : AddSt b zs xs off k zs' 0) (hk : k ≤ n) (hx : xs.length ≤ k) (hn : off + n ≤ zs.length) : AddSt b zs xs off n zs' 0 := by
  obtain ⟨j, rfl⟩ : ∃ j, n = k + j := ⟨n - k, by omega⟩
  refine ⟨h.len, h.low, h.le, fun i hi => h.far i (by omega), ?_⟩
  have e := h.eq
  rw [List.take_of_length_le (by omega)] at e ⊢
  rw [val_seg_add b (by rw [h.len]; omega), val_seg_add b (by omega), seg_congr (zs := zs') (ys := zs) (off := off + k) (k := j) (fun i h1 h2 => h.far i (by omega))]
  simp at e ⊢
  omega
end Go.Proofs.Num
namespace Go.Proofs.Num
/-- After k digits: xs times m has been added. -/
structure ScaleSt (b : Nat) (zs xs : List Nat) (m off k : Nat) (zs' : List Nat) (c : Nat) : Prop where
  len : zs'.length = zs.length
  low : Low b zs'
  le : c < b
  far : ∀ i, i < off ∨ off + k ≤ i → zs'[i]? = zs[i]?
  eq : val b (seg zs' off k) + b ^ k * c = val b (seg zs off k) + val b (xs.take k) * m

theorem ScaleSt.start {b : Nat} (hb : 2 ≤ b) {zs xs : List Nat} {m off : Nat} (hz : Low b zs) : ScaleSt b zs xs m off 0 zs 0 :=
  ⟨rfl, hz, by omega, fun _ _ => rfl, by simp [seg_zero, val]⟩

theorem ScaleSt.step {b : Nat} {zs xs zs' : List Nat} {m off k c v x lo hi : Nat} (h : ScaleSt b zs xs m off k zs' c)
    (hv : zs'[off + k]? = some v) (hx : xs[k]? = some x) (hs : lo + b * hi = v + x * m + c) (hlo : lo < b) (hhi : hi < b) :
    ScaleSt b zs xs m off (k + 1) (zs'.set (off + k) lo) hi := by
  have hlen := (List.getElem?_eq_some_iff.1 hv).1
  refine ⟨by rw [List.length_set]; exact h.len, h.low.set hlo, hhi, fun i hi' => ?_, ?_⟩
  · rw [List.getElem?_set, if_neg (by omega)]
    exact h.far i (by omega)
  · have hz : zs[off + k]? = some v := by rw [← h.far (off + k) (by omega)]; exact hv
    have hnew : (zs'.set (off + k) lo)[off + k]? = some lo := by rw [List.getElem?_set_self hlen]
    have hk := (List.getElem?_eq_some_iff.1 hx).1
    have ht : val b (xs.take (k + 1)) = val b (xs.take k) + b ^ k * x := by
      rw [val_take_succ b xs k hk, (List.getElem?_eq_some_iff.1 hx).2]
    rw [val_seg_succ b hnew, val_seg_succ b hz, ht, seg_set_far (by omega)]
    have e := h.eq
    have : b ^ k * (lo + b * hi) = b ^ k * (v + x * m + c) := by rw [hs]
    rw [Nat.pow_succ]
    grind
theorem word_bound {b v x m c hi lo : Nat} (hv : v < b) (hx : x < b) (hm : m < b) (hc : c < b) (h : lo + b * hi = v + x * m + c) : hi < b := by
  have h1 : x * m ≤ (b - 1) * (b - 1) := Nat.mul_le_mul (by omega) (by omega)
  have h2 : (b - 1) * (b - 1) + 2 * (b - 1) + 1 = b * b := by
    obtain ⟨j, rfl⟩ : ∃ j, b = j + 1 := ⟨b - 1, by omega⟩
    simp only [Nat.add_sub_cancel]; grind
  rcases Nat.lt_or_ge hi b with h3 | h3
  · exact h3
  · have := Nat.mul_le_mul_left b h3
    omega
end Go.Proofs.Num
namespace Go.Proofs.Num
/-- After k digits: the first k digits of xs have been taken away, but for the borrow. -/
structure SubSt (b : Nat) (zs xs : List Nat) (off k : Nat) (zs' : List Nat) (c : Nat) : Prop where
  len : zs'.length = zs.length
  low : Low b zs'
  le : c ≤ 1
  far : ∀ i, i < off ∨ off + k ≤ i → zs'[i]? = zs[i]?
  eq : val b (seg zs' off k) + val b (xs.take k) = val b (seg zs off k) + b ^ k * c

theorem SubSt.start {b : Nat} {zs xs : List Nat} {off : Nat} (hz : Low b zs) : SubSt b zs xs off 0 zs 0 :=
  ⟨rfl, hz, by omega, fun _ _ => rfl, by simp [seg_zero, val]⟩

theorem SubSt.step {b : Nat} {zs xs zs' : List Nat} {off k c v x lo hi : Nat} (h : SubSt b zs xs off k zs' c)
    (hv : zs'[off + k]? = some v) (hx : xs.getD k 0 = x) (hs : lo + x + c = v + b * hi) (hlo : lo < b) (hhi : hi ≤ 1) :
    SubSt b zs xs off (k + 1) (zs'.set (off + k) lo) hi := by
  have hlen := (List.getElem?_eq_some_iff.1 hv).1
  refine ⟨by rw [List.length_set]; exact h.len, h.low.set hlo, hhi, fun i hi' => ?_, ?_⟩
  · rw [List.getElem?_set, if_neg (by omega)]
    exact h.far i (by omega)
  · have hz : zs[off + k]? = some v := by rw [← h.far (off + k) (by omega)]; exact hv
    have hnew : (zs'.set (off + k) lo)[off + k]? = some lo := by rw [List.getElem?_set_self hlen]
    have ht : val b (xs.take (k + 1)) = val b (xs.take k) + b ^ k * x := by
      by_cases hk : k < xs.length
      · rw [val_take_succ b xs k hk, ← hx]
        simp [List.getD_eq_getElem?_getD, List.getElem?_eq_getElem hk]
      · have : x = 0 := by rw [← hx]; simp [List.getD_eq_getElem?_getD, List.getElem?_eq_none (show xs.length ≤ k by omega)]
        rw [this, List.take_of_length_le (by omega), List.take_of_length_le (by omega)]; simp
    rw [val_seg_succ b hnew, val_seg_succ b hz, ht, seg_set_far (by omega)]
    have e := h.eq
    have : b ^ k * (lo + x + c) = b ^ k * (v + b * hi) := by rw [hs]
    rw [Nat.pow_succ]
    grind

theorem SubSt.rest {b : Nat} {zs xs zs' : List Nat} {off k n : Nat} (h : SubSt b zs xs off k zs' 0) (hk : k ≤ n) (hx : xs.length ≤ k) (hn : off + n ≤ zs.length) : SubSt b zs xs off n zs' 0 := by
  obtain ⟨j, rfl⟩ : ∃ j, n = k + j := ⟨n - k, by omega⟩
  refine ⟨h.len, h.low, h.le, fun i hi => h.far i (by omega), ?_⟩
  have e := h.eq
  rw [List.take_of_length_le (by omega)] at e ⊢
  rw [val_seg_add b (by rw [h.len]; omega), val_seg_add b (by omega), seg_congr (zs := zs') (ys := zs) (off := off + k) (k := j) (fun i h1 h2 => h.far i (by omega))]
  simp at e ⊢
  omega
end Go.Proofs.Num

/- Plain laws: multiplication by hand's method. -/
namespace Go.Proofs.Num

theorem seg_self {zs : List Nat} {n : Nat} (h : zs.length = n) : seg zs 0 n = zs := by subst h; exact seg_all zs
theorem val_split {b : Nat} {zs : List Nat} {i j r : Nat} (h : zs.length = i + j + r) :
    val b zs = val b (seg zs 0 i) + b ^ i * (val b (seg zs i j) + b ^ j * val b (seg zs (i + j) r)) := by
  have e0 : val b zs = val b (seg zs 0 (i + (j + r))) := by rw [seg_self (by omega)]
  rw [e0, val_seg_add b (by omega), Nat.zero_add, val_seg_add b (by omega)]
theorem val_zero {b : Nat} {xs : List Nat} (h : ∀ (i v : Nat), xs[i]? = some v → v = 0) : val b xs = 0 := by
  have : xs = List.replicate xs.length 0 := by
    apply List.ext_getElem
    · simp
    · intro i h1 h2
      rw [List.getElem_replicate]
      exact h i _ (List.getElem?_eq_getElem h1)
  rw [this, val_replicate]

/-- After i digits of bs. -/
structure MulSt (b : Nat) (us bs : List Nat) (i : Nat) (zs : List Nat) : Prop where
  len : zs.length = us.length + bs.length
  low : Low b zs
  zero : ∀ (j v : Nat), us.length + i ≤ j → zs[j]? = some v → v = 0
  eq : val b zs = val b us * val b (bs.take i)

theorem MulSt.start {b : Nat} (hb : 2 ≤ b) (us bs : List Nat) : MulSt b us bs 0 (List.replicate (us.length + bs.length) 0) :=
  ⟨by simp, Low.replicate (by omega) _, fun j v _ hv => List.eq_of_mem_replicate (List.mem_of_getElem? hv), by rw [val_replicate]; simp [val]⟩

theorem MulSt.step {b : Nat} {us bs zs zs' : List Nat} {i v over : Nat} (h : MulSt b us bs i zs) (hi : i < bs.length) (hv : bs[i]? = some v)
    (hs : ScaleSt b zs us v i us.length zs' over) : MulSt b us bs (i + 1) (zs'.set (us.length + i) over) := by
  have hl := hs.len
  have hl0 := h.len
  refine ⟨by rw [List.length_set]; omega, hs.low.set hs.le, fun j u hj hu => ?_, ?_⟩
  · rw [List.getElem?_set, if_neg (by omega), hs.far j (by omega)] at hu
    exact h.zero j u (by omega) hu
  · obtain ⟨r, hr⟩ : ∃ r, bs.length = i + (1 + r) := ⟨bs.length - i - 1, by omega⟩
    have e1 := val_split (b := b) (zs := zs) (i := i) (j := us.length) (r := 1 + r) (by omega)
    have e2 := val_split (b := b) (zs := zs'.set (us.length + i) over) (i := i) (j := us.length) (r := 1 + r) (by rw [List.length_set]; omega)
    have z1 : val b (seg zs (i + us.length) (1 + r)) = 0 := val_zero fun j u hu => by
      rw [seg_get?] at hu
      split at hu
      · exact h.zero _ u (by omega) hu
      · cases hu
    have z2 : val b (seg (zs'.set (us.length + i) over) (i + us.length) (1 + r)) = over := by
      have hnew : (zs'.set (us.length + i) over)[i + us.length + 0]? = some over := by
        rw [Nat.add_zero, Nat.add_comm i, List.getElem?_set_self (by omega)]
      rw [val_seg_add b (by rw [List.length_set]; omega)]
      rw [show seg (zs'.set (us.length + i) over) (i + us.length) 1 = seg (zs'.set (us.length + i) over) (i + us.length) (0 + 1) from rfl, val_seg_succ b hnew, seg_zero]
      have : val b (seg (zs'.set (us.length + i) over) (i + us.length + 1) r) = 0 := val_zero fun j u hu => by
        rw [seg_get?] at hu
        split at hu
        · rw [List.getElem?_set, if_neg (by omega), hs.far _ (by omega)] at hu
          exact h.zero _ u (by omega) hu
        · cases hu
      rw [this]; simp [val]
    have z3 : seg (zs'.set (us.length + i) over) 0 i = seg zs 0 i := by
      rw [seg_set_far (by omega)]
      exact seg_congr fun j _ h2 => hs.far j (by omega)
    have z4 : seg (zs'.set (us.length + i) over) i us.length = seg zs' i us.length := seg_set_far (by omega)
    rw [e2, z2, z3, z4, hs.eq, List.take_of_length_le (Nat.le_refl _)]
    rw [z1] at e1
    have ht : val b (bs.take (i + 1)) = val b (bs.take i) + b ^ i * v := by
      rw [val_take_succ b bs i hi, (List.getElem?_eq_some_iff.1 hv).2]
    have e3 := h.eq
    rw [ht]
    clear ht e2 z1 z2 z3 z4 hs hv hi h
    grind
end Go.Proofs.Num

/- Plain laws: shifts of a number in words. -/
namespace Go.Proofs.Num

theorem val_of_digits {b : Nat} (hb : 2 ≤ b) {zs : List Nat} {q : Nat} (h : ∀ (i v : Nat), zs[i]? = some v → v = q / b ^ i % b) (hq : q < b ^ zs.length) : val b zs = q := by
  induction zs generalizing q with
  | nil => simp at hq; subst hq; rfl
  | cons x zs ih =>
    have hx := h 0 x rfl
    simp only [Nat.pow_zero, Nat.div_one] at hx
    have h2 : val b zs = q / b := ih (fun i v hv => by
      have := h (i + 1) v (by simpa using hv)
      rw [Nat.pow_succ, Nat.mul_comm, ← Nat.div_div_eq_div_mul] at this
      exact this) (by rw [Nat.div_lt_iff_lt_mul (by omega), ← Nat.pow_succ]; exact hq)
    rw [val, h2, hx]
    exact Nat.mod_add_div q b

/-- The first k words of q. -/
structure ShrSt (b q K k : Nat) (zs : List Nat) : Prop where
  len : zs.length = K
  low : Low b zs
  eq : ∀ (i v : Nat), i < k → zs[i]? = some v → v = q / b ^ i % b
theorem ShrSt.start {b : Nat} (hb : 2 ≤ b) (q K : Nat) : ShrSt b q K 0 (List.replicate K 0) := ⟨by simp, Low.replicate (by omega) _, fun i v h => absurd h (by omega)⟩
theorem ShrSt.step {b q K k v : Nat} {zs : List Nat} (hb : 2 ≤ b) (h : ShrSt b q K k zs) (hv : v = q / b ^ k % b) : ShrSt b q K (k + 1) (zs.set k v) := by
  refine ⟨by rw [List.length_set]; exact h.len, h.low.set (by rw [hv]; exact Nat.mod_lt _ (by omega)), fun i u hi hu => ?_⟩
  rw [List.getElem?_set] at hu
  split at hu
  · rename_i e
    subst e
    split at hu
    · injection hu with hu; rw [← hu]; exact hv
    · cases hu
  · exact h.eq i u (by omega) hu
theorem ShrSt.fin {b q K : Nat} {zs : List Nat} (hb : 2 ≤ b) (h : ShrSt b q K K zs) (hq : q < b ^ K) : val b zs = q := by
  refine val_of_digits hb (fun i v hv => ?_) (by rw [h.len]; exact hq)
  exact h.eq i v (by have := (List.getElem?_eq_some_iff.1 hv).1; rw [h.len] at this; exact this) hv

/-- i words of xs have been shifted to the left by w words and s bits. -/
structure ShlSt (xs : List Nat) (w s i : Nat) (zs : List Nat) : Prop where
  len : zs.length = xs.length + w + 1
  low : Low 18446744073709551616 zs
  zero : ∀ (j v : Nat), w + i < j → zs[j]? = some v → v = 0
  head : ∀ v, zs[w + i]? = some v → v < 2 ^ s
  eq : val 18446744073709551616 zs = val 18446744073709551616 (xs.take i) * 2 ^ (64 * w + s)
theorem ShlSt.start (xs : List Nat) (w s : Nat) : ShlSt xs w s 0 (List.replicate (xs.length + w + 1) 0) :=
  ⟨by simp, Low.replicate (by omega) _, fun j v _ hv => List.eq_of_mem_replicate (List.mem_of_getElem? hv), fun v hv => by rw [List.eq_of_mem_replicate (List.mem_of_getElem? hv)]; exact Nat.two_pow_pos s,
    by rw [val_replicate]; simp [val]⟩

theorem shl_mod (v s : Nat) (hs : s < 64) : v * 2 ^ s % 18446744073709551616 = 2 ^ s * (v % 2 ^ (64 - s)) := by
  have e2 : (18446744073709551616 : Nat) = 2 ^ s * 2 ^ (64 - s) := by rw [← Nat.pow_add, show s + (64 - s) = 64 by omega]
  rw [Nat.mul_comm v, e2, Nat.mul_mod_mul_left]
theorem shl_div (v s : Nat) (hs : s < 64) : v * 2 ^ s / 18446744073709551616 = v / 2 ^ (64 - s) := by
  have e2 : (18446744073709551616 : Nat) = 2 ^ s * 2 ^ (64 - s) := by rw [← Nat.pow_add, show s + (64 - s) = 64 by omega]
  rw [Nat.mul_comm v, e2, Nat.mul_div_mul_left _ _ (Nat.two_pow_pos s)]
theorem or_shl (o v s : Nat) (ho : o < 2 ^ s) (hs : s < 64) : bits .or .u64 (o : Int) (IntKind.u64.wrap ((v : Int) * 2 ^ s)) = ((o + v * 2 ^ s % 18446744073709551616 : Nat) : Int) := by
  have c2 : IntKind.u64.wrap ((v : Int) * 2 ^ s) = ((v * 2 ^ s % 18446744073709551616 : Nat) : Int) := by
    rw [IntKind.wrap_u64, Int.natCast_emod, Int.natCast_mul, Int.natCast_pow]; rfl
  have h1 : 2 ^ s ≤ 2 ^ 63 := Nat.pow_le_pow_right (by omega) (by omega)
  rw [c2, bits_or_u64_nat _ _ (by omega) (Nat.mod_lt _ (by omega)), shl_mod v s hs, Nat.or_comm, ← Nat.two_pow_add_eq_or_of_lt ho, Nat.add_comm]
theorem or_shl_lt (o v s : Nat) (ho : o < 2 ^ s) (hs : s < 64) : o + v * 2 ^ s % 18446744073709551616 < 18446744073709551616 := by
  have e2 : (18446744073709551616 : Nat) = 2 ^ s * 2 ^ (64 - s) := by rw [← Nat.pow_add, show s + (64 - s) = 64 by omega]
  rw [shl_mod v s hs]
  have h1 : v % 2 ^ (64 - s) < 2 ^ (64 - s) := Nat.mod_lt _ (Nat.two_pow_pos _)
  have h2 : 2 ^ s * (v % 2 ^ (64 - s) + 1) ≤ 2 ^ s * 2 ^ (64 - s) := Nat.mul_le_mul_left _ h1
  rw [← e2, Nat.mul_add] at h2
  omega

theorem ShlSt.step {xs zs : List Nat} {w s i v o : Nat} (hs : s < 64) (h : ShlSt xs w s i zs) (hi : i < xs.length) (hv : xs[i]? = some v) (hvl : v < 18446744073709551616) (ho : zs[w + i]? = some o) :
    ShlSt xs w s (i + 1) ((zs.set (w + i) (o + v * 2 ^ s % 18446744073709551616)).set (w + i + 1) (v / 2 ^ (64 - s))) := by
  have hl := h.len
  have ho' := h.head o ho
  have hlt : v / 2 ^ (64 - s) < 2 ^ s := by
    rw [Nat.div_lt_iff_lt_mul (Nat.two_pow_pos _), ← Nat.pow_add, show s + (64 - s) = 64 by omega]; exact hvl
  have h63 : 2 ^ s ≤ 2 ^ 63 := Nat.pow_le_pow_right (by omega) (by omega)
  refine ⟨by simp only [List.length_set]; exact hl, (h.low.set (or_shl_lt o v s ho' hs)).set (by omega), fun j u hj hu => ?_, fun u hu => ?_, ?_⟩
  · rw [List.getElem?_set, if_neg (by omega), List.getElem?_set, if_neg (by omega)] at hu
    exact h.zero j u (by omega) hu
  · rw [show w + (i + 1) = w + i + 1 by omega, List.getElem?_set_self (by simp; omega)] at hu
    injection hu with hu
    rw [← hu]; exact hlt
  · have hp := (List.getElem?_eq_some_iff.1 ho)
    obtain ⟨z, hz⟩ : ∃ z, zs[w + i + 1]? = some z := ⟨zs[w + i + 1]'(by omega), List.getElem?_eq_getElem _⟩
    have hz0 := h.zero _ z (by omega) hz
    have s1 := val_set 18446744073709551616 zs (w + i) (o + v * 2 ^ s % 18446744073709551616) hp.1
    have s2 := val_set 18446744073709551616 (zs.set (w + i) (o + v * 2 ^ s % 18446744073709551616)) (w + i + 1) (v / 2 ^ (64 - s)) (by simp; omega)
    have g2 : (zs.set (w + i) (o + v * 2 ^ s % 18446744073709551616))[w + i + 1]'(by simp; omega) = 0 := by
      rw [List.getElem_set, if_neg (by omega)]
      have := (List.getElem?_eq_some_iff.1 hz).2
      rw [this]; exact hz0
    rw [hp.2] at s1
    rw [g2] at s2
    have ht : val 18446744073709551616 (xs.take (i + 1)) = val 18446744073709551616 (xs.take i) + 18446744073709551616 ^ i * v := by
      rw [val_take_succ _ xs i hi, (List.getElem?_eq_some_iff.1 hv).2]
    have e1 := h.eq
    have e3 := Nat.mod_add_div (v * 2 ^ s) 18446744073709551616
    rw [shl_div v s hs] at e3
    rw [ht, Nat.add_mul, ← e1]
    have e4 : 18446744073709551616 ^ i * v * 2 ^ (64 * w + s) = 18446744073709551616 ^ (w + i) * (v * 2 ^ s) := by
      have : (2 : Nat) ^ (64 * w + s) = 18446744073709551616 ^ w * 2 ^ s := by rw [Nat.pow_add, Nat.pow_mul]
      rw [this, Nat.pow_add]
      generalize (18446744073709551616 : Nat) ^ i = x
      generalize (18446744073709551616 : Nat) ^ w = y
      generalize (2 : Nat) ^ s = z
      grind
    rw [e4]
    rw [Nat.pow_succ] at s2
    clear e1 e4 ht ho' h hv ho hz g2 hp
    generalize (18446744073709551616 : Nat) ^ (w + i) = x at *
    generalize v * 2 ^ s % 18446744073709551616 = y at *
    generalize v / 2 ^ (64 - s) = z at *
    generalize v * 2 ^ s = t at *
    rw [← e3, Nat.mul_add]
    rw [Nat.mul_add] at s1
    rw [Nat.mul_assoc x _ z] at s2
    generalize val 18446744073709551616 ((zs.set (w + i) (o + y)).set (w + i + 1) z) = v2 at *
    generalize val 18446744073709551616 (zs.set (w + i) (o + y)) = v1 at *
    omega
end Go.Proofs.Num
namespace Go.Proofs.Num
/-- i limbs of xs have been packed into words. -/
structure PackSt (xs : List Nat) (K i : Nat) (zs : List Nat) : Prop where
  len : zs.length = K
  low : Low 18446744073709551616 zs
  zero : ∀ (j v : Nat), i < 2 * j + 1 → zs[j]? = some v → v = 0
  head : ∀ v, zs[i / 2]? = some v → v < 2 ^ (i % 2 * 32)
  eq : val 18446744073709551616 zs = val 4294967296 (xs.take i)
theorem PackSt.start (xs : List Nat) (K : Nat) : PackSt xs K 0 (List.replicate K 0) :=
  ⟨by simp, Low.replicate (by omega) _, fun j v _ hv => List.eq_of_mem_replicate (List.mem_of_getElem? hv), fun v hv => by rw [List.eq_of_mem_replicate (List.mem_of_getElem? hv)]; exact Nat.two_pow_pos _,
    by rw [val_replicate]; simp [val]⟩
theorem PackSt.step {xs zs : List Nat} {K i v o : Nat} (h : PackSt xs K i zs) (hv : xs[i]? = some v) (hvl : v < 4294967296) (ho : zs[i / 2]? = some o) :
    PackSt xs K (i + 1) (zs.set (i / 2) (o + v * 2 ^ (i % 2 * 32) % 18446744073709551616)) := by
  have hi := (List.getElem?_eq_some_iff.1 hv).1
  have hp := List.getElem?_eq_some_iff.1 ho
  have ho' := h.head o ho
  have hs : i % 2 * 32 < 64 := by omega
  have hm : v * 2 ^ (i % 2 * 32) % 18446744073709551616 = v * 2 ^ (i % 2 * 32) := by
    refine Nat.mod_eq_of_lt ?_
    rcases Nat.mod_two_eq_zero_or_one i with e | e <;> rw [e] <;> omega
  have hl := or_shl_lt o v (i % 2 * 32) ho' hs
  rw [hm] at hl ⊢
  refine ⟨by rw [List.length_set]; exact h.len, h.low.set hl, fun j u hj hu => ?_, fun u hu => ?_, ?_⟩
  · rw [List.getElem?_set, if_neg (by omega)] at hu
    exact h.zero j u (by omega) hu
  · rcases Nat.mod_two_eq_zero_or_one i with e | e
    · rw [show (i + 1) / 2 = i / 2 by omega, List.getElem?_set_self hp.1] at hu
      injection hu with hu
      rw [← hu, show (i + 1) % 2 = 1 by omega]
      rw [e] at ho' ⊢
      omega
    · rw [List.getElem?_set, if_neg (by omega)] at hu
      have := h.zero _ u (by omega) hu
      rw [this]; exact Nat.two_pow_pos _
  · have s1 := val_set 18446744073709551616 zs (i / 2) (o + v * 2 ^ (i % 2 * 32)) hp.1
    rw [hp.2] at s1
    have ht : val 4294967296 (xs.take (i + 1)) = val 4294967296 (xs.take i) + 4294967296 ^ i * v := by
      rw [val_take_succ _ xs i hi, (List.getElem?_eq_some_iff.1 hv).2]
    have e4 : 18446744073709551616 ^ (i / 2) * (v * 2 ^ (i % 2 * 32)) = 4294967296 ^ i * v := by
      have a1 : (18446744073709551616 : Nat) ^ (i / 2) = 2 ^ (64 * (i / 2)) := by rw [Nat.pow_mul]
      have a2 : (4294967296 : Nat) ^ i = 2 ^ (32 * i) := by rw [Nat.pow_mul]
      rw [a1, a2, Nat.mul_left_comm, ← Nat.pow_add, Nat.mul_comm v]
      congr 2; omega
    rw [ht, ← h.eq, ← e4]
    rw [Nat.mul_add] at s1
    omega

/-- How many words a number has, out of how many limbs. -/
theorem words_of_limbs (n : Nat) : (dig 18446744073709551616 n).length = ((dig 4294967296 n).length + 1) / 2 := by
  generalize hL : (dig 4294967296 n).length = L
  have h1 := dig_len_lt (b := 4294967296) (n := n) (by omega)
  rw [hL] at h1
  have e : (18446744073709551616 : Nat) = 4294967296 ^ 2 := by decide
  have h2 : (dig 18446744073709551616 n).length ≤ (L + 1) / 2 := by
    refine dig_len_le (by omega) (Nat.lt_of_lt_of_le h1 ?_)
    rw [e, ← Nat.pow_mul]
    exact Nat.pow_le_pow_right (by omega) (by omega)
  rcases Nat.eq_zero_or_pos L with h0 | h0
  · omega
  · have h3 := dig_len_ge (b := 4294967296) (n := n) (by omega) (by omega)
    rw [hL] at h3
    have h4 := dig_len_lt (b := 18446744073709551616) (n := n) (by omega)
    rcases Nat.lt_or_ge (dig 18446744073709551616 n).length ((L + 1) / 2) with h5 | h5
    · exfalso
      rw [e, ← Nat.pow_mul] at h4
      have := Nat.pow_le_pow_right (show 0 < 4294967296 by omega) (show 2 * (dig (4294967296 ^ 2) n).length ≤ L - 1 by rw [← e]; omega)
      omega
    · omega
theorem PackSt.fin {xs zs : List Nat} {K n : Nat} (h : PackSt xs K xs.length zs) (hx : xs = dig 4294967296 n) (hK : K = (xs.length + 1) / 2) : zs = dig 18446744073709551616 n := by
  have e := h.eq
  rw [List.take_length, hx, val_dig (by omega)] at e
  refine val_inj (b := 18446744073709551616) (by omega) ?_ h.low (low_dig (by omega) n) (by rw [e, val_dig (by omega)])
  rw [h.len, hK, hx, words_of_limbs]
end Go.Proofs.Num
namespace Go.Proofs.Num
/-- The limbs of words, two a word. -/
def limbs : List Nat → List Nat
  | [] => []
  | x :: xs => x % 4294967296 :: x / 4294967296 :: limbs xs
theorem limbs_len (xs : List Nat) : (limbs xs).length = 2 * xs.length := by
  induction xs with
  | nil => rfl
  | cons x xs ih => simp only [limbs, List.length_cons, ih]; omega
theorem limbs_append (xs ys : List Nat) : limbs (xs ++ ys) = limbs xs ++ limbs ys := by
  induction xs with
  | nil => rfl
  | cons x xs ih => simp only [List.cons_append, limbs, ih]
theorem limbs_val (xs : List Nat) : val 4294967296 (limbs xs) = val 18446744073709551616 xs := by
  induction xs with
  | nil => rfl
  | cons x xs ih =>
    simp only [limbs, val, ih]
    have := Nat.mod_add_div x 4294967296
    omega
theorem limbs_low {xs : List Nat} (h : Low 18446744073709551616 xs) : Low 4294967296 (limbs xs) := by
  induction xs with
  | nil => exact Low.nil _
  | cons x xs ih =>
    have hx := h.head
    exact Low.cons (Nat.mod_lt _ (by omega)) (Low.cons (by omega) (ih h.tail))
theorem limbs_take_succ {xs : List Nat} {k v : Nat} (h : xs[k]? = some v) : limbs (xs.take (k + 1)) = limbs (xs.take k) ++ [v % 4294967296, v / 4294967296] := by
  have hk := (List.getElem?_eq_some_iff.1 h).1
  rw [List.take_succ_eq_append_getElem hk, limbs_append, (List.getElem?_eq_some_iff.1 h).2]; rfl
/-- The limbs of a number's words are its limbs, or those and a 0. -/
theorem limbs_dig (n : Nat) : limbs (dig 18446744073709551616 n) = dig 4294967296 n ∨ limbs (dig 18446744073709551616 n) = dig 4294967296 n ++ [0] := by
  have e := words_of_limbs n
  have l := limbs_len (dig 18446744073709551616 n)
  have v := limbs_val (dig 18446744073709551616 n)
  rw [val_dig (by omega)] at v
  have lo := limbs_low (low_dig (b := 18446744073709551616) (by omega) n)
  by_cases h : 2 * (dig 18446744073709551616 n).length = (dig 4294967296 n).length
  · left
    exact val_inj (b := 4294967296) (by omega) (by omega) lo (low_dig (by omega) n) (by rw [v, val_dig (by omega)])
  · right
    refine val_inj (b := 4294967296) (by omega) (by simp; omega) lo ((low_dig (by omega) n).append (Low.cons (by omega) (Low.nil _))) ?_
    rw [v, val_append, val_dig (by omega)]; simp [val]
end Go.Proofs.Num
namespace Go.Proofs.Num
theorem nbits_limbs {n L v : Nat} (hL : (dig 4294967296 n).length = L + 1) (hv : (dig 4294967296 n)[L]? = some v) : nbits n = 32 * L + nbits v := by
  have e := dig_getElem? (b := 4294967296) (by omega) hv
  have h1 := dig_len_lt (b := 4294967296) (n := n) (by omega)
  have h2 := dig_len_ge (b := 4294967296) (n := n) (by omega) (by omega)
  rw [hL] at h1 h2
  simp only [Nat.add_sub_cancel] at h2
  have hp : 0 < 4294967296 ^ L := Nat.pow_pos (by omega)
  have h3 : n / 4294967296 ^ L < 4294967296 := by
    rw [Nat.div_lt_iff_lt_mul hp, Nat.mul_comm, ← Nat.pow_succ]; exact h1
  have h4 : n / 4294967296 ^ L ≠ 0 := by
    intro h0
    rcases Nat.div_eq_zero_iff.1 h0 with h | h <;> omega
  rw [Nat.mod_eq_of_lt h3] at e
  have e1 : (2 : Nat) ^ (32 * L) = 4294967296 ^ L := by rw [Nat.pow_mul]
  rw [e, ← e1]
  refine nbits_shift ?_
  rw [e1]; exact h4
theorem nbits_half {v : Nat} (h : v ≠ 0) : nbits v = nbits (v / 2) + 1 := by
  by_cases h2 : v / 2 = 0
  · have : v = 1 := by omega
    subst this; decide
  · rw [nbits_shift (n := v) (k := 1) (by simpa using h2)]; simp; omega
theorem shr_ne {v i : Nat} : v / 2 ^ i ≠ 0 ↔ i < nbits v := by
  constructor
  · intro h
    rcases Nat.lt_or_ge i (nbits v) with h1 | h1
    · exact h1
    · exact absurd (Nat.div_eq_of_lt (lt_of_nbits h1)) h
  · intro h h0
    have hv : v ≠ 0 := by rintro rfl; simp [nbits] at h
    have h1 := nbits_ge hv
    have h2 := Nat.pow_le_pow_right (show 0 < 2 by omega) (show i ≤ nbits v - 1 by omega)
    rcases Nat.div_eq_zero_iff.1 h0 with h3 | h3
    · have := Nat.two_pow_pos i; omega
    · omega
end Go.Proofs.Num
