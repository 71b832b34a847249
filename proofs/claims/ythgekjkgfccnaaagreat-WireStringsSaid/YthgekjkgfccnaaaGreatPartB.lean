/- Part of the proof of WireStrings: Vals, Shl2, Wit, Num, MemN, Mem, AddLaws, Add, Trim, Copy, Sum, WinLaws, Win, Bits, MulLaws. -/
import Derived.WalkKit
import Derived.WalkSpells
import Derived.WalkLawsBesides
import Derived.Deep.QuietTactic
import Derived.Deep.OwnRows
import Derived.BigQuiet
import Derived.Lib.Hide
import Derived.Laws.Rows
import Derived.Below
import Derived.Test.YthgekjkgfccnaaaGreatRows
import Derived.ProofKit
import Derived.OpenShut
import Derived.ShutString
import Derived.ChangeOld
import Derived.Laws.CopyOwn
import Derived.Laws.MakeOwn
import Derived.Laws.Bits64
import Derived.Laws.Bits64b
import Derived.Lib.BitFns
import Derived.Test.YthgekjkgfccnaaaGreatPartA
/- What is said of memory, whatever its cells hold: a slice that reads as a list of values; a block that is known whole. -/
namespace Go.Proofs.YthgekjkgfccnaaaGreat
open Go.RowKit

/-- The slice at A reads as these cells; they lie in a block that is there. -/
def Vals (w : World) (A : Option Addr) (vs : List Value) : Prop :=
  0 < vs.length → ∃ g off, A = some ⟨g, off, none⟩ ∧ g < w.heap.size ∧ ∀ (i : Nat) (v : Value), vs[i]? = some v → w.cell? ⟨g, off + i, none⟩ = some v

theorem Vals.nil {w : World} {A : Option Addr} : Vals w A [] := fun h => absurd h (by simp)
theorem Vals.keep {w w' : World} {A : Option Addr} {vs : List Value} (h : Vals w A vs) (hb : Below w.heap.size w w') : Vals w' A vs := by
  intro hl
  obtain ⟨g, off, e, hg, hc⟩ := h hl
  exact ⟨g, off, e, Nat.lt_of_lt_of_le hg hb.size, fun i v hv => (hb.cell (p := ⟨g, off + i, none⟩) hg).trans (hc i v hv)⟩
theorem Vals.drew {w : World} {A : Option Addr} {vs : List Value} (h : Vals w A vs) : Vals w.drew A vs := h
theorem Vals.drewN {w : World} {A : Option Addr} {vs : List Value} (h : Vals w A vs) (n : Nat) : Vals (w.drewN n) A vs := h
theorem Vals.alloc {w : World} {A : Option Addr} {vs : List Value} (h : Vals w A vs) (o : Obj) : Vals (w.alloc o) A vs := h.keep ((Below.refl _ _).alloc (Nat.le_refl _) o)
theorem Vals.at_ {w : World} {A : Option Addr} {vs : List Value} (h : Vals w A vs) {i : Nat} (hi : i < vs.length) :
    ∃ g off v, A = some ⟨g, off, none⟩ ∧ g < w.heap.size ∧ vs[i]? = some v ∧ w.cell? ⟨g, off + i, none⟩ = some v := by
  obtain ⟨g, off, e, hg, hc⟩ := h (by omega)
  exact ⟨g, off, vs[i], e, hg, List.getElem?_eq_getElem hi, hc _ _ (List.getElem?_eq_getElem hi)⟩
theorem Vals.take {w : World} {A : Option Addr} {vs : List Value} (h : Vals w A vs) (n : Nat) : Vals w A (vs.take n) := by
  intro hl
  obtain ⟨g, off, e, hg, hc⟩ := h (by simp at hl; omega)
  refine ⟨g, off, e, hg, fun i v hv => hc i v ?_⟩
  rw [List.getElem?_take] at hv
  split at hv
  · exact hv
  · cases hv
theorem Vals.drop {w : World} {g off : Nat} {vs : List Value} (h : Vals w (some ⟨g, off, none⟩) vs) (n : Nat) : Vals w (some ⟨g, off + n, none⟩) (vs.drop n) := by
  intro hl
  obtain ⟨g', off', e, hg, hc⟩ := h (by simp at hl; omega)
  injection e with e
  injection e with e1 e2
  subst e1 e2
  refine ⟨_, _, rfl, hg, fun i v hv => ?_⟩
  rw [List.getElem?_drop] at hv
  have := hc _ _ hv
  rwa [← Nat.add_assoc] at this

/-- Block g holds just these cells, none frozen. -/
def Blk (T : TypeId) (w : World) (g : Nat) (vs : List Value) : Prop := w.heap[g]? = some (.cells vs.toArray T (0, 0))
namespace Blk
variable {T : TypeId} {w w' : World} {g : Nat} {vs : List Value}
theorem lt (h : Blk T w g vs) : g < w.heap.size := by
  rcases Nat.lt_or_ge g w.heap.size with hlt | hge
  · exact hlt
  · unfold Blk at h; rw [Array.getElem?_eq_none hge] at h; cases h
theorem cell (h : Blk T w g vs) (i : Nat) : w.cell? ⟨g, i, none⟩ = vs[i]? := by
  have := cell_of_row w g i _ T (0, 0) h
  simpa using this
theorem frozen (h : Blk T w g vs) (i : Nat) : w.frozen? ⟨g, i, none⟩ = false := frozen_of_row w g i _ T h
theorem of_block (h : Blk T w g vs) (e : w'.heap[g]? = w.heap[g]?) : Blk T w' g vs := e.trans h
theorem new (w : World) (T : TypeId) (vs : List Value) : Blk T (w.alloc (.cells vs.toArray T)) w.heap.size vs := heap_alloc_new w _
theorem drew (h : Blk T w g vs) : Blk T w.drew g vs := h
theorem drewN (h : Blk T w g vs) (n : Nat) : Blk T (w.drewN n) g vs := h
theorem alloc (h : Blk T w g vs) (o : Obj) : Blk T (w.alloc o) g vs := (Below.heap_alloc w o g h.lt).trans h
theorem set (h : Blk T w g vs) (i : Nat) (v : Value) : Blk T (w.setCell ⟨g, i, none⟩ v) g (vs.set i v) := by
  have := heap_setCell_same w g i vs.toArray T v h
  unfold Blk
  rw [this]
  simp
theorem setOther (h : Blk T w g vs) {a : Addr} (ha : g ≠ a.block) (v : Value) : Blk T (w.setCell a v) g vs := (heap_setCell_other w a g v ha).trans h
theorem below {B : Nat} (h : Blk T w g vs) (hb : Below B w w') (hg : g < B) : Blk T w' g vs := (hb.block g hg).trans h
theorem keep (h : Blk T w g vs) (hb : Below w.heap.size w w') : Blk T w' g vs := h.below hb h.lt
theorem grown {row : Option Nat} (h : Blk T w g vs) (hb : w.grownBy w' row) (hg : some g ≠ row) : Blk T w' g vs := (hb.block g h.lt hg).trans h
theorem vals (h : Blk T w g vs) (off n : Nat) : Vals w (some ⟨g, off, none⟩) ((vs.drop off).take n) := by
  intro _
  refine ⟨g, off, rfl, h.lt, fun i v hv => ?_⟩
  rw [h.cell]
  rw [List.getElem?_take] at hv
  split at hv
  · rwa [List.getElem?_drop] at hv
  · cases hv
theorem vals0 (h : Blk T w g vs) : Vals w (some ⟨g, 0, none⟩) vs := by
  have := h.vals 0 vs.length
  simpa using this
theorem pair {a b : Value} (h : Blk T w g [a, b]) (c d : Value) : Blk T ((w.setCell ⟨g, 0, none⟩ c).setCell ⟨g, 1, none⟩ d) g [c, d] := by
  have := (h.set 0 c).set 1 d
  simpa using this
theorem far2 {g' : Nat} (h : Blk T w g vs) (hg : g ≠ g') (n : Nat) (c d : Value) : Blk T (((w.drewN n).setCell ⟨g', 0, none⟩ c).setCell ⟨g', 1, none⟩ d) g vs :=
  ((h.drewN n).setOther (a := ⟨g', 0, none⟩) hg c).setOther (a := ⟨g', 1, none⟩) hg d
end Blk

/-- Numbers as cells. -/
def is (l : List Int) : List Value := l.map (.int .i64)
theorem is_len (l : List Int) : (is l).length = l.length := by simp [is]
theorem is_at {l : List Int} {i : Nat} {x : Int} (h : l[i]? = some x) : (is l)[i]? = some (.int .i64 x) := by simp [is, h]
theorem is_set (l : List Int) (i : Nat) (x : Int) : (is l).set i (.int .i64 x) = is (l.set i x) := by simp [is, List.map_set]
theorem is_take (l : List Int) (n : Nat) : (is l).take n = is (l.take n) := by simp [is, List.map_take]
theorem is_drop (l : List Int) (n : Nat) : (is l).drop n = is (l.drop n) := by simp [is, List.map_drop]
theorem is_append (l m : List Int) : is (l ++ m) = is l ++ is m := by simp [is]
/-- The slice at A reads as these ints. -/
abbrev Ints (w : World) (A : Option Addr) (l : List Int) : Prop := Vals w A (is l)
theorem Ints.at_ {w : World} {A : Option Addr} {l : List Int} (h : Ints w A l) {i : Nat} (hi : i < l.length) :
    ∃ g off x, A = some ⟨g, off, none⟩ ∧ g < w.heap.size ∧ l[i]? = some x ∧ w.cell? ⟨g, off + i, none⟩ = some (.int .i64 x) := by
  obtain ⟨g, off, v, e, hg, hv, hc⟩ := Vals.at_ h (i := i) (by rw [is_len]; exact hi)
  refine ⟨g, off, l[i], e, hg, List.getElem?_eq_getElem hi, ?_⟩
  rw [is_at (List.getElem?_eq_getElem hi)] at hv
  injection hv with hv
  rw [hc, hv]

theorem below_drewN {B : Nat} {a w : World} (h : Below B a w) (n : Nat) : Below B a (w.drewN n) := ⟨h.os, h.tape, h.output, h.size, h.block⟩
theorem below_set {B : Nat} {a w : World} (h : Below B a w) {g i : Nat} (hg : B ≤ g) (v : Value) : Below B a (w.setCell ⟨g, i, none⟩ v) := h.setCell (p := ⟨g, i, none⟩) hg v
theorem below_on {B : Nat} {w w1 w2 : World} (h : Below B w w1) (hB : B ≤ w1.heap.size) (k : Below w1.heap.size w1 w2) : Below B w w2 := h.trans (k.mono hB)
theorem below_new (w : World) (o : Obj) : Below w.heap.size w (w.alloc o) := (Below.refl _ _).alloc (Nat.le_refl _) o
theorem wrapI {x : Int} (h : -9223372036854775808 ≤ x) (h' : x ≤ 9223372036854775807) : IntKind.i64.wrap x = x := by rw [IntKind.wrap_i64]; omega
/-- The number in a cell, 0 if there is none. -/
def cellI (w : World) (p : Addr) : Int := match w.cell? p with | some (.int _ x) => x | _ => 0
theorem cellI_of {w : World} {p : Addr} {k : IntKind} {x : Int} (h : w.cell? p = some (.int k x)) : cellI w p = x := by unfold cellI; rw [h]
end Go.Proofs.YthgekjkgfccnaaaGreat

/- What the frame of a law's proof tells of its arguments: a slice of ints reads as a list, a structure of ints is what it holds. -/
namespace Go.Proofs.YthgekjkgfccnaaaGreat
open Go.ChangeShapes Go.WideShapes Go.ChangeAt Go.RowKit

/-- What the frame tells of a slice of integers that came in: nil, or a row of cap cells. -/
def IsRow (w : World) (a : Option Addr) (len cap : Nat) (zs : List Int) : Prop :=
  (a = none ∧ len = 0 ∧ cap = 0 ∧ zs = []) ∨
  ∃ x, a = some x ∧ len ≤ cap ∧ cap ≤ maxLen ∧ zs.length = cap ∧ (∀ i, i < zs.length → w.cell? (x.add i) = some (.int .i64 (zs.getD i 0))) ∧ ∀ n ∈ zs, (Lit.int .i64 n).wf = true
theorem rows_ints {w : World} {a : Option Addr} {len cap : Nat} {zs : List Int} (h : IsRow w a len cap zs) :
    ∃ l : List Int, Ints w a l ∧ len = l.length ∧ len ≤ cap ∧ (a = none → cap = 0) ∧ cap ≤ maxLen ∧ ∀ x ∈ l, (Lit.int .i64 x).wf = true := by
  rcases h with ⟨rfl, rfl, rfl, rfl⟩ | ⟨x, rfl, hl, hm, hz, hcell, hwf⟩
  · exact ⟨[], Vals.nil, rfl, Nat.le_refl _, fun _ => rfl, by unfold maxLen; omega, by simp⟩
  · refine ⟨zs.take len, fun hp => ?_, by simp; omega, hl, (fun h => by cases h), hm, fun x hx => hwf x (List.mem_of_mem_take hx)⟩
    have hlen : 0 < zs.length := by simp [is] at hp; omega
    have h0 := hcell 0 hlen
    obtain ⟨b, off, spot⟩ := x
    have hspot : spot = none := by simpa [Addr.add] using World.cell?_spot h0
    subst hspot
    refine ⟨b, off, rfl, ?_, fun i v hv => ?_⟩
    · have := block_lt_of_cell h0
      simpa [Addr.add] using this
    · simp only [is, List.getElem?_map, Option.map_eq_some_iff] at hv
      obtain ⟨z, hz1, rfl⟩ := hv
      rw [List.getElem?_take] at hz1
      split at hz1
      · have hi := (List.getElem?_eq_some_iff.1 hz1).1
        have hc := hcell i hi
        have hzz : zs.getD i 0 = z := by rw [List.getD_eq_getElem?_getD, hz1]; rfl
        rw [hzz] at hc
        have ea : (⟨b, off, none⟩ : Addr).add i = ⟨b, off + i, none⟩ := by
          unfold Addr.add
          split
          · rename_i h; subst h; rfl
          · rfl
        rw [ea] at hc
        exact hc
      · cases hz1

theorem and_t {a b : Bool} (h : a = true) (k : b = true) : (a && b) = true := by rw [h, k]; rfl

set_option maxRecDepth 100000 in
theorem open_s6 {H : Type} {enc : TypeId × Value → H} {W : World} {v : Value} {d : DataW H} {ps : List MemPlace} (hval : Value.okWide Tryz.prog W .any 0 23 v) (hd : DataW.Trod enc Tryz.prog W 0 (fun _ => true) true 23 v d ps) :
    ∃ x0 x1 x2 x3 x4 x5 : Int, v = .agg #[.int .i64 x0, .int .i64 x1, .int .i64 x2, .int .i64 x3, .int .i64 x4, .int .i64 x5] := by
  obtain ⟨cs, rfl, hsz⟩ := okWide_struct Tryz.underlying23 hval
  have h2 : cs.size = 6 := hsz.trans (by kernel_rfl)
  obtain ⟨c0, c1, c2, c3, c4, c5, rfl⟩ : ∃ c0 c1 c2 c3 c4 c5, cs = #[c0, c1, c2, c3, c4, c5] := by
    obtain ⟨l⟩ := cs
    match l, h2 with
    | [c0, c1, c2, c3, c4, c5], _ => exact ⟨c0, c1, c2, c3, c4, c5, rfl⟩
  obtain ⟨fuel, hf⟩ := hd
  cases fuel with
  | zero => simp [DataW.trod] at hf
  | succ n =>
    rw [DataW.trod_step] at hf
    unfold DataW.trodStep at hf
    simp only [Tryz.underlying23, Value.cells] at hf
    rw [if_pos (by kernel_rfl)] at hf
    simp only [Option.map_eq_some_iff] at hf
    obtain ⟨xs, hx, _⟩ := hf
    simp only [List.mapM_cons, List.mapM_nil, bind, Option.bind_eq_some_iff, pure, Option.some.injEq] at hx
    obtain ⟨y0, h0, _, ⟨y1, h1, _, ⟨y2, h2, _, ⟨y3, h3, _, ⟨y4, h4, _, ⟨y5, h5, _, rfl, rfl⟩, rfl⟩, rfl⟩, rfl⟩, rfl⟩, rfl⟩ := hx
    have c3 : Tryz.prog.cellsOf 3 = 1 := by kernel_rfl
    rw [c3] at h0 h1 h2 h3 h4 h5
    simp only [List.drop_zero, List.drop_succ_cons, List.take_succ_cons, List.take_zero] at h0 h1 h2 h3 h4 h5
    obtain ⟨m0, e0, _, _⟩ := DataW.trod_int Tryz.underlying3 h0
    obtain ⟨m1, e1, _, _⟩ := DataW.trod_int Tryz.underlying3 h1
    obtain ⟨m2, e2, _, _⟩ := DataW.trod_int Tryz.underlying3 h2
    obtain ⟨m3, e3, _, _⟩ := DataW.trod_int Tryz.underlying3 h3
    obtain ⟨m4, e4, _, _⟩ := DataW.trod_int Tryz.underlying3 h4
    obtain ⟨m5, e5, _, _⟩ := DataW.trod_int Tryz.underlying3 h5
    simp at e0 e1 e2 e3 e4 e5
    exact ⟨m0, m1, m2, m3, m4, m5, by rw [e0, e1, e2, e3, e4, e5]⟩
end Go.Proofs.YthgekjkgfccnaaaGreat

namespace Go.Proofs.YthgekjkgfccnaaaGreat
open Go.RowKit

def inB (v lo hi : Int) : Bool := decide (lo ≤ v) && decide (v ≤ hi)
theorem inB_t {v lo hi : Int} (h : inB v lo hi = true) : lo ≤ v ∧ v ≤ hi := by simpa [inB] using h
theorem inB_f {v lo hi : Int} (h : inB v lo hi = false) : ¬ (lo ≤ v ∧ v ≤ hi) := by intro k; simp [inB, k.1, k.2] at h
theorem inB_of {v lo hi : Int} (h : lo ≤ v ∧ v ≤ hi) : inB v lo hi = true := by simp [inB, h.1, h.2]
theorem inB_not {v lo hi : Int} (h : ¬ (lo ≤ v ∧ v ≤ hi)) : inB v lo hi = false := by
  cases e : inB v lo hi
  · rfl
  · exact absurd (inB_t e) h

theorem within_any (v lo hi : Int) (w : World) : Calls Tryz.prog 39 #[.int .i64 v, .int .i64 lo, .int .i64 hi] w fun e w' => e = .returned (.bool (inB v lo hi)) ∧ w = w' := by
  unfold inB
  by_cases h : lo ≤ v
  · have hd : decide (lo ≤ v) = true := by simpa using h
    go_enter Tryz.func39, Tryz.ntmps39
    go_wp2
    go_ret
    exact ⟨by simp [h], rfl⟩
  · have hd : decide (lo ≤ v) = false := by simpa using h
    go_enter Tryz.func39, Tryz.ntmps39
    go_wp2
    go_ret
    exact ⟨by simp, rfl⟩
theorem in_any (v lo hi : Int) (w : World) : Calls Tryz.prog 46 #[.int .i64 v, .int .i64 lo, .int .i64 hi] w fun e w' => e = .returned (.bool (inB v lo hi)) ∧ w = w' := by
  unfold inB
  by_cases h : lo ≤ v
  · have hd : decide (lo ≤ v) = true := by simpa using h
    go_enter Tryz.func46, Tryz.ntmps46
    go_wp2
    go_ret
    exact ⟨by simp [h], rfl⟩
  · have hd : decide (lo ≤ v) = false := by simpa using h
    go_enter Tryz.func46, Tryz.ntmps46
    go_wp2
    go_ret
    exact ⟨by simp, rfl⟩
end Go.Proofs.YthgekjkgfccnaaaGreat

/- Plain laws on numbers that are written in a base, the least significant digit first: no program, no memory. -/
namespace Go.Proofs.Num

/-- The number that digits in base b make. -/
def val (b : Nat) : List Nat → Nat
  | [] => 0
  | x :: xs => x + b * val b xs

/-- All are digits of the base. -/
def Low (b : Nat) (xs : List Nat) : Prop := ∀ x ∈ xs, x < b

theorem Low.nil (b : Nat) : Low b [] := fun _ h => by cases h
theorem Low.cons {b x : Nat} {xs : List Nat} (hx : x < b) (h : Low b xs) : Low b (x :: xs) := by
  intro y hy
  rcases List.mem_cons.1 hy with rfl | hy
  · exact hx
  · exact h y hy
theorem Low.head {b x : Nat} {xs : List Nat} (h : Low b (x :: xs)) : x < b := h x (by simp)
theorem Low.tail {b x : Nat} {xs : List Nat} (h : Low b (x :: xs)) : Low b xs := fun y hy => h y (by simp [hy])
theorem Low.append {b : Nat} {xs ys : List Nat} (h : Low b xs) (k : Low b ys) : Low b (xs ++ ys) := by
  intro y hy
  rcases List.mem_append.1 hy with hy | hy
  · exact h y hy
  · exact k y hy
theorem Low.take {b : Nat} {xs : List Nat} (h : Low b xs) (n : Nat) : Low b (xs.take n) := fun y hy => h y (List.mem_of_mem_take hy)
theorem Low.drop {b : Nat} {xs : List Nat} (h : Low b xs) (n : Nat) : Low b (xs.drop n) := fun y hy => h y (List.mem_of_mem_drop hy)
theorem Low.get {b : Nat} {xs : List Nat} (h : Low b xs) {i : Nat} (hi : i < xs.length) : xs[i] < b := h _ (List.getElem_mem hi)
theorem Low.replicate {b : Nat} (hb : 0 < b) (n : Nat) : Low b (List.replicate n 0) := by
  intro y hy
  rw [List.eq_of_mem_replicate hy]; exact hb
theorem Low.set {b : Nat} {xs : List Nat} (h : Low b xs) {i v : Nat} (hv : v < b) : Low b (xs.set i v) := by
  intro y hy
  rcases List.mem_or_eq_of_mem_set hy with hy | rfl
  · exact h y hy
  · exact hv

theorem val_append (b : Nat) (xs ys : List Nat) : val b (xs ++ ys) = val b xs + b ^ xs.length * val b ys := by
  induction xs with
  | nil => simp [val]
  | cons x xs ih =>
    simp only [List.cons_append, val, ih, List.length_cons, Nat.pow_succ]
    grind

theorem val_snoc (b : Nat) (xs : List Nat) (x : Nat) : val b (xs ++ [x]) = val b xs + b ^ xs.length * x := by
  rw [val_append]; simp [val]

theorem val_take_succ (b : Nat) (xs : List Nat) (k : Nat) (h : k < xs.length) : val b (xs.take (k + 1)) = val b (xs.take k) + b ^ k * xs[k] := by
  rw [List.take_succ_eq_append_getElem h, val_snoc, List.length_take, Nat.min_eq_left (by omega)]

theorem val_lt (b : Nat) (xs : List Nat) (h : Low b xs) : val b xs < b ^ xs.length := by
  induction xs with
  | nil => simp [val]
  | cons x xs ih =>
    have hx := h.head
    have hi := ih h.tail
    simp only [val, List.length_cons, Nat.pow_succ]
    have : b * (val b xs + 1) ≤ b * b ^ xs.length := Nat.mul_le_mul_left b hi
    rw [Nat.mul_add] at this
    rw [Nat.mul_comm (b ^ xs.length) b]
    omega

theorem val_replicate (b n : Nat) : val b (List.replicate n 0) = 0 := by
  induction n with
  | zero => simp [val]
  | succ n ih => simp [List.replicate_succ, val, ih]

theorem val_take_drop (b : Nat) (xs : List Nat) (k : Nat) (h : k ≤ xs.length) : val b xs = val b (xs.take k) + b ^ k * val b (xs.drop k) := by
  have e := val_append b (xs.take k) (xs.drop k)
  rw [List.take_append_drop, List.length_take, Nat.min_eq_left h] at e
  exact e

theorem val_set (b : Nat) (xs : List Nat) (i v : Nat) (h : i < xs.length) : val b (xs.set i v) + b ^ i * xs[i] = val b xs + b ^ i * v := by
  induction xs generalizing i with
  | nil => simp at h
  | cons x xs ih =>
    cases i with
    | zero => simp [val]; omega
    | succ i =>
      have := ih i (by simpa using h)
      simp only [List.set_cons_succ, val, List.getElem_cons_succ, Nat.pow_succ]
      grind

/-- The last digit, if there is one, is not 0. -/
def Neat (xs : List Nat) : Prop := xs = [] ∨ ∃ ys y, xs = ys ++ [y] ∧ y ≠ 0

theorem neat_nil : Neat [] := .inl rfl
theorem neat_snoc {xs : List Nat} {y : Nat} (hy : y ≠ 0) : Neat (xs ++ [y]) := .inr ⟨xs, y, rfl, hy⟩
theorem neat_iff (xs : List Nat) : Neat xs ↔ ∀ h : 0 < xs.length, xs[xs.length - 1] ≠ 0 := by
  constructor
  · rintro (rfl | ⟨ys, y, rfl, hy⟩) h
    · simp at h
    · simpa using hy
  · intro h
    rcases List.eq_nil_or_concat xs with rfl | ⟨ys, y, rfl⟩
    · exact .inl rfl
    · refine .inr ⟨ys, y, by simp, ?_⟩
      have := h (by simp)
      simpa using this
theorem Neat.tail {x : Nat} {xs : List Nat} (h : Neat (x :: xs)) : Neat xs := by
  rw [neat_iff] at h ⊢
  intro hl
  have := h (by simp)
  simp only [List.length_cons, Nat.add_sub_cancel] at this
  rw [List.getElem_cons] at this
  rw [dif_neg (by omega)] at this
  exact this

theorem val_eq_zero {b : Nat} (hb : 0 < b) {xs : List Nat} (h : Neat xs) (hv : val b xs = 0) : xs = [] := by
  rcases h with rfl | ⟨ys, y, rfl, hy⟩
  · rfl
  · rw [val_snoc] at hv
    have : 0 < b ^ ys.length := Nat.pow_pos hb
    have h2 : b ^ ys.length * y = 0 := by omega
    rcases Nat.mul_eq_zero.1 h2 with h | h
    · omega
    · exact absurd h hy

theorem neat_ge {b : Nat} {xs : List Nat} (h : Neat xs) (hl : 0 < xs.length) : b ^ (xs.length - 1) ≤ val b xs := by
  rcases h with rfl | ⟨ys, y, rfl, hy⟩
  · simp at hl
  · rw [val_snoc]
    simp only [List.length_append, List.length_singleton, Nat.add_sub_cancel]
    have : b ^ ys.length * 1 ≤ b ^ ys.length * y := Nat.mul_le_mul_left _ (by omega)
    omega

/-- The digits of a number. -/
def dig (b n : Nat) : List Nat := if _h : n = 0 ∨ b < 2 then [] else n % b :: dig b (n / b)
termination_by n
decreasing_by exact Nat.div_lt_self (by omega) (by omega)

theorem dig_zero (b : Nat) : dig b 0 = [] := by unfold dig; simp
theorem dig_pos {b n : Nat} (hb : 2 ≤ b) (hn : n ≠ 0) : dig b n = n % b :: dig b (n / b) := by
  rw [dig.eq_1 b n, dif_neg (by omega)]

theorem val_dig {b : Nat} (hb : 2 ≤ b) (n : Nat) : val b (dig b n) = n := by
  induction n using Nat.strongRecOn with
  | ind n ih =>
    by_cases hn : n = 0
    · subst hn; simp [dig_zero, val]
    · rw [dig_pos hb hn, val, ih _ (Nat.div_lt_self (by omega) (by omega))]
      exact Nat.mod_add_div n b

theorem low_dig {b : Nat} (hb : 2 ≤ b) (n : Nat) : Low b (dig b n) := by
  induction n using Nat.strongRecOn with
  | ind n ih =>
    by_cases hn : n = 0
    · subst hn; simp [dig_zero, Low.nil]
    · rw [dig_pos hb hn]
      exact Low.cons (Nat.mod_lt _ (by omega)) (ih _ (Nat.div_lt_self (by omega) (by omega)))

theorem dig_val {b : Nat} (hb : 2 ≤ b) {xs : List Nat} (hl : Low b xs) (hn : Neat xs) : dig b (val b xs) = xs := by
  induction xs with
  | nil => simp [val, dig_zero]
  | cons x xs ih =>
    have hx := hl.head
    have h0 : val b (x :: xs) ≠ 0 := fun e => by
      have := val_eq_zero (by omega) hn e
      simp at this
    rw [dig_pos hb h0]
    have e1 : val b (x :: xs) % b = x := by
      simp only [val]; rw [Nat.add_mul_mod_self_left]; exact Nat.mod_eq_of_lt hx
    have e2 : val b (x :: xs) / b = val b xs := by
      simp only [val]; rw [Nat.add_mul_div_left _ _ (by omega), Nat.div_eq_of_lt hx]; omega
    rw [e1, e2, ih hl.tail hn.tail]

theorem neat_dig {b : Nat} (hb : 2 ≤ b) (n : Nat) : Neat (dig b n) := by
  induction n using Nat.strongRecOn with
  | ind n ih =>
    by_cases hn : n = 0
    · subst hn; simp [dig_zero, neat_nil]
    · rw [dig_pos hb hn]
      rcases ih _ (Nat.div_lt_self (show 0 < n by omega) (show 1 < b by omega)) with h | ⟨ys, y, h, hy⟩
      · have h0 : n / b = 0 := by rw [← val_dig hb (n / b), h]; rfl
        have : n < b := by
          rcases Nat.div_eq_zero_iff.1 h0 with h | h <;> omega
        rw [h, Nat.mod_eq_of_lt this]
        exact .inr ⟨[], n, rfl, hn⟩
      · rw [h]; exact .inr ⟨n % b :: ys, y, rfl, hy⟩

/-- Digits without a 0 at the end are those of the number that they make. -/
theorem dig_of {b n : Nat} (hb : 2 ≤ b) {xs : List Nat} (hl : Low b xs) (hn : Neat xs) (hv : val b xs = n) : dig b n = xs := by
  subst hv; exact dig_val hb hl hn

theorem dig_len_lt {b n : Nat} (hb : 2 ≤ b) : n < b ^ (dig b n).length := by
  have := val_lt b _ (low_dig hb n)
  rwa [val_dig hb] at this
theorem dig_len_ge {b n : Nat} (hb : 2 ≤ b) (h : 0 < (dig b n).length) : b ^ ((dig b n).length - 1) ≤ n := by
  have := neat_ge (b := b) (neat_dig hb n) h
  rwa [val_dig hb] at this
theorem dig_len_le {b n k : Nat} (hb : 2 ≤ b) (h : n < b ^ k) : (dig b n).length ≤ k := by
  rcases Nat.lt_or_ge k (dig b n).length with hk | hk
  · have h1 := dig_len_ge hb (n := n) (by omega)
    have h2 : b ^ k ≤ b ^ ((dig b n).length - 1) := Nat.pow_le_pow_right (by omega) (by omega)
    omega
  · exact hk
theorem dig_nil_iff {b n : Nat} (hb : 2 ≤ b) : dig b n = [] ↔ n = 0 := by
  constructor
  · intro h; have := val_dig hb n; rw [h] at this; simpa [val] using this.symm
  · rintro rfl; exact dig_zero b

/-- The digits that are left when the zeros at the end are cut off. -/
theorem take_neat {b : Nat} (hb : 2 ≤ b) {xs : List Nat} (hl : Low b xs) {k : Nat} (hk : k ≤ xs.length) (hz : ∀ i (h : i < xs.length), k ≤ i → xs[i]'h = 0)
    (hn : ∀ h : 0 < k, xs[k - 1]'(by omega) ≠ 0) : xs.take k = dig b (val b xs) := by
  have hd : xs.drop k = List.replicate (xs.length - k) 0 := by
    apply List.ext_getElem
    · simp
    · intro i h1 h2
      simp at h1
      rw [List.getElem_drop, List.getElem_replicate]
      exact hz _ _ (by omega)
  have hv : val b xs = val b (xs.take k) := by
    rw [val_take_drop b xs k hk, hd, val_replicate]; simp
  rw [hv]
  refine (dig_val hb (hl.take k) ?_).symm
  rw [neat_iff]
  intro h
  simp only [List.length_take, List.getElem_take, Nat.min_eq_left hk] at h ⊢
  exact hn h

theorem val_inj {b : Nat} (hb : 2 ≤ b) {xs ys : List Nat} (hlen : xs.length = ys.length) (hx : Low b xs) (hy : Low b ys) (h : val b xs = val b ys) : xs = ys := by
  induction xs generalizing ys with
  | nil => exact (List.eq_nil_of_length_eq_zero hlen.symm).symm
  | cons x xs ih =>
    cases ys with
    | nil => simp at hlen
    | cons y ys =>
      simp only [val] at h
      have h1 := hx.head
      have h2 := hy.head
      have e1 : (x + b * val b xs) % b = x := by rw [Nat.add_mul_mod_self_left]; exact Nat.mod_eq_of_lt h1
      have e2 : (y + b * val b ys) % b = y := by rw [Nat.add_mul_mod_self_left]; exact Nat.mod_eq_of_lt h2
      have e : x = y := by rw [← e1, ← e2, h]
      subst e
      have h3 : b * val b xs = b * val b ys := by omega
      have h4 := Nat.eq_of_mul_eq_mul_left (by omega) h3
      rw [ih (by simpa using hlen) hx.tail hy.tail h4]

end Go.Proofs.Num

/- make and copy of elements of any number of cells, said of blocks that are known whole. -/
namespace Go.Proofs.YthgekjkgfccnaaaGreat
open Go.RowKit

theorem made_same (a : Value) (k m : Nat) (hk : 0 < k) : madeCells (Array.replicate k a) m = (List.replicate m a).toArray := by
  unfold madeCells
  apply Array.ext
  · simp
  · intro i h1 h2
    have : i % k < k := Nat.mod_lt _ hk
    simp [this]
/-- make, all of whose cells are a. -/
theorem run_make_same {P : Program} (t e : TypeId) (z a : Value) (k bytes : Nat) (ht : P.underlying t = some (.slice e)) (hinfo : (P.info? e).map (fun i => (i.zero, i.size, i.bytes)) = some (some z, k, bytes)) (hz : z.cells = Array.replicate k a) (hk : 0 < k)
    (n N : Nat) (hN : N = n * k) (hbytes : bytes * n ≤ 281474976710656) (h63 : n ≤ 9223372036854775807) (w : World) :
    (Instr.makeSlice t (.int .i64 (n : Int)) (.int .i64 (n : Int))).run P w = .ok (.slice (some ⟨w.heap.size, 0, none⟩) n n) (w.alloc (.cells (Array.replicate N a) e)) := by
  subst hN
  obtain ⟨i, hi, hzz⟩ := Option.map_eq_some_iff.1 hinfo
  simp only [Prod.mk.injEq] at hzz
  obtain ⟨h1, h2, h3⟩ := hzz
  have hb : (i.bytes : Int) * (n : Int) ≤ 281474976710656 := by
    have h : ((i.bytes * n : Nat) : Int) ≤ 281474976710656 := by rw [h3]; omega
    rwa [Int.natCast_mul] at h
  have hr := run_make (P := P) w t e i z ht hi h1 .i64 .i64 n n (by omega) (by omega) hb (by omega)
  simp only [Int.toNat_natCast] at hr
  rw [h2, hz, made_same a k _ hk] at hr
  simpa using hr

theorem run_copy_rowN {P : Program} (w : World) (dT sT ty elem : TypeId) (g o dLen dCap : Nat) (a : Addr) (sLen sCap k n : Nat) (cur : List Value) (t : TypeId) (cs : List Value)
    (hu : P.underlying dT = some (.slice elem)) (hs : (P.info? elem).map (·.size) = some k)
    (hg : w.heap[g]? = some (.cells cur.toArray t (0, 0))) (hn : n = Nat.min sLen dLen) (hc : cs.length = n * k)
    (hsrc : ∀ (j : Nat) (v : Value), cs[j]? = some v → w.cell? (a.add j) = some v) (hfit : o + cs.length ≤ cur.length) (h1 : ∀ v ∈ cs, v.oneCell' = true) :
    (Builtin.copy_ #[dT, sT] ty #[.slice (some ⟨g, o, none⟩) dLen dCap, .slice (some a) sLen sCap]).run P w =
      .ok (goInt n) (w.setRow g (cur.take o ++ cs ++ cur.drop (o + cs.length)).toArray) := by
  have hl := run_loadCells_list (P := P) w a cs hsrc
  have hst := run_storeCells_at P g o t cs 0 cur.toArray w hg (by simpa using hfit) h1
  cases hq : P.info? elem with
  | none => simp [hq] at hs
  | some i =>
    have hi : i.size = k := by simpa [hq] using hs
    rw [hc] at hl
    simp only [Nat.add_zero] at hst
    simp [Builtin.copy_, run_underlying hu, Builtin.lenOf, Builtin.firstCells, sizeOf, typeInfo, hq, hi, ← hn, hl, hst]

/-- The built-in copy into a block that is known whole. -/
theorem wpList_copyN {P : Program} {w : World} {ops : Array Oper} {rest : List Oper} {o : Oper} {a : Act} {Q : Exit → Act → World → Prop} (hgd : o.guard = none) (d s : Operand) (dT sT : TypeId)
    (ho : o.op = .call { callee := .builtin .copy, args := #[d, s], argTypes := #[dT, sT] }) (elem : TypeId) (hu : P.underlying dT = some (.slice elem)) (k : Nat) (hsz : (P.info? elem).map (·.size) = some k)
    (g off dLen dCap g' off' sLen sCap n : Nat) (hd : a.eval d = .slice (some ⟨g, off, none⟩) dLen dCap) (hs : a.eval s = .slice (some ⟨g', off', none⟩) sLen sCap)
    (cur : List Value) (t : TypeId) (hg : Blk t w g cur) (cs : List Value) (hn : n = Nat.min sLen dLen) (hc : cs.length = n * k)
    (hsrc : Vals w (some ⟨g', off', none⟩) cs) (hfit : off + cs.length ≤ cur.length) (h1 : ∀ v ∈ cs, v.oneCell' = true)
    (h : ∀ w', Blk t w' g (cur.take off ++ cs ++ cur.drop (off + cs.length)) → w.grownBy w' (some g) → wpList P ops Q rest (a.put o.dst (goInt n)) w') : wpList P ops Q (o :: rest) a w := by
  refine wpList_plain hgd fun K hK => ?_
  have hsrc' : ∀ (j : Nat) (v : Value), cs[j]? = some v → w.cell? ((⟨g', off', none⟩ : Addr).add j) = some v := by
    intro j v hv
    obtain ⟨g2, off2, e, _, hcell⟩ := hsrc (by have := (List.getElem?_eq_some_iff.1 hv).1; omega)
    injection e with e
    injection e with e1 e2
    subst e1 e2
    have := hcell j v hv
    unfold Addr.add
    split
    · rename_i h0; subst h0; exact this
    · exact this
  have hrun := run_copy_rowN (P := P) w dT sT o.type elem g off dLen dCap ⟨g', off', none⟩ sLen sCap k n cur t cs hu hsz hg hn hc hsrc' hfit h1
  unfold Oper.wp
  simp [execOp, ho, resolve, invoke, builtin, hd, hs, hrun, Result.andThen]
  refine hK _ _ (h _ ?_ ⟨rfl, rfl, rfl, by simp, fun i _ hne => setRow_other w g i _ (by rintro rfl; exact hne rfl)⟩)
  have := setRow_heap w g cur.toArray (cur.take off ++ cs ++ cur.drop (off + cs.length)).toArray t (0, 0) hg
  simpa [Blk] using this
/-- The same as one step of a region that draws its order. -/
theorem step_copyN {P : Program} {w : World} {ops : Array Oper} {o : Oper} {a : Act} {K : Act → World → Prop} {Q : Exit → Act → World → Prop} {E : Prop} (hgd : o.guard = none) (d s : Operand) (dT sT : TypeId)
    (ho : o.op = .call { callee := .builtin .copy, args := #[d, s], argTypes := #[dT, sT] }) (elem : TypeId) (hu : P.underlying dT = some (.slice elem)) (k : Nat) (hsz : (P.info? elem).map (·.size) = some k)
    (g off dLen dCap g' off' sLen sCap n : Nat) (hd : a.eval d = .slice (some ⟨g, off, none⟩) dLen dCap) (hs : a.eval s = .slice (some ⟨g', off', none⟩) sLen sCap)
    (cur : List Value) (t : TypeId) (hg : Blk t w g cur) (cs : List Value) (hn : n = Nat.min sLen dLen) (hc : cs.length = n * k)
    (hsrc : Vals w (some ⟨g', off', none⟩) cs) (hfit : off + cs.length ≤ cur.length) (h1 : ∀ v ∈ cs, v.oneCell' = true)
    (h : ∀ w', Blk t w' g (cur.take off ++ cs ++ cur.drop (off + cs.length)) → w.grownBy w' (some g) → K (a.put o.dst (goInt n)) w') :
    if Region.wanted o (yielded ops a.tmps) = true then Oper.wp P o a w K Q else E := by
  have hw : Region.wanted o (yielded ops a.tmps) = true := by simp [Region.wanted, hgd]
  rw [if_pos hw]
  have hsrc' : ∀ (j : Nat) (v : Value), cs[j]? = some v → w.cell? ((⟨g', off', none⟩ : Addr).add j) = some v := by
    intro j v hv
    obtain ⟨g2, off2, e, _, hcell⟩ := hsrc (by have := (List.getElem?_eq_some_iff.1 hv).1; omega)
    injection e with e
    injection e with e1 e2
    subst e1 e2
    have := hcell j v hv
    unfold Addr.add
    split
    · rename_i h0; subst h0; exact this
    · exact this
  have hrun := run_copy_rowN (P := P) w dT sT o.type elem g off dLen dCap ⟨g', off', none⟩ sLen sCap k n cur t cs hu hsz hg hn hc hsrc' hfit h1
  unfold Oper.wp
  simp [execOp, ho, resolve, invoke, builtin, hd, hs, hrun, Result.andThen]
  refine h _ ?_ ⟨rfl, rfl, rfl, by simp, fun i _ hne => setRow_other w g i _ (by rintro rfl; exact hne rfl)⟩
  have := setRow_heap w g cur.toArray (cur.take off ++ cs ++ cur.drop (off + cs.length)).toArray t (0, 0) hg
  simpa [Blk] using this
theorem is_one (l : List Int) : ∀ v ∈ is l, v.oneCell' = true := by
  intro v hv
  simp only [is, List.mem_map] at hv
  obtain ⟨x, _, rfl⟩ := hv
  rfl

/-- Block g is a row of cap cells of the call's own; its first are vs, of the others nothing is said. -/
def Hd (T : TypeId) (w : World) (g cap : Nat) (vs : List Value) : Prop := ∃ rest : List Value, vs.length + rest.length = cap ∧ Blk T w g (vs ++ rest)
namespace Hd
variable {T : TypeId} {w w' : World} {g cap : Nat} {vs : List Value}
theorem cell (h : Hd T w g cap vs) {i : Nat} {v : Value} (hv : vs[i]? = some v) : w.cell? ⟨g, i, none⟩ = some v := by
  obtain ⟨rest, _, hb⟩ := h
  rw [hb.cell, List.getElem?_append_left (List.getElem?_eq_some_iff.1 hv).1]
  exact hv
theorem frozen (h : Hd T w g cap vs) (i : Nat) : w.frozen? ⟨g, i, none⟩ = false := by obtain ⟨rest, _, hb⟩ := h; exact hb.frozen i
theorem lt (h : Hd T w g cap vs) : g < w.heap.size := by obtain ⟨rest, _, hb⟩ := h; exact hb.lt
theorem cap_le (h : Hd T w g cap vs) : vs.length ≤ cap := by obtain ⟨rest, h, _⟩ := h; omega
theorem keep (h : Hd T w g cap vs) (hb : Below w.heap.size w w') : Hd T w' g cap vs := by obtain ⟨rest, h1, h2⟩ := h; exact ⟨rest, h1, h2.keep hb⟩
theorem below {B : Nat} (h : Hd T w g cap vs) (hb : Below B w w') (hg : g < B) : Hd T w' g cap vs := by obtain ⟨rest, h1, h2⟩ := h; exact ⟨rest, h1, h2.below hb hg⟩
theorem drew (h : Hd T w g cap vs) : Hd T w.drew g cap vs := h
theorem drewN (h : Hd T w g cap vs) (n : Nat) : Hd T (w.drewN n) g cap vs := h
theorem alloc (h : Hd T w g cap vs) (o : Obj) : Hd T (w.alloc o) g cap vs := by obtain ⟨rest, h1, h2⟩ := h; exact ⟨rest, h1, h2.alloc o⟩
theorem grown {row : Option Nat} (h : Hd T w g cap vs) (hb : w.grownBy w' row) (hg : some g ≠ row) : Hd T w' g cap vs := by obtain ⟨rest, h1, h2⟩ := h; exact ⟨rest, h1, h2.grown hb hg⟩
theorem set (h : Hd T w g cap vs) {i : Nat} (hi : i < vs.length) (v : Value) : Hd T (w.setCell ⟨g, i, none⟩ v) g cap (vs.set i v) := by
  obtain ⟨rest, h1, h2⟩ := h
  refine ⟨rest, by rw [List.length_set]; exact h1, ?_⟩
  have := h2.set i v
  rwa [List.set_append_left _ _ hi] at this
theorem setOther (h : Hd T w g cap vs) {a : Addr} (ha : g ≠ a.block) (v : Value) : Hd T (w.setCell a v) g cap vs := by obtain ⟨rest, h1, h2⟩ := h; exact ⟨rest, h1, h2.setOther ha v⟩
theorem vals (h : Hd T w g cap vs) : Vals w (some ⟨g, 0, none⟩) vs := by
  intro _
  exact ⟨g, 0, rfl, h.lt, fun i v hv => by rw [Nat.zero_add]; exact h.cell hv⟩
theorem of_blk (h : Blk T w g vs) : Hd T w g vs.length vs := ⟨[], by simp, by simpa using h⟩
theorem of_owns {v : Value} {B n : Nat} (h : w.ownsRow B T 1 v n vs) (hv : v ≠ .slice none 0 0) : ∃ g cap, v = .slice (some ⟨g, 0, none⟩) vs.length cap ∧ B ≤ g ∧ n = vs.length ∧ Hd T w g cap vs := by
  have hn : n = vs.length := by have := h.1; omega
  subst hn
  rcases h.2 with ⟨h1, _⟩ | ⟨g, cap, cur, e, h1, h2, h3, h4, h5, h6⟩
  · exact absurd h1 hv
  · refine ⟨g, cap, e, h1, rfl, cur.toList.drop vs.length, ?_, ?_⟩
    · simp at h5 ⊢; omega
    · have e2 : vs ++ cur.toList.drop vs.length = cur.toList := by
        have h7 : cur.toList.take vs.length = vs := by simpa using h6
        conv => lhs; lhs; rw [← h7]
        exact List.take_append_drop _ _
      unfold Blk
      rw [e2]
      simpa using h2
theorem owns (h : Hd T w g cap vs) {B : Nat} (hB : B ≤ g) (hc : cap ≤ maxLen) : w.ownsRow B T 1 (.slice (some ⟨g, 0, none⟩) vs.length cap) vs.length vs := by
  obtain ⟨rest, h1, h2⟩ := h
  refine ⟨by simp, .inr ⟨g, cap, (vs ++ rest).toArray, rfl, hB, h2, by omega, hc, by simp; omega, by simp⟩⟩
end Hd
theorem own_empty (w : World) (T : TypeId) : (w.alloc (.cells #[] T)).ownsRow w.heap.size T 1 (.slice (some ⟨w.heap.size, 0, none⟩) 0 0) 0 [] :=
  ⟨rfl, .inr ⟨w.heap.size, 0, #[], rfl, Nat.le_refl _, heap_alloc_new _ _, Nat.le_refl _, by unfold maxLen; omega, rfl, rfl⟩⟩
theorem vals_cells {w : World} {ad : Addr} {vs : List Value} (h : Vals w (some ad) vs) : ∀ (j : Nat) (u : Value), vs[j]? = some u → w.cell? (ad.add j) = some u := by
  intro j u hu
  obtain ⟨g, off, e, _, hc⟩ := h (by have := (List.getElem?_eq_some_iff.1 hu).1; omega)
  injection e with e
  subst e
  have := hc j u hu
  unfold Addr.add
  split
  · rename_i h0; subst h0; exact this
  · exact this
end Go.Proofs.YthgekjkgfccnaaaGreat

/- What is said of memory: slices that read as numbers, rows of the call's own that hold numbers. -/
namespace Go.Proofs.YthgekjkgfccnaaaGreat
open Go.RowKit Num

/-- The bases, under names: a walk must not meet such numerals. -/
def B64 : Nat := 18446744073709551616
def B32 : Nat := 4294967296
theorem b64_two : 2 ≤ B64 := by unfold B64; omega
theorem b32_two : 2 ≤ B32 := by unfold B32; omega
theorem b64_pos : 0 < B64 := by unfold B64; omega
theorem b32_pos : 0 < B32 := by unfold B32; omega

/-- The slice at A reads as these numbers; its cells lie in a block that is there. -/
def Nums (k : IntKind) (w : World) (A : Option Addr) (xs : List Nat) : Prop :=
  0 < xs.length → ∃ g off, A = some ⟨g, off, none⟩ ∧ g < w.heap.size ∧ ∀ (i v : Nat), xs[i]? = some v → w.cell? ⟨g, off + i, none⟩ = some (.int k (v : Int))

theorem Nums.nil {k : IntKind} {w : World} {A : Option Addr} : Nums k w A [] := fun h => absurd h (by simp)

theorem Nums.keep {k : IntKind} {w w' : World} {A : Option Addr} {xs : List Nat} (h : Nums k w A xs) (hb : Below w.heap.size w w') : Nums k w' A xs := by
  intro hl
  obtain ⟨g, off, e, hg, hc⟩ := h hl
  exact ⟨g, off, e, Nat.lt_of_lt_of_le hg hb.size, fun i v hv => (hb.cell (p := ⟨g, off + i, none⟩) hg).trans (hc i v hv)⟩

theorem Nums.at_ {k : IntKind} {w : World} {A : Option Addr} {xs : List Nat} (h : Nums k w A xs) {i : Nat} (hi : i < xs.length) :
    ∃ g off v, A = some ⟨g, off, none⟩ ∧ g < w.heap.size ∧ xs[i]? = some v ∧ w.cell? ⟨g, off + i, none⟩ = some (.int k (v : Int)) := by
  obtain ⟨g, off, e, hg, hc⟩ := h (by omega)
  exact ⟨g, off, xs[i], e, hg, List.getElem?_eq_getElem hi, hc _ _ (List.getElem?_eq_getElem hi)⟩

theorem Nums.take {k : IntKind} {w : World} {A : Option Addr} {xs : List Nat} (h : Nums k w A xs) (n : Nat) : Nums k w A (xs.take n) := by
  intro hl
  obtain ⟨g, off, e, hg, hc⟩ := h (by simp at hl; omega)
  refine ⟨g, off, e, hg, fun i v hv => hc i v ?_⟩
  rw [List.getElem?_take] at hv
  split at hv
  · exact hv
  · cases hv

/-- Block g is a row of these numbers, each of kind k; none is frozen. T: the number's type. -/
def Row (k : IntKind) (T : TypeId) (w : World) (g : Nat) (zs : List Nat) : Prop := w.rowIs g T zs.length (fun j => .int k ((zs.getD j 0 : Nat) : Int))

section
variable {k : IntKind} {T : TypeId} {w w' : World} {g : Nat} {zs : List Nat}

theorem Row.cell (h : Row k T w g zs) {i v : Nat} (hv : zs[i]? = some v) : w.cell? ⟨g, i, none⟩ = some (.int k (v : Int)) := by
  have hi : i < zs.length := (List.getElem?_eq_some_iff.1 hv).1
  have := World.rowIs.cell h hi
  rw [this]
  simp [hv]

theorem Row.frozen (h : Row k T w g zs) (i : Nat) : w.frozen? ⟨g, i, none⟩ = false := World.rowIs.frozen h i
theorem Row.lt (h : Row k T w g zs) : g < w.heap.size := World.rowIs.lt h
theorem Row.drew (h : Row k T w g zs) : Row k T w.drew g zs := h
theorem Row.of_block (h : Row k T w g zs) (e : w'.heap[g]? = w.heap[g]?) : Row k T w' g zs := World.rowIs.of_block h e
theorem Row.below {B : Nat} (h : Row k T w g zs) (hb : Below B w w') (hg : g < B) : Row k T w' g zs := h.of_block (hb.block g hg)
theorem Row.grown {row : Option Nat} (h : Row k T w g zs) (hb : w.grownBy w' row) (hg : some g ≠ row) : Row k T w' g zs := h.of_block (hb.block g h.lt hg)
theorem Row.alloc (h : Row k T w g zs) (o : Obj) : Row k T (w.alloc o) g zs := World.rowIs.alloc h o
theorem Row.set (h : Row k T w g zs) (i v : Nat) : Row k T (w.setCell ⟨g, i, none⟩ (.int k (v : Int))) g (zs.set i v) := by
  unfold Row
  rw [List.length_set]
  refine World.rowIs.congr (World.rowIs.set h i _) fun j hj => ?_
  simp only [List.getD_eq_getElem?_getD, List.getElem?_set]
  by_cases e : j = i
  · subst e; simp [hj]
  · rw [if_neg e, if_neg (fun h => e h.symm)]
theorem Row.setOther (h : Row k T w g zs) {a : Addr} (ha : g ≠ a.block) (v : Value) : Row k T (w.setCell a v) g zs := World.rowIs.setOther h ha v
theorem Row.made (w : World) (k : IntKind) (n : Nat) (T : TypeId) : Row k T (w.alloc (.cells (madeCells #[.int k 0] n) T)) w.heap.size (List.replicate n 0) := by
  unfold Row
  rw [List.length_replicate]
  exact World.rowIs.congr (World.rowIs_made w (.int k 0) n T) fun j hj => by simp [hj]

/-- A part of a row reads as numbers. -/
theorem Row.nums (h : Row k T w g zs) (off n : Nat) : Nums k w (some ⟨g, off, none⟩) ((zs.drop off).take n) := by
  intro _
  refine ⟨g, off, rfl, h.lt, fun i v hv => h.cell ?_⟩
  rw [List.getElem?_take] at hv
  split at hv
  · rw [List.getElem?_drop] at hv; exact hv
  · cases hv
theorem Row.nums0 (h : Row k T w g zs) (n : Nat) : Nums k w (some ⟨g, 0, none⟩) (zs.take n) := by
  have := h.nums 0 n
  rwa [List.drop_zero] at this
end

/-- The slice value v reads in w as the digits of n (kind k, base b); nothing is said of who owns it. -/
def IsNum (k : IntKind) (b : Nat) (w : World) (v : Value) (n : Nat) : Prop :=
  ∃ A c, v = .slice A (dig b n).length c ∧ (dig b n).length ≤ c ∧ Nums k w A (dig b n)

theorem IsNum.keep {k : IntKind} {b : Nat} {w w' : World} {v : Value} {n : Nat} (h : IsNum k b w v n) (hb : Below w.heap.size w w') : IsNum k b w' v n := by
  obtain ⟨A, c, e, hc, hn⟩ := h
  exact ⟨A, c, e, hc, hn.keep hb⟩

/-- .. and it lies at the head of a row of its own, in a block from B on. -/
def OwnNum (k : IntKind) (T : TypeId) (b : Nat) (B : Nat) (w : World) (v : Value) (n : Nat) : Prop :=
  ∃ g c zs, v = .slice (some ⟨g, 0, none⟩) (dig b n).length c ∧ (dig b n).length ≤ c ∧ c = zs.length ∧ B ≤ g ∧ Row k T w g zs ∧ Low b zs ∧ zs.take (dig b n).length = dig b n

theorem OwnNum.is {k : IntKind} {T : TypeId} {b B : Nat} {w : World} {v : Value} {n : Nat} (h : OwnNum k T b B w v n) : IsNum k b w v n := by
  obtain ⟨g, c, zs, e, hc, _, _, hr, _, ht⟩ := h
  refine ⟨_, _, e, hc, ?_⟩
  have := hr.nums0 (dig b n).length
  rwa [ht] at this

/-- Words of 64 bits; limbs of 32 bits. -/
abbrev W64 (w : World) (v : Value) (n : Nat) : Prop := IsNum .u64 B64 w v n
abbrev N32 (w : World) (v : Value) (n : Nat) : Prop := IsNum .u32 B32 w v n
abbrev OwnW (B : Nat) (w : World) (v : Value) (n : Nat) : Prop := OwnNum .u64 67 B64 B w v n

theorem info67 : (Tryz.prog.info? 67).map (fun i => (i.zero, i.size, i.bytes)) = some (some (.int .u64 0), 1, 8) := by kernel_rfl
theorem info106 : (Tryz.prog.info? 106).map (fun i => (i.zero, i.size, i.bytes)) = some (some (.int .u32 0), 1, 4) := by kernel_rfl
/-- make of words. -/
theorem make64 (n : Nat) (h : n ≤ 1000000000000) (w : World) : (Instr.makeSlice 117 (.int .i64 (n : Int)) (.int .i64 (n : Int))).run Tryz.prog w = .ok (.slice (some ⟨w.heap.size, 0, none⟩) n n) (w.alloc (.cells (madeCells #[.int .u64 0] n) 67)) :=
  run_make_row' 117 67 (.int .u64 0) 8 Tryz.underlying117 info67 rfl .i64 .i64 n (by omega) (by omega) w

theorem ret_i {k : IntKind} {a b : Int} (h : a = b) : Ending.returned (.int k a) = .returned (.int k b) := by rw [h]
theorem ret_b {a b : Bool} (h : a = b) : Ending.returned (.bool a) = .returned (.bool b) := by rw [h]

/-- A quiet callee behind draws. -/
theorem quiet_l {P : Program} {f : FuncId} {args : Array Value} {w : World} {n : Nat} {v : Value}
    (h : Calls P f args (w.drewN n) fun e w' => e = .returned v ∧ w.drewN n = w') : Calls P f args (w.drewN n) fun e w'' => e = .returned v ∧ ∃ m, w'' = w.drewN m :=
  h.mono fun _ _ ⟨he, hm⟩ => ⟨he, n, hm.symm⟩
theorem quiet_a {P : Program} {f : FuncId} {args : Array Value} {w : World} {a n : Nat} {v : Value}
    (h : Calls P f args (w.drewN (a + n)) fun e w' => e = .returned v ∧ w.drewN (a + n) = w') :
    Calls P f args (w.drewN (a + n)) fun e w'' => e = .returned v ∧ ∃ m, w'' = w.drewN (a + m) :=
  h.mono fun _ _ ⟨he, hm⟩ => ⟨he, n, hm.symm⟩

end Go.Proofs.YthgekjkgfccnaaaGreat

/- Plain laws: a number in a part of a row, and what adding, digit by digit, makes of it. -/
namespace Go.Proofs.Num

/-- k digits from place off on. -/
def seg (zs : List Nat) (off k : Nat) : List Nat := (zs.drop off).take k

theorem seg_zero (zs : List Nat) (off : Nat) : seg zs off 0 = [] := by simp [seg]
theorem seg_len {zs : List Nat} {off k : Nat} (h : off + k ≤ zs.length) : (seg zs off k).length = k := by simp [seg]; omega
theorem seg_low {b : Nat} {zs : List Nat} (h : Low b zs) (off k : Nat) : Low b (seg zs off k) := (h.drop off).take k
theorem seg_get? (zs : List Nat) (off k i : Nat) : (seg zs off k)[i]? = if i < k then zs[off + i]? else none := by
  simp only [seg, List.getElem?_take, List.getElem?_drop]
theorem seg_all (zs : List Nat) : seg zs 0 zs.length = zs := by simp [seg]
theorem seg_congr {zs ys : List Nat} {off k : Nat} (h : ∀ i, off ≤ i → i < off + k → zs[i]? = ys[i]?) : seg zs off k = seg ys off k := by
  apply List.ext_getElem?
  intro i
  rw [seg_get?, seg_get?]
  split
  · exact h _ (by omega) (by omega)
  · rfl
theorem val_seg_succ (b : Nat) {zs : List Nat} {off k v : Nat} (h : zs[off + k]? = some v) : val b (seg zs off (k + 1)) = val b (seg zs off k) + b ^ k * v := by
  have hl := (List.getElem?_eq_some_iff.1 h).1
  have hv := (List.getElem?_eq_some_iff.1 h).2
  have h1 : k < (zs.drop off).length := by simp; omega
  have := val_take_succ b (zs.drop off) k h1
  rw [List.getElem_drop, hv] at this
  exact this
theorem val_seg_add (b : Nat) {zs : List Nat} {off j k : Nat} (h : off + j + k ≤ zs.length) : val b (seg zs off (j + k)) = val b (seg zs off j) + b ^ j * val b (seg zs (off + j) k) := by
  have e : seg zs off (j + k) = seg zs off j ++ seg zs (off + j) k := by
    unfold seg
    rw [List.take_add, List.drop_drop]
  rw [e, val_append, seg_len (by omega)]
theorem seg_set_far {zs : List Nat} {off k i v : Nat} (h : i < off ∨ off + k ≤ i) : seg (zs.set i v) off k = seg zs off k := seg_congr fun j h1 h2 => by
  rw [List.getElem?_set, if_neg (by omega)]

/-- After k digits: what has been written at off .. is the sum of what stood there and of the first k digits of xs, but for the carry. -/
structure AddSt (b : Nat) (zs xs : List Nat) (off k : Nat) (zs' : List Nat) (c : Nat) : Prop where
  len : zs'.length = zs.length
  low : Low b zs'
  le : c ≤ 1
  far : ∀ i, i < off ∨ off + k ≤ i → zs'[i]? = zs[i]?
  eq : val b (seg zs' off k) + b ^ k * c = val b (seg zs off k) + val b (xs.take k)

theorem AddSt.start {b : Nat} {zs xs : List Nat} {off : Nat} (hz : Low b zs) : AddSt b zs xs off 0 zs 0 :=
  ⟨rfl, hz, by omega, fun _ _ => rfl, by simp [seg_zero, val]⟩

theorem AddSt.step {b : Nat} {zs xs zs' : List Nat} {off k c v x lo hi : Nat} (h : AddSt b zs xs off k zs' c)
    (hv : zs'[off + k]? = some v) (hx : xs.getD k 0 = x) (hs : lo + b * hi = v + x + c) (hlo : lo < b) (hhi : hi ≤ 1) :
    AddSt b zs xs off (k + 1) (zs'.set (off + k) lo) hi := by
  have hlen := (List.getElem?_eq_some_iff.1 hv).1
  refine ⟨by rw [List.length_set]; exact h.len, h.low.set hlo, hhi, fun i hi' => ?_, ?_⟩
  · rw [List.getElem?_set, if_neg (by omega)]
    exact h.far i (by omega)
  · have hz : zs[off + k]? = some v := by rw [← h.far (off + k) (by omega)]; exact hv
    have hnew : (zs'.set (off + k) lo)[off + k]? = some lo := by rw [List.getElem?_set_self hlen]
    have ht : val b (xs.take (k + 1)) = val b (xs.take k) + b ^ k * x := by
      by_cases hk : k < xs.length
      · rw [val_take_succ b xs k hk, ← hx]
        simp [List.getD_eq_getElem?_getD, List.getElem?_eq_getElem hk]
      · have : x = 0 := by rw [← hx]; simp [List.getD_eq_getElem?_getD, List.getElem?_eq_none (show xs.length ≤ k by omega)]
        rw [this, List.take_of_length_le (by omega), List.take_of_length_le (by omega)]; simp
    rw [val_seg_succ b hnew, val_seg_succ b hz, ht, seg_set_far (by omega)]
    have e := h.eq
    have : b ^ k * (lo + b * hi) = b ^ k * (v + x + c) := by rw [hs]
    rw [Nat.pow_succ]
    grind

/-- Behind a carry of 0 the rest stays as it was. -/
theorem AddSt.rest {b : Nat} {zs xs zs' : List Nat} {off k n : Nat} (h : AddSt b zs xs off k zs' 0) (hk : k ≤ n) (hx : xs.length ≤ k) (hn : off + n ≤ zs.length) : AddSt b zs xs off n zs' 0 := by
  obtain ⟨j, rfl⟩ : ∃ j, n = k + j := ⟨n - k, by omega⟩
  refine ⟨h.len, h.low, h.le, fun i hi => h.far i (by omega), ?_⟩
  have e := h.eq
  rw [List.take_of_length_le (by omega)] at e ⊢
  rw [val_seg_add b (by rw [h.len]; omega), val_seg_add b (by omega), seg_congr (zs := zs') (ys := zs) (off := off + k) (k := j) (fun i h1 h2 => h.far i (by omega))]
  simp at e ⊢
  omega
end Go.Proofs.Num
namespace Go.Proofs.Num
/-- After k digits: xs times m has been added. -/
structure ScaleSt (b : Nat) (zs xs : List Nat) (m off k : Nat) (zs' : List Nat) (c : Nat) : Prop where
  len : zs'.length = zs.length
  low : Low b zs'
  le : c < b
  far : ∀ i, i < off ∨ off + k ≤ i → zs'[i]? = zs[i]?
  eq : val b (seg zs' off k) + b ^ k * c = val b (seg zs off k) + val b (xs.take k) * m

theorem ScaleSt.start {b : Nat} (hb : 2 ≤ b) {zs xs : List Nat} {m off : Nat} (hz : Low b zs) : ScaleSt b zs xs m off 0 zs 0 :=
  ⟨rfl, hz, by omega, fun _ _ => rfl, by simp [seg_zero, val]⟩

theorem ScaleSt.step {b : Nat} {zs xs zs' : List Nat} {m off k c v x lo hi : Nat} (h : ScaleSt b zs xs m off k zs' c)
    (hv : zs'[off + k]? = some v) (hx : xs[k]? = some x) (hs : lo + b * hi = v + x * m + c) (hlo : lo < b) (hhi : hi < b) :
    ScaleSt b zs xs m off (k + 1) (zs'.set (off + k) lo) hi := by
  have hlen := (List.getElem?_eq_some_iff.1 hv).1
  refine ⟨by rw [List.length_set]; exact h.len, h.low.set hlo, hhi, fun i hi' => ?_, ?_⟩
  · rw [List.getElem?_set, if_neg (by omega)]
    exact h.far i (by omega)
  · have hz : zs[off + k]? = some v := by rw [← h.far (off + k) (by omega)]; exact hv
    have hnew : (zs'.set (off + k) lo)[off + k]? = some lo := by rw [List.getElem?_set_self hlen]
    have hk := (List.getElem?_eq_some_iff.1 hx).1
    have ht : val b (xs.take (k + 1)) = val b (xs.take k) + b ^ k * x := by
      rw [val_take_succ b xs k hk, (List.getElem?_eq_some_iff.1 hx).2]
    rw [val_seg_succ b hnew, val_seg_succ b hz, ht, seg_set_far (by omega)]
    have e := h.eq
    have : b ^ k * (lo + b * hi) = b ^ k * (v + x * m + c) := by rw [hs]
    rw [Nat.pow_succ]
    grind
theorem word_bound {b v x m c hi lo : Nat} (hv : v < b) (hx : x < b) (hm : m < b) (hc : c < b) (h : lo + b * hi = v + x * m + c) : hi < b := by
  have h1 : x * m ≤ (b - 1) * (b - 1) := Nat.mul_le_mul (by omega) (by omega)
  have h2 : (b - 1) * (b - 1) + 2 * (b - 1) + 1 = b * b := by
    obtain ⟨j, rfl⟩ : ∃ j, b = j + 1 := ⟨b - 1, by omega⟩
    simp only [Nat.add_sub_cancel]; grind
  rcases Nat.lt_or_ge hi b with h3 | h3
  · exact h3
  · have := Nat.mul_le_mul_left b h3
    omega
end Go.Proofs.Num
namespace Go.Proofs.Num
/-- After k digits: the first k digits of xs have been taken away, but for the borrow. -/
structure SubSt (b : Nat) (zs xs : List Nat) (off k : Nat) (zs' : List Nat) (c : Nat) : Prop where
  len : zs'.length = zs.length
  low : Low b zs'
  le : c ≤ 1
  far : ∀ i, i < off ∨ off + k ≤ i → zs'[i]? = zs[i]?
  eq : val b (seg zs' off k) + val b (xs.take k) = val b (seg zs off k) + b ^ k * c

theorem SubSt.start {b : Nat} {zs xs : List Nat} {off : Nat} (hz : Low b zs) : SubSt b zs xs off 0 zs 0 :=
  ⟨rfl, hz, by omega, fun _ _ => rfl, by simp [seg_zero, val]⟩

theorem SubSt.step {b : Nat} {zs xs zs' : List Nat} {off k c v x lo hi : Nat} (h : SubSt b zs xs off k zs' c)
    (hv : zs'[off + k]? = some v) (hx : xs.getD k 0 = x) (hs : lo + x + c = v + b * hi) (hlo : lo < b) (hhi : hi ≤ 1) :
    SubSt b zs xs off (k + 1) (zs'.set (off + k) lo) hi := by
  have hlen := (List.getElem?_eq_some_iff.1 hv).1
  refine ⟨by rw [List.length_set]; exact h.len, h.low.set hlo, hhi, fun i hi' => ?_, ?_⟩
  · rw [List.getElem?_set, if_neg (by omega)]
    exact h.far i (by omega)
  · have hz : zs[off + k]? = some v := by rw [← h.far (off + k) (by omega)]; exact hv
    have hnew : (zs'.set (off + k) lo)[off + k]? = some lo := by rw [List.getElem?_set_self hlen]
    have ht : val b (xs.take (k + 1)) = val b (xs.take k) + b ^ k * x := by
      by_cases hk : k < xs.length
      · rw [val_take_succ b xs k hk, ← hx]
        simp [List.getD_eq_getElem?_getD, List.getElem?_eq_getElem hk]
      · have : x = 0 := by rw [← hx]; simp [List.getD_eq_getElem?_getD, List.getElem?_eq_none (show xs.length ≤ k by omega)]
        rw [this, List.take_of_length_le (by omega), List.take_of_length_le (by omega)]; simp
    rw [val_seg_succ b hnew, val_seg_succ b hz, ht, seg_set_far (by omega)]
    have e := h.eq
    have : b ^ k * (lo + x + c) = b ^ k * (v + b * hi) := by rw [hs]
    rw [Nat.pow_succ]
    grind

theorem SubSt.rest {b : Nat} {zs xs zs' : List Nat} {off k n : Nat} (h : SubSt b zs xs off k zs' 0) (hk : k ≤ n) (hx : xs.length ≤ k) (hn : off + n ≤ zs.length) : SubSt b zs xs off n zs' 0 := by
  obtain ⟨j, rfl⟩ : ∃ j, n = k + j := ⟨n - k, by omega⟩
  refine ⟨h.len, h.low, h.le, fun i hi => h.far i (by omega), ?_⟩
  have e := h.eq
  rw [List.take_of_length_le (by omega)] at e ⊢
  rw [val_seg_add b (by rw [h.len]; omega), val_seg_add b (by omega), seg_congr (zs := zs') (ys := zs) (off := off + k) (k := j) (fun i h1 h2 => h.far i (by omega))]
  simp at e ⊢
  omega
end Go.Proofs.Num

namespace Go.Proofs.YthgekjkgfccnaaaGreat
open Go.RowKit Num

def sub64Entry : Array Value → Sem Value := fun args => do
  let (x, y, b) ← Extern.MathBitsCarry.three "Sub64" args
  pure (Extern.MathBitsCarry.pair ((x + Extern.MathBitsCarry.m64 - y - b) % Extern.MathBitsCarry.m64) (if x < y + b then 1 else 0))
/-- The borrow of a difference. -/
def bor (x y : Int) : Int := if x < y then 1 else 0

theorem add64 (x y c : Int) (hx : 0 ≤ x) (hy : 0 ≤ y) (hc0 : 0 ≤ c) (hc : c ≤ 1) (w : World) : (callFunc 146 #[.int .u64 x, .int .u64 y, .int .u64 c]).run Tryz.prog w =
    .ok (.value (.tuple #[.int .u64 ((x + y + c) % 18446744073709551616), .int .u64 ((x + y + c) / 18446744073709551616)])) w := by
  rw [run_callFunc_extern Tryz.func146 (by kernel_rfl) (by kernel_rfl) (by kernel_rfl) (e := add64Entry) (by kernel_rfl), run_add64 x y c hx hy hc0 hc]
  rfl
theorem run_sub64 {P : Program} (x y b : Nat) (hb : b ≤ 1) (w : World) :
    (sub64Entry #[.int .u64 x, .int .u64 y, .int .u64 b]).run P w =
      .ok (.tuple #[.int .u64 (((x + 18446744073709551616 - y - b) % 18446744073709551616 : Nat) : Int), .int .u64 ((if x < y + b then 1 else 0 : Nat) : Int)]) w := by
  have : b = 0 ∨ b = 1 := by omega
  rcases this with rfl | rfl <;> rfl
theorem sub64 (x y b : Int) (hx : 0 ≤ x) (hy : 0 ≤ y) (hy' : y < 18446744073709551616) (hb0 : 0 ≤ b) (hb : b ≤ 1) (w : World) : (callFunc 145 #[.int .u64 x, .int .u64 y, .int .u64 b]).run Tryz.prog w =
    .ok (.value (.tuple #[.int .u64 ((x - y - b) % 18446744073709551616), .int .u64 (bor x (y + b))])) w := by
  obtain ⟨x, rfl⟩ := Int.eq_ofNat_of_zero_le hx
  obtain ⟨y, rfl⟩ := Int.eq_ofNat_of_zero_le hy
  obtain ⟨b, rfl⟩ := Int.eq_ofNat_of_zero_le hb0
  have e1 : (((x + 18446744073709551616 - y - b) % 18446744073709551616 : Nat) : Int) = ((x : Int) - y - b) % 18446744073709551616 := by omega
  have e2 : ((if x < y + b then 1 else 0 : Nat) : Int) = bor x (y + b) := by unfold bor; split <;> split <;> omega
  rw [← e1, ← e2, run_callFunc_extern Tryz.func145 (by kernel_rfl) (by kernel_rfl) (by kernel_rfl) (e := sub64Entry) (by kernel_rfl), run_sub64 x y b (by omega)]
  rfl
theorem add64_0 (x y : Int) (hx : 0 ≤ x) (hy : 0 ≤ y) (w : World) : (callFunc 146 #[.int .u64 x, .int .u64 y, .int .u64 0]).run Tryz.prog w =
    .ok (.value (.tuple #[.int .u64 ((x + y) % 18446744073709551616), .int .u64 ((x + y) / 18446744073709551616)])) w := by
  simpa using add64 x y 0 hx hy (Int.le_refl 0) (by decide) w
theorem sub64_0 (x y : Int) (hx : 0 ≤ x) (hy : 0 ≤ y) (hy' : y < 18446744073709551616) (w : World) : (callFunc 145 #[.int .u64 x, .int .u64 y, .int .u64 0]).run Tryz.prog w =
    .ok (.value (.tuple #[.int .u64 ((x - y) % 18446744073709551616), .int .u64 (bor x y)])) w := by
  simpa using sub64 x y 0 hx hy hy' (Int.le_refl 0) (by decide) w
/-- What a call of math/bits.Add64 gives: two numbers under names. -/
theorem add64_ex (x y c : Nat) (hx : x < B64) (hy : y < B64) (hc : c ≤ 1) : ∃ lo hi : Nat,
    (∀ w, (callFunc 146 #[.int .u64 (x : Int), .int .u64 (y : Int), .int .u64 (c : Int)]).run Tryz.prog w = .ok (.value (.tuple #[.int .u64 (lo : Int), .int .u64 (hi : Int)])) w) ∧
    lo + B64 * hi = x + y + c ∧ lo < B64 ∧ hi ≤ 1 := by
  refine ⟨(x + y + c) % B64, (x + y + c) / B64, fun w => ?_, Nat.mod_add_div _ _, Nat.mod_lt _ b64_pos, ?_⟩
  · rw [add64 _ _ _ (by omega) (by omega) (by omega) (by omega)]
    rfl
  · unfold B64 at *; omega
theorem add64_ex0 (x y : Nat) (hx : x < B64) (hy : y < B64) : ∃ lo hi : Nat,
    (∀ w, (callFunc 146 #[.int .u64 (x : Int), .int .u64 (y : Int), .int .u64 0]).run Tryz.prog w = .ok (.value (.tuple #[.int .u64 (lo : Int), .int .u64 (hi : Int)])) w) ∧
    lo + B64 * hi = x + y ∧ lo < B64 ∧ hi ≤ 1 := by
  simpa using add64_ex x y 0 hx hy (by omega)
theorem add64_exm (x c : Nat) (hx : x < B64) (hc : c ≤ 1) : ∃ lo hi : Nat,
    (∀ w, (callFunc 146 #[.int .u64 (x : Int), .int .u64 0, .int .u64 (c : Int)]).run Tryz.prog w = .ok (.value (.tuple #[.int .u64 (lo : Int), .int .u64 (hi : Int)])) w) ∧
    lo + B64 * hi = x + c ∧ lo < B64 ∧ hi ≤ 1 := by
  simpa using add64_ex x 0 c hx b64_pos hc
/-- .. of math/bits.Sub64. -/
theorem sub64_ex (x y c : Nat) (hx : x < B64) (hy : y < B64) (hc : c ≤ 1) : ∃ lo hi : Nat,
    (∀ w, (callFunc 145 #[.int .u64 (x : Int), .int .u64 (y : Int), .int .u64 (c : Int)]).run Tryz.prog w = .ok (.value (.tuple #[.int .u64 (lo : Int), .int .u64 (hi : Int)])) w) ∧
    lo + y + c = x + B64 * hi ∧ lo < B64 ∧ hi ≤ 1 := by
  refine ⟨(x + B64 - y - c) % B64, if x < y + c then 1 else 0, fun w => ?_, ?_, Nat.mod_lt _ b64_pos, ?_⟩
  · rw [sub64 _ _ _ (by omega) (by omega) (by unfold B64 at hy; omega) (by omega) (by omega)]
    have e1 : ((x : Int) - y - c) % 18446744073709551616 = (((x + B64 - y - c) % B64 : Nat) : Int) := by unfold B64 at *; omega
    have e2 : bor (x : Int) ((y : Int) + c) = ((if x < y + c then 1 else 0 : Nat) : Int) := by unfold bor; split <;> split <;> omega
    rw [e1, e2]
  · unfold B64 at *
    split
    · omega
    · omega
  · split <;> omega
theorem sub64_ex0 (x y : Nat) (hx : x < B64) (hy : y < B64) : ∃ lo hi : Nat,
    (∀ w, (callFunc 145 #[.int .u64 (x : Int), .int .u64 (y : Int), .int .u64 0]).run Tryz.prog w = .ok (.value (.tuple #[.int .u64 (lo : Int), .int .u64 (hi : Int)])) w) ∧
    lo + y = x + B64 * hi ∧ lo < B64 ∧ hi ≤ 1 := by
  simpa using sub64_ex x y 0 hx hy (by omega)
theorem sub64_exm (x c : Nat) (hx : x < B64) (hc : c ≤ 1) : ∃ lo hi : Nat,
    (∀ w, (callFunc 145 #[.int .u64 (x : Int), .int .u64 0, .int .u64 (c : Int)]).run Tryz.prog w = .ok (.value (.tuple #[.int .u64 (lo : Int), .int .u64 (hi : Int)])) w) ∧
    lo + c = x + B64 * hi ∧ lo < B64 ∧ hi ≤ 1 := by
  simpa using sub64_ex x 0 c hx b64_pos hc

theorem grown_drew {a w : World} {row : Option Nat} (h : a.grownBy w row) : a.grownBy w.drew row := ⟨h.os, h.tape, h.output, h.size, h.block⟩
theorem grown_set {a w : World} {g : Nat} (h : a.grownBy w (some g)) (i : Nat) (u : Value) : a.grownBy (w.setCell ⟨g, i, none⟩ u) (some g) :=
  ⟨h.os, h.tape, h.output, by simpa [World.setCell] using h.size, fun i hi hne => (Below.heap_setCell w _ u i (by rintro rfl; exact hne rfl)).trans (h.block i hi hne)⟩
theorem Nums.grown {k : IntKind} {w w' : World} {A : Option Addr} {xs : List Nat} {g : Nat} (h : Nums k w A xs) (hA : 0 < xs.length → ∀ a, A = some a → a.block ≠ g) (hb : w.grownBy w' (some g)) : Nums k w' A xs := by
  intro hl
  obtain ⟨q, off, e, hg, hc⟩ := h hl
  have hne : q ≠ g := hA hl _ e
  exact ⟨q, off, e, Nat.lt_of_lt_of_le hg hb.size, fun i v hv => (World.cell?_of_block (w := w) (a := ⟨q, off + i, none⟩) (hb.block q hg (by simpa using hne))).trans (hc i v hv)⟩

/-- z[off ..] with x added: what addTo leaves. -/
def AddPost (zs xs : List Nat) (g off n : Nat) (w : World) (e : Ending) (w' : World) : Prop :=
  ∃ zs' c, e = .returned (.int .u64 ((c : Nat) : Int)) ∧ AddSt B64 zs xs off n zs' c ∧ Row .u64 67 w' g zs' ∧ w.grownBy w' (some g)

set_option maxHeartbeats 1000000 in
theorem addTo_any (g off n c d L : Nat) (zs xs : List Nat) (A : Option Addr) (w : World) (hr : Row .u64 67 w g zs) (hz : Low B64 zs) (hn : off + n ≤ zs.length) (hA : Nums .u64 w A xs) (hx : Low B64 xs)
    (hAg : 0 < xs.length → ∀ a, A = some a → a.block ≠ g) (hL : L = xs.length) (hle : L ≤ n) (hbig : n ≤ 1000000000000) :
    Calls Tryz.prog 139 #[.slice (some ⟨g, off, none⟩) n c, .slice A L d] w (AddPost zs xs g off n w) := by
  have HL := Lib.hid hL
  clear hL
  go_enter Tryz.func139, Tryz.ntmps139
  go_wp2
  go_loopw [5, 11] (fun q t wr => ∃ (k cy : Nat) (zs' : List Nat), k ≤ L ∧ q = .int .u64 (cy : Int) ∧ t = .int .i64 (k : Int) ∧ AddSt B64 zs xs off k zs' cy ∧ Row .u64 67 wr g zs' ∧ w.grownBy wr (some g)) (fun _ t _ => L - (intOf t).toNat)
  case atStart => exact ⟨0, 0, zs, Nat.zero_le _, rfl, rfl, AddSt.start hz, hr, World.grownBy.refl w _⟩
  case round =>
    obtain ⟨k, cy, zs', hk, rfl, rfl, hst, hrow, hgr⟩ := hrel
    by_cases hlt : k < L
    · obtain ⟨q, qo, x, rfl, hq, hxk, hcx⟩ := (hA.grown hAg hgr).at_ (i := k) (by have := HL.out; omega)
      obtain ⟨v, hv⟩ : ∃ v, zs'[off + k]? = some v := ⟨zs'[off + k]'(by have := hst.len; omega), List.getElem?_eq_getElem _⟩
      have hcv := hrow.cell hv
      have hfv := hrow.frozen (off + k)
      have hvl : v < B64 := by have := hst.low v (List.mem_of_getElem? hv); exact this
      have hxl : x < B64 := hx x (List.mem_of_getElem? hxk)
      obtain ⟨lo, hi, hadd, he, hlo, hhi⟩ := add64_ex v x cy hvl hxl hst.le
      have hst' := hst.step hv (x := x) (by simp [List.getD_eq_getElem?_getD, hxk]) he hlo hhi
      have hrow' := hrow.set (off + k) lo
      have HE := Lib.hid he
      have HV := Lib.hid hv
      have HX := Lib.hid hxk
      clear he hv hxk hA hvl hxl hlo
      go_wp2
      go_roundw
      case rel => exact ⟨k + 1, hi, _, by omega, rfl, by go_num, hst', hrow', grown_set hgr _ _⟩
      case measure => simp [intOf]; omega
    · have hkL : k = L := by omega
      subst hkL
      clear hlt
      have hxL : xs.length ≤ k := by have := HL.out; omega
      clear hA
      go_wp2
      go_loopw [5, 8] (fun q t wr => ∃ (j cy : Nat) (zs' : List Nat), k ≤ j ∧ j ≤ n ∧ q = .int .u64 (cy : Int) ∧ t = .int .i64 (j : Int) ∧ AddSt B64 zs xs off j zs' cy ∧ Row .u64 67 wr g zs' ∧ w.grownBy wr (some g)) (fun _ t _ => n - (intOf t).toNat)
      case atStart => exact ⟨k, cy, zs', Nat.le_refl _, hle, rfl, rfl, hst, hrow, hgr⟩
      case round =>
        clear hst hrow hgr
        obtain ⟨j, cy, zs', hkj, hjn, rfl, rfl, hst, hrow, hgr⟩ := hrel
        have hcle := hst.le
        by_cases hc0 : cy = 0
        · have hq : ((cy : Int) != 0) = false := by simp [hc0]
          have H0 := Lib.hid hc0
          clear hc0
          go_wp2
          go_ret
          exact ⟨zs', cy, rfl, by have h0 := H0.out; subst h0; exact hst.rest hjn (by omega) hn, hrow, hgr⟩
        · have hq : ((cy : Int) != 0) = true := by simp; omega
          clear hc0
          by_cases hjl : j < n
          · obtain ⟨v, hv⟩ : ∃ v, zs'[off + j]? = some v := ⟨zs'[off + j]'(by have := hst.len; omega), List.getElem?_eq_getElem _⟩
            have hcv := hrow.cell hv
            have hfv := hrow.frozen (off + j)
            have hvl : v < B64 := by have := hst.low v (List.mem_of_getElem? hv); exact this
            obtain ⟨lo, hi, hadd, he, hlo, hhi⟩ := add64_exm v cy hvl hcle
            have hx0 : xs.getD j 0 = 0 := by simp [List.getD_eq_getElem?_getD, List.getElem?_eq_none (show xs.length ≤ j by omega)]
            have hst' := hst.step hv (x := 0) hx0 (by omega) hlo hhi
            have hrow' := hrow.set (off + j) lo
            have HE := Lib.hid he
            have HV := Lib.hid hv
            clear he hv hvl hlo hx0
            go_wp2
            go_roundw
            case rel => exact ⟨j + 1, hi, _, by omega, by omega, rfl, by go_num, hst', hrow', grown_set hgr _ _⟩
            case measure => simp [intOf]; omega
          · have hjn' : j = n := by omega
            subst hjn'
            go_wp2
            go_ret
            exact ⟨zs', cy, rfl, hst, hrow, hgr⟩
end Go.Proofs.YthgekjkgfccnaaaGreat

namespace Go.Proofs.YthgekjkgfccnaaaGreat
open Go.RowKit Num

theorem trim_val {b : Nat} (hb : 2 ≤ b) {xs : List Nat} (hl : Low b xs) {k : Nat} (hk : k ≤ xs.length) (hz : ∀ (i v : Nat), xs[i]? = some v → k ≤ i → v = 0)
    (hn : ∀ v, 0 < k → xs[k - 1]? = some v → v ≠ 0) : xs.take k = dig b (val b xs) := by
  refine take_neat hb hl hk (fun i h hi => hz i _ (List.getElem?_eq_getElem h) hi) (fun h => hn _ h (List.getElem?_eq_getElem (by omega)))
theorem trim_le {b : Nat} (hb : 2 ≤ b) {xs : List Nat} (hl : Low b xs) : (dig b (val b xs)).length ≤ xs.length := dig_len_le hb (val_lt b xs hl)
theorem trim_take {b : Nat} (hb : 2 ≤ b) {xs : List Nat} (hl : Low b xs) : xs.take (dig b (val b xs)).length = dig b (val b xs) := by
  -- the number's digits, then zeros
  have h1 := low_dig hb (val b xs)
  have h2 := trim_le hb hl
  have h3 : val b (dig b (val b xs) ++ List.replicate (xs.length - (dig b (val b xs)).length) 0) = val b xs := by
    rw [val_append, val_replicate, val_dig hb]; simp
  have h4 : dig b (val b xs) ++ List.replicate (xs.length - (dig b (val b xs)).length) 0 = xs := val_inj hb (by simp; omega) (h1.append (Low.replicate (by omega) _)) hl h3
  have h5 := congrArg (List.take (dig b (val b xs)).length) h4
  rw [List.take_left'] at h5
  · exact h5.symm
  · rfl

def ZeroFrom (xs : List Nat) (k : Nat) : Prop := ∀ (i v : Nat), xs[i]? = some v → k ≤ i → v = 0

set_option maxHeartbeats 400000 in
theorem trim_any (A : Option Addr) (c n : Nat) (xs : List Nat) (w : World) (h : Nums .u64 w A xs) (hlow : Low B64 xs) (hn : n = xs.length) (hl : n ≤ c) (hc : n ≤ 1000000000000) :
    Calls Tryz.prog 93 #[.slice A n c] w fun e w' => e = .returned (.slice A (dig B64 (val B64 xs)).length c) ∧ w = w' := by
  subst hn
  have fin : ∀ k, k ≤ xs.length → ZeroFrom xs k → (∀ v, 0 < k → xs[k - 1]? = some v → v ≠ 0) → k = (dig B64 (val B64 xs)).length := fun k hk hz hn => by
    rw [← trim_val b64_two hlow hk hz hn, List.length_take]; omega
  have FIN := Lib.hid fin
  clear fin
  go_enter Tryz.func93, Tryz.ntmps93
  go_wp2
  go_loop [3] (fun t => ∃ k : Nat, k ≤ xs.length ∧ t = .int .i64 k ∧ ZeroFrom xs k) (fun t => (intOf t).toNat)
  case atStart => exact ⟨xs.length, Nat.le_refl _, rfl, fun i v hv hi => by have := (List.getElem?_eq_some_iff.1 hv).1; omega⟩
  case round => 
    obtain ⟨k, hk, rfl, hz⟩ := hrel
    by_cases hp : 0 < k
    · obtain ⟨g, off, v, rfl, hg, hv, hc1⟩ := h.at_ (i := k - 1) (by omega)
      have HV := Lib.hid hv
      clear hv h
      go_wp2
      · go_round
        case rel => 
          refine ⟨k - 1, by omega, by congr 1; omega, fun i u hu hi => ?_⟩
          have hv0 : ((v : Int) == 0) = true := by assumption
          by_cases e : i = k - 1
          · have := HV.out; rw [e] at hu; rw [hu] at this; simp at hv0; injection this; omega
          · exact hz i u hu (by omega)
        case measure => simp [intOf]; omega
      · go_ret
        have hv0 : ((v : Int) == 0) = false := by assumption
        have hnz : ∀ u, 0 < k → xs[k - 1]? = some u → u ≠ 0 := fun u _ hu => by
          have := HV.out; rw [hu] at this; simp at hv0; injection this; omega
        exact ⟨congrArg (fun n => Ending.returned (.slice _ n c)) (FIN.out k hk hz hnz), rfl⟩
    · go_wp2
      go_ret
      exact ⟨congrArg (fun n => Ending.returned (.slice _ n c)) (FIN.out k hk hz (fun u h0 => absurd h0 hp)), rfl⟩

/-- What trim gives of a row of the call's own. -/
theorem own_of_trim {k : IntKind} {T : TypeId} {b B : Nat} (hb : 2 ≤ b) {w : World} {g : Nat} {zs : List Nat} (hr : Row k T w g zs) (hlow : Low b zs) (hg : B ≤ g) :
    OwnNum k T b B w (.slice (some ⟨g, 0, none⟩) (dig b (val b zs)).length zs.length) (val b zs) :=
  ⟨g, zs.length, zs, rfl, trim_le hb hlow, rfl, hg, hr, hlow, trim_take hb hlow⟩
end Go.Proofs.YthgekjkgfccnaaaGreat

namespace Go.Proofs.YthgekjkgfccnaaaGreat
open Go.RowKit Num

/-- zs with ys laid over it from place off on. -/
def lay (zs : List Nat) (off : Nat) (ys : List Nat) : List Nat := zs.take off ++ (ys ++ zs.drop (off + ys.length))
theorem lay_len {zs ys : List Nat} {off : Nat} (h : off + ys.length ≤ zs.length) : (lay zs off ys).length = zs.length := by simp [lay]; omega
theorem lay_nil (zs : List Nat) (off : Nat) : lay zs off [] = zs := by simp [lay]
theorem lay_low {b : Nat} {zs ys : List Nat} {off : Nat} (hz : Low b zs) (hy : Low b ys) : Low b (lay zs off ys) := (hz.take _).append (hy.append (hz.drop _))

def ints (k : IntKind) (zs : List Nat) : List Value := zs.map fun (x : Nat) => .int k (x : Int)
theorem Row.heap {k : IntKind} {T : TypeId} {w : World} {g : Nat} {zs : List Nat} (h : Row k T w g zs) : w.heap[g]? = some (.cells (ints k zs).toArray T (0, 0)) := by
  obtain ⟨c, hb, hn, hc⟩ := h
  have e : c = (ints k zs).toArray := by
    apply Array.ext_getElem?
    intro i
    by_cases hi : i < zs.length
    · rw [hc i hi]; simp [ints, hi]
    · rw [Array.getElem?_eq_none (by omega)]; simp [ints, List.getElem?_eq_none (show zs.length ≤ i by omega)]
  rw [← e]; exact hb
theorem Row.of_heap {k : IntKind} {T : TypeId} {w : World} {g : Nat} {zs : List Nat} (h : w.heap[g]? = some (.cells (ints k zs).toArray T (0, 0))) : Row k T w g zs :=
  ⟨_, h, by simp [ints], fun i hi => by simp [ints, hi]⟩

theorem wpList_copy_row {w : World} {ops : Array Oper} {rest : List Oper} {o : Oper} {a : Act} {Q : Exit → Act → World → Prop} (hgd : o.guard = none) (d s : Operand)
    (ho : o.op = .call { callee := .builtin .copy, args := #[d, s], argTypes := #[117, 117] })
    (dp sp : Option Addr) (n c m L : Nat) (hd : a.eval d = .slice dp n c) (hs : a.eval s = .slice sp L m)
    (g off : Nat) (zs xs : List Nat) (hr : Row .u64 67 w g zs) (hx : Nums .u64 w sp xs) (hL : L = xs.length) (hn : L ≤ n) (hdp : 0 < L → dp = some ⟨g, off, none⟩) (hfit : off + L ≤ zs.length)
    (h : ∀ w', Row .u64 67 w' g (lay zs off xs) → w.grownBy w' (some g) → wpList Tryz.prog ops Q rest (a.put o.dst (goInt L)) w') :
    wpList Tryz.prog ops Q (o :: rest) a w := by
  subst hL
  by_cases h0 : xs = []
  · subst h0
    refine wpList_copy_nothing hgd d s 117 117 ho 67 Tryz.underlying117 (by kernel_rfl) dp sp n c _ m hd hs (by simp) ?_
    exact h w (by rw [lay_nil]; exact hr) (World.grownBy.refl w _)
  · have hpos : 0 < xs.length := List.length_pos_iff.2 h0
    obtain rfl := hdp hpos
    obtain ⟨g', off', rfl, hg', hc⟩ := hx hpos
    have e : (ints .u64 xs).length = xs.length := by simp [ints]
    refine wpList_copy_own hgd d s 117 117 ho 67 Tryz.underlying117 (by kernel_rfl) g off n c ⟨g', off', none⟩ xs.length m hd hs _ 67 hr.heap (ints .u64 xs) (by rw [e]; exact (Nat.min_eq_left hn).symm) (fun j v hv => ?_) (by rw [e]; simp [ints]; omega) (fun v hv => ?_) ?_
    · simp only [ints, List.getElem?_map, Option.map_eq_some_iff] at hv
      obtain ⟨x, hx, rfl⟩ := hv
      have := hc j x hx
      unfold Addr.add
      split
      · rename_i h; subst h; exact this
      · exact this
    · simp only [ints, List.mem_map] at hv
      obtain ⟨x, _, rfl⟩ := hv
      rfl
    · rw [e]
      have e2 : ((ints .u64 zs).toArray.toList.take off ++ (ints .u64 xs ++ (ints .u64 zs).toArray.toList.drop (off + xs.length))).toArray = (ints .u64 (lay zs off xs)).toArray := by
        simp [ints, lay, List.map_take, List.map_drop]
      rw [e2]
      refine h _ (Row.of_heap (setRow_heap w g _ _ 67 _ hr.heap)) ?_
      exact ⟨rfl, rfl, rfl, by simp, fun i hi hne => setRow_other w g i _ (by rintro rfl; exact hne rfl)⟩
end Go.Proofs.YthgekjkgfccnaaaGreat

namespace Go.Proofs.YthgekjkgfccnaaaGreat
open Go.RowKit Num

theorem nums_ne {k : IntKind} {w : World} {A : Option Addr} {xs : List Nat} {B : Nat} (h : Nums k w A xs) (hB : w.heap.size ≤ B) (hp : 0 < xs.length) : ∀ a, A = some a → a.block ≠ B := by
  obtain ⟨g, off, e, hg, _⟩ := h hp
  intro a ha
  rw [e] at ha
  injection ha with ha
  subst ha
  show g ≠ B
  omega

theorem val_lay0 (b n : Nat) (xs : List Nat) : val b (lay (List.replicate n 0) 0 xs) = val b xs := by
  simp only [lay, List.take_zero, List.nil_append, List.drop_replicate, Nat.zero_add]
  rw [val_append, val_replicate]; simp
theorem two_pow_lt {b L x y : Nat} (hb : 2 ≤ b) (hx : x < b ^ L) (hy : y < b ^ L) : x + y < b ^ (L + 1) := by
  have : 2 * b ^ L ≤ b * b ^ L := Nat.mul_le_mul_right _ hb
  rw [Nat.pow_succ, Nat.mul_comm]
  omega
theorem seg0 {zs : List Nat} {n : Nat} (h : zs.length = n) : seg zs 0 n = zs := by subst h; exact seg_all zs
theorem sum_fin {b L c : Nat} {xs ys zs' : List Nat} (hb : 2 ≤ b) (hx : Low b xs) (hy : Low b ys) (hL : xs.length = L) (hL' : ys.length ≤ L)
    (h : AddSt b (lay (List.replicate (L + 1) 0) 0 xs) ys 0 (L + 1) zs' c) : val b zs' = val b xs + val b ys := by
  have hlen : (lay (List.replicate (L + 1) 0) 0 xs).length = L + 1 := by rw [lay_len (by simp; omega)]; simp
  have e := h.eq
  have l' : zs'.length = L + 1 := h.len.trans hlen
  rw [seg0 l', seg0 hlen,
    val_lay0, List.take_of_length_le (by omega)] at e
  have h1 := val_lt b xs hx
  have h2 := val_lt b ys hy
  have h3 : b ^ ys.length ≤ b ^ L := Nat.pow_le_pow_right (by omega) hL'
  rw [hL] at h1
  have h4 := two_pow_lt hb h1 (Nat.lt_of_lt_of_le h2 h3)
  have h5 : c = 0 := by
    rcases Nat.eq_zero_or_pos c with h0 | h0
    · exact h0
    · have : b ^ (L + 1) * 1 ≤ b ^ (L + 1) * c := Nat.mul_le_mul_left _ h0
      omega
  subst h5
  simpa using e

def SumPost (w : World) (n : Nat) (e : Ending) (w' : World) : Prop := ∃ v, e = .returned v ∧ OwnW w.heap.size w' v n ∧ Below w.heap.size w w'

set_option maxHeartbeats 1000000 in
set_option maxRecDepth 100000 in
theorem sum_ge (A A' : Option Addr) (c c' L L' : Nat) (xs ys : List Nat) (w : World) (hA : Nums .u64 w A xs) (hA' : Nums .u64 w A' ys) (hx : Low B64 xs) (hy : Low B64 ys)
    (hL : L = xs.length) (hL' : L' = ys.length) (hle : L' ≤ L) (hbig : L ≤ 100000000000) :
    Calls Tryz.prog 142 #[.slice A L c, .slice A' L' c'] w (SumPost w (val B64 xs + val B64 ys)) := by
  have hmk := make64 (L + 1) (by omega)
  push_cast at hmk
  have hr0 := Row.made w .u64 (L + 1) 67
  have hbA : Below w.heap.size w (w.alloc (.cells (madeCells #[.int .u64 0] (L + 1)) 67)) := (Below.refl _ _).alloc (Nat.le_refl _) _
  have hA0 := hA.keep hbA
  have hlow0 : Low B64 (lay (List.replicate (L + 1) 0) 0 xs) := lay_low (Low.replicate b64_pos _) hx
  have hlen0 : (lay (List.replicate (L + 1) 0) 0 xs).length = L + 1 := by rw [lay_len (by simp; omega)]; simp
  have hne : 0 < ys.length → ∀ a, A' = some a → a.block ≠ w.heap.size := nums_ne hA' (Nat.le_refl _)
  have hlen1 : 0 + (L + 1) ≤ (lay (List.replicate (L + 1) 0) 0 xs).length := by rw [hlen0]; omega
  have HL := Lib.hid hL
  have HL' := Lib.hid hL'
  have HN := Lib.hid hlen0
  have HNE := Lib.hid hne
  have HR0 := Lib.hid hr0
  clear hL hL' hlen0 hne hr0
  go_enter Tryz.func142, Tryz.ntmps142
  go_wp2_with (first
    | (refine wpList_copy_row rfl (.tmp 17) (.tmp 18) rfl _ _ _ _ _ _ rfl rfl _ 0 _ _ HR0.out hA0 HL.out (by omega) (fun _ => rfl) (by simp) ?_
       intro w1 hr1 hg1
       have hb1 : Below w.heap.size w w1 := hbA.grown hg1 hbA.size (by simp))
    | (go_at_call 139
       refine (addTo_any w.heap.size 0 (L + 1) (L + 1) c' L' _ ys A' _ (by assumption) hlow0 hlen1 (hA'.keep (by assumption)) hy HNE.out HL'.out (by omega) (by omega)).mono ?_
       rintro e w2 ⟨zs', cy, rfl, hst, hr2, hg2⟩
       have hb2 : Below w.heap.size w w2 := hb1.grown hg2 hb1.size (by simp)
       have hl2 : zs'.length = L + 1 := hst.len.trans HN.out
       have hn2 : Nums .u64 w2 (some ⟨w.heap.size, 0, none⟩) zs' := by have := hr2.nums0 zs'.length; rwa [List.take_length] at this
       have HL2 := Lib.hid hl2
       clear hl2)
    | (go_at_call 93
       refine (trim_any _ (L + 1) (L + 1) zs' _ (by assumption) hst.low HL2.out.symm (Nat.le_refl _) (by omega)).mono ?_
       rintro e w3 ⟨rfl, rfl⟩))
  go_ret
  have hv := sum_fin b64_two hx hy HL.out.symm (by rw [← HL'.out]; exact hle) hst
  rw [← hv]
  refine ⟨_, rfl, ?_, hb2⟩
  have := own_of_trim b64_two hr2 hst.low (Nat.le_refl w.heap.size)
  rw [HL2.out] at this
  exact this
set_option maxHeartbeats 1000000 in
set_option maxRecDepth 100000 in
theorem sum_lt (A A' : Option Addr) (c c' L L' : Nat) (xs ys : List Nat) (w : World) (hA : Nums .u64 w A xs) (hA' : Nums .u64 w A' ys) (hx : Low B64 xs) (hy : Low B64 ys)
    (hL : L = xs.length) (hL' : L' = ys.length) (hle : L' < L) (hbig : L ≤ 100000000000) :
    Calls Tryz.prog 142 #[.slice A' L' c', .slice A L c] w (SumPost w (val B64 xs + val B64 ys)) := by
  have hmk := make64 (L + 1) (by omega)
  push_cast at hmk
  have hr0 := Row.made w .u64 (L + 1) 67
  have hbA : Below w.heap.size w (w.alloc (.cells (madeCells #[.int .u64 0] (L + 1)) 67)) := (Below.refl _ _).alloc (Nat.le_refl _) _
  have hA0 := hA.keep hbA
  have hlow0 : Low B64 (lay (List.replicate (L + 1) 0) 0 xs) := lay_low (Low.replicate b64_pos _) hx
  have hlen0 : (lay (List.replicate (L + 1) 0) 0 xs).length = L + 1 := by rw [lay_len (by simp; omega)]; simp
  have hne : 0 < ys.length → ∀ a, A' = some a → a.block ≠ w.heap.size := nums_ne hA' (Nat.le_refl _)
  have hlen1 : 0 + (L + 1) ≤ (lay (List.replicate (L + 1) 0) 0 xs).length := by rw [hlen0]; omega
  have HL := Lib.hid hL
  have HL' := Lib.hid hL'
  have HN := Lib.hid hlen0
  have HNE := Lib.hid hne
  have HR0 := Lib.hid hr0
  clear hL hL' hlen0 hne hr0
  go_enter Tryz.func142, Tryz.ntmps142
  go_wp2_with (first
    | (refine wpList_copy_row rfl (.tmp 17) (.tmp 18) rfl _ _ _ _ _ _ rfl rfl _ 0 _ _ HR0.out hA0 HL.out (by omega) (fun _ => rfl) (by simp) ?_
       intro w1 hr1 hg1
       have hb1 : Below w.heap.size w w1 := hbA.grown hg1 hbA.size (by simp))
    | (go_at_call 139
       refine (addTo_any w.heap.size 0 (L + 1) (L + 1) c' L' _ ys A' _ (by assumption) hlow0 hlen1 (hA'.keep (by assumption)) hy HNE.out HL'.out (by omega) (by omega)).mono ?_
       rintro e w2 ⟨zs', cy, rfl, hst, hr2, hg2⟩
       have hb2 : Below w.heap.size w w2 := hb1.grown hg2 hb1.size (by simp)
       have hl2 : zs'.length = L + 1 := hst.len.trans HN.out
       have hn2 : Nums .u64 w2 (some ⟨w.heap.size, 0, none⟩) zs' := by have := hr2.nums0 zs'.length; rwa [List.take_length] at this
       have HL2 := Lib.hid hl2
       clear hl2)
    | (go_at_call 93
       refine (trim_any _ (L + 1) (L + 1) zs' _ (by assumption) hst.low HL2.out.symm (Nat.le_refl _) (by omega)).mono ?_
       rintro e w3 ⟨rfl, rfl⟩))
  go_ret
  have hv := sum_fin b64_two hx hy HL.out.symm (by rw [← HL'.out]; exact Nat.le_of_lt hle) hst
  rw [← hv]
  refine ⟨_, rfl, ?_, hb2⟩
  have := own_of_trim b64_two hr2 hst.low (Nat.le_refl w.heap.size)
  rw [HL2.out] at this
  exact this

theorem dig_low64 (n : Nat) : Low B64 (dig B64 n) := low_dig b64_two n
/-- sum, of two numbers. -/
theorem sum_any (a b : Value) (m n : Nat) (w : World) (ha : W64 w a m) (hb : W64 w b n) (hm : (dig B64 m).length ≤ 100000000000) (hn : (dig B64 n).length ≤ 100000000000) :
    Calls Tryz.prog 142 #[a, b] w (SumPost w (m + n)) := by
  obtain ⟨A, c, rfl, _, hA⟩ := ha
  obtain ⟨A', c', rfl, _, hA'⟩ := hb
  have em := val_dig b64_two m
  have en := val_dig b64_two n
  rcases Nat.lt_or_ge (dig B64 m).length (dig B64 n).length with h | h
  · have := sum_lt A' A c' c _ _ _ _ w hA' hA (dig_low64 n) (dig_low64 m) rfl rfl h hn
    rw [em, en, Nat.add_comm] at this
    exact this
  · have := sum_ge A A' c c' _ _ _ _ w hA hA' (dig_low64 m) (dig_low64 n) rfl rfl h hm
    rw [em, en] at this
    exact this
end Go.Proofs.YthgekjkgfccnaaaGreat

/- Plain laws: the bits of a number that is written in words. -/
namespace Go.Proofs.Num

theorem dig_get_drop {b : Nat} (hb : 2 ≤ b) (n i : Nat) : val b ((dig b n).drop i) = n / b ^ i := by
  induction i generalizing n with
  | zero => simp [val_dig hb]
  | succ i ih =>
    by_cases hn : n = 0
    · subst hn; simp [dig_zero, val]
    · rw [dig_pos hb hn, List.drop_succ_cons, ih, Nat.div_div_eq_div_mul, Nat.pow_succ, Nat.mul_comm]

theorem dig_getElem? {b : Nat} (hb : 2 ≤ b) {n i v : Nat} (h : (dig b n)[i]? = some v) : v = n / b ^ i % b := by
  have hi := (List.getElem?_eq_some_iff.1 h).1
  have e := dig_get_drop hb n i
  rw [List.drop_eq_getElem_cons hi] at e
  have hv : (dig b n)[i] = v := (List.getElem?_eq_some_iff.1 h).2
  rw [hv] at e
  simp only [val] at e
  rw [← e, Nat.add_mul_mod_self_left]
  refine (Nat.mod_eq_of_lt ?_).symm
  rw [← hv]
  exact low_dig hb n _ (List.getElem_mem hi)

theorem div_pow_len {b : Nat} (hb : 2 ≤ b) {n i : Nat} (h : (dig b n).length ≤ i) : n / b ^ i = 0 := by
  refine Nat.div_eq_of_lt (Nat.lt_of_lt_of_le (dig_len_lt hb) (Nat.pow_le_pow_right (by omega) h))

/-- n shifted right by 64 i + s, its low word: out of the words i and i + 1. -/
theorem win_of (n i s : Nat) (hs : s < 64) :
    n / 2 ^ (64 * i + s) % 18446744073709551616 =
      (n / 18446744073709551616 ^ i % 18446744073709551616) / 2 ^ s + 2 ^ (64 - s) * (n / 18446744073709551616 ^ (i + 1) % 18446744073709551616 % 2 ^ s) := by
  have e1 : (2 : Nat) ^ (64 * i) = 18446744073709551616 ^ i := by rw [Nat.pow_mul]
  have e2 : (18446744073709551616 : Nat) = 2 ^ s * 2 ^ (64 - s) := by rw [← Nat.pow_add, show s + (64 - s) = 64 by omega]
  rw [Nat.pow_add, e1, ← Nat.div_div_eq_div_mul, Nat.pow_succ, ← Nat.div_div_eq_div_mul]
  generalize n / 18446744073709551616 ^ i = m
  -- m = x + B (y + ..)
  have hx := Nat.mod_add_div m 18446744073709551616
  generalize hy : m / 18446744073709551616 = y at *
  generalize hxx : m % 18446744073709551616 = x at *
  have hxl : x < 18446744073709551616 := by omega
  have h2s : 0 < 2 ^ s := Nat.two_pow_pos s
  have h2t : 0 < 2 ^ (64 - s) := Nat.two_pow_pos _
  have hd : (2 ^ s : Nat) ∣ 18446744073709551616 := ⟨_, e2⟩
  have a1 : m / 2 ^ s = x / 2 ^ s + 2 ^ (64 - s) * y := by
    rw [← hx]
    have : 18446744073709551616 * y = 2 ^ s * (2 ^ (64 - s) * y) := by rw [← Nat.mul_assoc, ← e2]
    rw [this, Nat.add_mul_div_left _ _ h2s]
  have a3 : y % 18446744073709551616 % 2 ^ s = y % 2 ^ s := Nat.mod_mod_of_dvd y hd
  have a2 : x / 2 ^ s < 2 ^ (64 - s) := by
    rw [Nat.div_lt_iff_lt_mul h2s, Nat.mul_comm, ← e2]; exact hxl
  rw [a1, a3]
  have a4 : 2 ^ (64 - s) * y = 18446744073709551616 * (y / 2 ^ s) + 2 ^ (64 - s) * (y % 2 ^ s) := by
    have h := Nat.mod_add_div y (2 ^ s)
    have h2 : 2 ^ (64 - s) * y = 2 ^ (64 - s) * (y % 2 ^ s) + 2 ^ (64 - s) * (2 ^ s * (y / 2 ^ s)) := by rw [← Nat.mul_add, h]
    have h3 : 2 ^ (64 - s) * (2 ^ s * (y / 2 ^ s)) = 18446744073709551616 * (y / 2 ^ s) := by
      rw [← Nat.mul_assoc, Nat.mul_comm (2 ^ (64 - s)) (2 ^ s), ← e2]
    omega
  rw [a4]
  have a5 : y % 2 ^ s < 2 ^ s := Nat.mod_lt _ h2s
  have a6 : x / 2 ^ s + 2 ^ (64 - s) * (y % 2 ^ s) < 18446744073709551616 := by
    have : 2 ^ (64 - s) * (y % 2 ^ s + 1) ≤ 2 ^ (64 - s) * 2 ^ s := Nat.mul_le_mul_left _ a5
    rw [Nat.mul_comm (2 ^ (64 - s)) (2 ^ s), ← e2, Nat.mul_add] at this
    omega
  rw [show x / 2 ^ s + (18446744073709551616 * (y / 2 ^ s) + 2 ^ (64 - s) * (y % 2 ^ s)) = (x / 2 ^ s + 2 ^ (64 - s) * (y % 2 ^ s)) + 18446744073709551616 * (y / 2 ^ s) by omega, Nat.add_mul_mod_self_left]
  exact Nat.mod_eq_of_lt a6

theorem mul_pow_mod (y s : Nat) (hs : s < 64) : y * 2 ^ (64 - s) % 18446744073709551616 = 2 ^ (64 - s) * (y % 2 ^ s) := by
  have e2 : (18446744073709551616 : Nat) = 2 ^ (64 - s) * 2 ^ s := by rw [← Nat.pow_add, show 64 - s + s = 64 by omega]
  rw [Nat.mul_comm y, e2, Nat.mul_mod_mul_left]

/-- What the walk shows of a window over two words. -/
theorem win_bits (x y s : Nat) (hx : x < 18446744073709551616) (hs : s < 64) :
    bits .or .u64 ((x : Int) / 2 ^ s) (IntKind.u64.wrap ((y : Int) * 2 ^ (64 - s))) = ((x / 2 ^ s + 2 ^ (64 - s) * (y % 2 ^ s) : Nat) : Int) := by
  have e2 : (18446744073709551616 : Nat) = 2 ^ s * 2 ^ (64 - s) := by rw [← Nat.pow_add, show s + (64 - s) = 64 by omega]
  have h2s : 0 < 2 ^ s := Nat.two_pow_pos s
  have c1 : ((x : Int) / 2 ^ s) = ((x / 2 ^ s : Nat) : Int) := by push_cast; rfl
  have c2 : IntKind.u64.wrap ((y : Int) * 2 ^ (64 - s)) = ((2 ^ (64 - s) * (y % 2 ^ s) : Nat) : Int) := by
    rw [IntKind.wrap_u64, ← mul_pow_mod y s hs, Int.natCast_emod, Int.natCast_mul, Int.natCast_pow]; rfl
  have a2 : x / 2 ^ s < 2 ^ (64 - s) := by
    rw [Nat.div_lt_iff_lt_mul h2s, Nat.mul_comm, ← e2]; exact hx
  have a5 : y % 2 ^ s < 2 ^ s := Nat.mod_lt _ h2s
  have a6 : 2 ^ (64 - s) * (y % 2 ^ s) < 18446744073709551616 := by rw [← mul_pow_mod y s hs]; exact Nat.mod_lt _ (by omega)
  have a7 : x / 2 ^ s < 18446744073709551616 := Nat.lt_of_le_of_lt (Nat.div_le_self _ _) hx
  rw [c1, c2, bits_or_u64_nat _ _ a7 a6, Nat.or_comm, ← Nat.two_pow_add_eq_or_of_lt a2, Nat.add_comm]

end Go.Proofs.Num
namespace Go.Proofs.Num
/-- How many binary digits a number has. -/
def nbits (n : Nat) : Nat := if n = 0 then 0 else n.log2 + 1
theorem nbits_zero : nbits 0 = 0 := rfl
theorem nbits_pos {n : Nat} (h : n ≠ 0) : nbits n = n.log2 + 1 := by unfold nbits; rw [if_neg h]
theorem nbits_lt (n : Nat) : n < 2 ^ nbits n := by
  by_cases h : n = 0
  · subst h; simp [nbits]
  · rw [nbits_pos h]; exact Nat.lt_log2_self
theorem nbits_ge {n : Nat} (h : n ≠ 0) : 2 ^ (nbits n - 1) ≤ n := by
  rw [nbits_pos h]; exact Nat.log2_self_le h
theorem nbits_eq {n k : Nat} (h1 : 2 ^ k ≤ n) (h2 : n < 2 ^ (k + 1)) : nbits n = k + 1 := by
  have h0 : n ≠ 0 := by have := Nat.two_pow_pos k; omega
  rw [nbits_pos h0, (Nat.log2_eq_iff h0).2 ⟨h1, h2⟩]
theorem nbits_shift {n k : Nat} (h : n / 2 ^ k ≠ 0) : nbits n = k + nbits (n / 2 ^ k) := by
  have hp := Nat.two_pow_pos k
  have h1 := nbits_ge h
  have h2 := nbits_lt (n / 2 ^ k)
  have h3 : nbits (n / 2 ^ k) = (n / 2 ^ k).log2 + 1 := nbits_pos h
  generalize nbits (n / 2 ^ k) = m at *
  obtain ⟨m, rfl⟩ : ∃ j, m = j + 1 := ⟨(n / 2 ^ k).log2, h3⟩
  rw [show k + (m + 1) = (k + m) + 1 by omega]
  refine nbits_eq ?_ ?_
  · rw [Nat.pow_add, Nat.mul_comm]; exact (Nat.le_div_iff_mul_le hp).1 (by simpa using h1)
  · rw [show k + m + 1 = (m + 1) + k by omega, Nat.pow_add]; exact (Nat.div_lt_iff_lt_mul hp).1 h2
theorem nbits_le {n k : Nat} (h : n < 2 ^ k) : nbits n ≤ k := by
  by_cases h0 : n = 0
  · subst h0; simp [nbits]
  · have h1 := nbits_ge h0
    rcases Nat.lt_or_ge k (nbits n) with hk | hk
    · have := Nat.pow_le_pow_right (show 0 < 2 by omega) (show k ≤ nbits n - 1 by omega)
      omega
    · exact hk
theorem lt_of_nbits {n k : Nat} (h : nbits n ≤ k) : n < 2 ^ k := Nat.lt_of_lt_of_le (nbits_lt n) (Nat.pow_le_pow_right (by omega) h)

theorem bitLen_nbits (x : Nat) (h : x < 2 ^ 64) : Lib.bitLen x = nbits x := by
  induction x using Nat.strongRecOn with
  | ind x ih =>
    by_cases h0 : x = 0
    · subst h0; decide
    · rw [Lib.bitLen_half x h0 h, ih (x / 2) (by omega) (by omega)]
      by_cases h2 : x / 2 = 0
      · have : x = 1 := by omega
        subst this; decide
      · rw [nbits_shift (n := x) (k := 1) (by simpa using h2)]

/-- The binary digits of a number in words: out of its last word. -/
theorem nbits_words {n L v : Nat} (hL : (dig 18446744073709551616 n).length = L + 1) (hv : (dig 18446744073709551616 n)[L]? = some v) : nbits n = 64 * L + nbits v := by
  have e := dig_getElem? (b := 18446744073709551616) (by omega) hv
  have h1 := dig_len_lt (b := 18446744073709551616) (n := n) (by omega)
  have h2 := dig_len_ge (b := 18446744073709551616) (n := n) (by omega) (by omega)
  rw [hL] at h1 h2
  simp only [Nat.add_sub_cancel] at h2
  have hp : 0 < 18446744073709551616 ^ L := Nat.pow_pos (by omega)
  have h3 : n / 18446744073709551616 ^ L < 18446744073709551616 := by
    rw [Nat.div_lt_iff_lt_mul hp, Nat.mul_comm, ← Nat.pow_succ]; exact h1
  have h4 : n / 18446744073709551616 ^ L ≠ 0 := by
    intro h0
    rcases Nat.div_eq_zero_iff.1 h0 with h | h <;> omega
  rw [Nat.mod_eq_of_lt h3] at e
  have e1 : (2 : Nat) ^ (64 * L) = 18446744073709551616 ^ L := by rw [Nat.pow_mul]
  rw [e, ← e1]
  refine nbits_shift ?_
  rw [e1]; exact h4

/-- How two numbers compare. -/
def cmpN (m n : Nat) : Int := if m < n then -1 else if m = n then 0 else 1
theorem cmpN_lt {m n : Nat} (h : m < n) : cmpN m n = -1 := by unfold cmpN; rw [if_pos h]
theorem cmpN_eq (m : Nat) : cmpN m m = 0 := by unfold cmpN; rw [if_neg (by omega), if_pos rfl]
theorem cmpN_gt {m n : Nat} (h : n < m) : cmpN m n = 1 := by unfold cmpN; rw [if_neg (by omega), if_neg (by omega)]

theorem lt_of_len {b m n : Nat} (hb : 2 ≤ b) (h : (dig b m).length < (dig b n).length) : m < n := by
  have h1 := dig_len_lt hb (n := m)
  have h2 := dig_len_ge hb (n := n) (by omega)
  have := Nat.pow_le_pow_right (show 0 < b by omega) (show (dig b m).length ≤ (dig b n).length - 1 by omega)
  omega
theorem cmp_of_len {b m n : Nat} (hb : 2 ≤ b) (h : (dig b m).length ≠ (dig b n).length) : cmpN (dig b m).length (dig b n).length = cmpN m n := by
  rcases Nat.lt_or_gt_of_ne h with h | h
  · rw [cmpN_lt h, cmpN_lt (lt_of_len hb h)]
  · rw [cmpN_gt h, cmpN_gt (lt_of_len hb h)]
/-- Equal above digit i, which tells. -/
theorem lt_of_digit {b m n i x y : Nat} (hb : 2 ≤ b) (hx : (dig b m)[i]? = some x) (hy : (dig b n)[i]? = some y) (hd : m / b ^ (i + 1) = n / b ^ (i + 1)) (h : x < y) : m < n := by
  have e1 := dig_getElem? hb hx
  have e2 := dig_getElem? hb hy
  have hp : 0 < b ^ i := Nat.pow_pos (by omega)
  rw [Nat.pow_succ, ← Nat.div_div_eq_div_mul, ← Nat.div_div_eq_div_mul] at hd
  have f1 := Nat.mod_add_div (m / b ^ i) b
  have f2 := Nat.mod_add_div (n / b ^ i) b
  rw [← e1, hd] at f1
  rw [← e2] at f2
  have : m / b ^ i < n / b ^ i := by omega
  rcases Nat.lt_or_ge m n with hlt | hge
  · exact hlt
  · have := Nat.div_le_div_right (c := b ^ i) hge; omega
theorem eq_step {b m n i x : Nat} (hb : 2 ≤ b) (hx : (dig b m)[i]? = some x) (hy : (dig b n)[i]? = some x) (hd : m / b ^ (i + 1) = n / b ^ (i + 1)) : m / b ^ i = n / b ^ i := by
  have e1 := dig_getElem? hb hx
  have e2 := dig_getElem? hb hy
  rw [Nat.pow_succ, ← Nat.div_div_eq_div_mul, ← Nat.div_div_eq_div_mul] at hd
  have f1 := Nat.mod_add_div (m / b ^ i) b
  have f2 := Nat.mod_add_div (n / b ^ i) b
  rw [← e1, hd] at f1
  rw [← e2] at f2
  omega
end Go.Proofs.Num

namespace Go.Proofs.YthgekjkgfccnaaaGreat
open Go.RowKit Num

theorem pow_b64 (i : Nat) : (2 : Nat) ^ (64 * i) = B64 ^ i := by rw [Nat.pow_mul]; rfl

set_option maxHeartbeats 400000 in
theorem window_any (A : Option Addr) (c L n f : Nat) (w : World) (h : Nums .u64 w A (dig B64 n)) (hL : L = (dig B64 n).length) (hl : L ≤ 1000000000000) (hf : f ≤ 100000000000000) :
    Calls Tryz.prog 92 #[.slice A L c, .int .i64 (f : Int)] w fun e w' => e = .returned (.int .u64 ((n / 2 ^ f % B64 : Nat) : Int)) ∧ w = w' := by
  obtain ⟨i, s, hs, hfe⟩ : ∃ i s, s < 64 ∧ f = 64 * i + s := ⟨f / 64, f % 64, Nat.mod_lt _ (by omega), by omega⟩
  have hw : n / 2 ^ f % B64 = (n / B64 ^ i % B64) / 2 ^ s + 2 ^ (64 - s) * (n / B64 ^ (i + 1) % B64 % 2 ^ s) := by
    rw [hfe]; exact win_of n i s hs
  have e1 : (f : Int) / 64 = (i : Int) := by omega
  have e2 : (f : Int) % 64 = (s : Int) := by omega
  have hi0 : i ≤ 100000000000000 := by omega
  generalize n / 2 ^ f % B64 = r at *
  have HW := Lib.hid hw
  clear hw hfe
  generalize hF : (f : Int) = F at *
  have hF0 : 0 ≤ F := by omega
  have hF1 : F ≤ 100000000000000 := by omega
  clear hF
  by_cases h0 : i < L
  · obtain ⟨g, off, x, rfl, hg, hx, hcx⟩ := h.at_ (i := i) (by omega)
    have hxv := dig_getElem? b64_two hx
    have hxl : x < B64 := by rw [hxv]; exact Nat.mod_lt _ b64_pos
    by_cases h1 : i + 1 < L
    · obtain ⟨g', off', y, he, _, hy, hcy⟩ := h.at_ (i := i + 1) (by omega)
      simp only [Option.some.injEq, Addr.mk.injEq] at he
      obtain ⟨rfl, rfl, _⟩ := he
      have hyv := dig_getElem? b64_two hy
      have HB := Lib.hid (win_bits x y s hxl hs)
      have HX := Lib.hid hxv
      have HY := Lib.hid hyv
      have h1' : (i : Int) + 1 < (L : Int) := by omega
      have HL := Lib.hid hL
      clear hxv hyv hx hy h hxl hL
      go_enter Tryz.func92, Tryz.ntmps92
      go_wp2
      go_ret
      refine ⟨ret_i ?_, rfl⟩
      rw [HB.out, HW.out, HX.out, HY.out]
    · have HX := Lib.hid hxv
      have hd0 : n / B64 ^ (i + 1) = 0 := div_pow_len b64_two (by omega)
      have HD := Lib.hid hd0
      have h1' : ¬ (i : Int) + 1 < (L : Int) := by omega
      have HL := Lib.hid hL
      clear hxv hx h hxl hd0 hL
      go_enter Tryz.func92, Tryz.ntmps92
      go_wp2
      go_ret
      refine ⟨ret_i ?_, rfl⟩
      rw [HW.out, HX.out, HD.out]; simp
  · have hd0 : n / B64 ^ i = 0 := div_pow_len b64_two (by omega)
    have hd1 : n / B64 ^ (i + 1) = 0 := div_pow_len b64_two (by omega)
    have HD := Lib.hid hd0
    have HE := Lib.hid hd1
    have h1' : ¬ (i : Int) + 1 < (L : Int) := by omega
    have HL := Lib.hid hL
    clear hd0 hd1 h hL
    go_enter Tryz.func92, Tryz.ntmps92
    go_wp2
    go_ret
    refine ⟨ret_i ?_, rfl⟩
    rw [HW.out, HD.out, HE.out]
    simp
end Go.Proofs.YthgekjkgfccnaaaGreat

namespace Go.Proofs.YthgekjkgfccnaaaGreat
open Go.RowKit Num

theorem len64_nat (x : Nat) (w : World) (hx : x < B64) : Calls Tryz.prog 116 #[.int .u64 (x : Int)] w fun e w' => e = .returned (.int .i64 (nbits x : Nat)) ∧ w = w' := by
  have h := len64_int (x : Int) w (by omega) (by unfold B64 at hx; omega)
  rw [Int.toNat_natCast, bitLen_nbits x (by unfold B64 at hx; omega)] at h
  exact h
theorem nbits_64 {x : Nat} (hx : x < B64) : nbits x ≤ 64 := nbits_le (k := 64) hx

set_option maxHeartbeats 400000 in
theorem bits_any (A : Option Addr) (c L n : Nat) (w : World) (h : Nums .u64 w A (dig B64 n)) (hL : L = (dig B64 n).length) (hl : L ≤ 1000000000000) :
    Calls Tryz.prog 94 #[.slice A L c] w fun e w' => e = .returned (.int .i64 (nbits n : Nat)) ∧ w = w' := by
  by_cases h0 : L = 0
  · subst h0
    have hn : n = 0 := (dig_nil_iff b64_two).1 (List.eq_nil_of_length_eq_zero hL.symm)
    subst hn
    clear hL h
    go_enter Tryz.func94, Tryz.ntmps94
    go_wp2
    go_ret
    exact ⟨ret_i (by rw [nbits_zero]; rfl), rfl⟩
  · obtain ⟨K, rfl⟩ : ∃ K, L = K + 1 := ⟨L - 1, by omega⟩
    obtain ⟨g, off, v, rfl, hg, hv, hcv⟩ := h.at_ (i := K) (by omega)
    have hb := nbits_words hL.symm hv
    have hvl : v < B64 := by rw [dig_getElem? b64_two hv]; exact Nat.mod_lt _ b64_pos
    have hv64 := nbits_64 hvl
    have HL := Lib.hid hL
    generalize nbits n = r at *
    have HB := Lib.hid hb
    clear h hv hb hL
    have hne : (((K : Int) + 1) == 0) = false := by simp; omega
    have hcall := fun w => len64_nat v w hvl
    have HC := Lib.hid hcall
    clear hcall
    generalize nbits v = q at *
    go_enter Tryz.func94, Tryz.ntmps94
    go_wp2_with (go_at_call 116; refine (HC.out _).mono ?_; rintro e w' ⟨rfl, rfl⟩)
    go_ret
    exact ⟨ret_i (by rw [HB.out]; push_cast; omega), rfl⟩
end Go.Proofs.YthgekjkgfccnaaaGreat

/- Plain laws: multiplication by hand's method. -/
namespace Go.Proofs.Num

theorem seg_self {zs : List Nat} {n : Nat} (h : zs.length = n) : seg zs 0 n = zs := by subst h; exact seg_all zs
theorem val_split {b : Nat} {zs : List Nat} {i j r : Nat} (h : zs.length = i + j + r) :
    val b zs = val b (seg zs 0 i) + b ^ i * (val b (seg zs i j) + b ^ j * val b (seg zs (i + j) r)) := by
  have e0 : val b zs = val b (seg zs 0 (i + (j + r))) := by rw [seg_self (by omega)]
  rw [e0, val_seg_add b (by omega), Nat.zero_add, val_seg_add b (by omega)]
theorem val_zero {b : Nat} {xs : List Nat} (h : ∀ (i v : Nat), xs[i]? = some v → v = 0) : val b xs = 0 := by
  have : xs = List.replicate xs.length 0 := by
    apply List.ext_getElem
    · simp
    · intro i h1 h2
      rw [List.getElem_replicate]
      exact h i _ (List.getElem?_eq_getElem h1)
  rw [this, val_replicate]

/-- After i digits of bs. -/
structure MulSt (b : Nat) (us bs : List Nat) (i : Nat) (zs : List Nat) : Prop where
  len : zs.length = us.length + bs.length
  low : Low b zs
  zero : ∀ (j v : Nat), us.length + i ≤ j → zs[j]? = some v → v = 0
  eq : val b zs = val b us * val b (bs.take i)

theorem MulSt.start {b : Nat} (hb : 2 ≤ b) (us bs : List Nat) : MulSt b us bs 0 (List.replicate (us.length + bs.length) 0) :=
  ⟨by simp, Low.replicate (by omega) _, fun j v _ hv => List.eq_of_mem_replicate (List.mem_of_getElem? hv), by rw [val_replicate]; simp [val]⟩

theorem MulSt.step {b : Nat} {us bs zs zs' : List Nat} {i v over : Nat} (h : MulSt b us bs i zs) (hi : i < bs.length) (hv : bs[i]? = some v)
    (hs : ScaleSt b zs us v i us.length zs' over) : MulSt b us bs (i + 1) (zs'.set (us.length + i) over) := by
  have hl := hs.len
  have hl0 := h.len
  refine ⟨by rw [List.length_set]; omega, hs.low.set hs.le, fun j u hj hu => ?_, ?_⟩
  · rw [List.getElem?_set, if_neg (by omega), hs.far j (by omega)] at hu
    exact h.zero j u (by omega) hu
  · obtain ⟨r, hr⟩ : ∃ r, bs.length = i + (1 + r) := ⟨bs.length - i - 1, by omega⟩
    have e1 := val_split (b := b) (zs := zs) (i := i) (j := us.length) (r := 1 + r) (by omega)
    have e2 := val_split (b := b) (zs := zs'.set (us.length + i) over) (i := i) (j := us.length) (r := 1 + r) (by rw [List.length_set]; omega)
    have z1 : val b (seg zs (i + us.length) (1 + r)) = 0 := val_zero fun j u hu => by
      rw [seg_get?] at hu
      split at hu
      · exact h.zero _ u (by omega) hu
      · cases hu
    have z2 : val b (seg (zs'.set (us.length + i) over) (i + us.length) (1 + r)) = over := by
      have hnew : (zs'.set (us.length + i) over)[i + us.length + 0]? = some over := by
        rw [Nat.add_zero, Nat.add_comm i, List.getElem?_set_self (by omega)]
      rw [val_seg_add b (by rw [List.length_set]; omega)]
      rw [show seg (zs'.set (us.length + i) over) (i + us.length) 1 = seg (zs'.set (us.length + i) over) (i + us.length) (0 + 1) from rfl, val_seg_succ b hnew, seg_zero]
      have : val b (seg (zs'.set (us.length + i) over) (i + us.length + 1) r) = 0 := val_zero fun j u hu => by
        rw [seg_get?] at hu
        split at hu
        · rw [List.getElem?_set, if_neg (by omega), hs.far _ (by omega)] at hu
          exact h.zero _ u (by omega) hu
        · cases hu
      rw [this]; simp [val]
    have z3 : seg (zs'.set (us.length + i) over) 0 i = seg zs 0 i := by
      rw [seg_set_far (by omega)]
      exact seg_congr fun j _ h2 => hs.far j (by omega)
    have z4 : seg (zs'.set (us.length + i) over) i us.length = seg zs' i us.length := seg_set_far (by omega)
    rw [e2, z2, z3, z4, hs.eq, List.take_of_length_le (Nat.le_refl _)]
    rw [z1] at e1
    have ht : val b (bs.take (i + 1)) = val b (bs.take i) + b ^ i * v := by
      rw [val_take_succ b bs i hi, (List.getElem?_eq_some_iff.1 hv).2]
    have e3 := h.eq
    rw [ht]
    clear ht e2 z1 z2 z3 z4 hs hv hi h
    grind
end Go.Proofs.Num
