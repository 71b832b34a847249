/- Part of the proof of WireCertain: Vals, Shl2, Wit, Num, MemN, Mem, MulW, MulU, Rep, CloneI, CoilF, Place, AddP, Last, CanT, ChkPc. -/
import Derived.WalkKit
import Derived.WalkSpells
import Derived.WalkLawsBesides
import Derived.Deep.QuietTactic
import Derived.Deep.OwnRows
import Derived.BigQuiet
import Derived.Lib.Hide
import Derived.Laws.Rows
import Derived.Below
import Derived.Test.YthgekjkgfccnaaaRows
import Derived.ProofKit
import Derived.OpenShut
import Derived.ShutString
import Derived.ChangeOld
import Derived.Laws.CopyOwn
import Derived.Laws.MakeOwn
import Derived.Lib.Mul64
import Derived.Laws.Bits64b
import Derived.Deep.RegionLaw
import Derived.Lib.SliceRun
import Derived.Laws.AppendOwn
import Derived.IntWalk
import Derived.StillTailTactics
/- What is said of memory, whatever its cells hold: a slice that reads as a list of values; a block that is known whole. -/
namespace Go.Proofs.Ythgekjkgfccnaaa
open Go.RowKit

/-- The slice at A reads as these cells; they lie in a block that is there. -/
def Vals (w : World) (A : Option Addr) (vs : List Value) : Prop :=
  0 < vs.length → ∃ g off, A = some ⟨g, off, none⟩ ∧ g < w.heap.size ∧ ∀ (i : Nat) (v : Value), vs[i]? = some v → w.cell? ⟨g, off + i, none⟩ = some v

theorem Vals.nil {w : World} {A : Option Addr} : Vals w A [] := fun h => absurd h (by simp)
theorem Vals.keep {w w' : World} {A : Option Addr} {vs : List Value} (h : Vals w A vs) (hb : Below w.heap.size w w') : Vals w' A vs := by
  intro hl
  obtain ⟨g, off, e, hg, hc⟩ := h hl
  exact ⟨g, off, e, Nat.lt_of_lt_of_le hg hb.size, fun i v hv => (hb.cell (p := ⟨g, off + i, none⟩) hg).trans (hc i v hv)⟩
theorem Vals.drew {w : World} {A : Option Addr} {vs : List Value} (h : Vals w A vs) : Vals w.drew A vs := h
theorem Vals.drewN {w : World} {A : Option Addr} {vs : List Value} (h : Vals w A vs) (n : Nat) : Vals (w.drewN n) A vs := h
theorem Vals.alloc {w : World} {A : Option Addr} {vs : List Value} (h : Vals w A vs) (o : Obj) : Vals (w.alloc o) A vs := h.keep ((Below.refl _ _).alloc (Nat.le_refl _) o)
theorem Vals.at_ {w : World} {A : Option Addr} {vs : List Value} (h : Vals w A vs) {i : Nat} (hi : i < vs.length) :
    ∃ g off v, A = some ⟨g, off, none⟩ ∧ g < w.heap.size ∧ vs[i]? = some v ∧ w.cell? ⟨g, off + i, none⟩ = some v := by
  obtain ⟨g, off, e, hg, hc⟩ := h (by omega)
  exact ⟨g, off, vs[i], e, hg, List.getElem?_eq_getElem hi, hc _ _ (List.getElem?_eq_getElem hi)⟩
theorem Vals.take {w : World} {A : Option Addr} {vs : List Value} (h : Vals w A vs) (n : Nat) : Vals w A (vs.take n) := by
  intro hl
  obtain ⟨g, off, e, hg, hc⟩ := h (by simp at hl; omega)
  refine ⟨g, off, e, hg, fun i v hv => hc i v ?_⟩
  rw [List.getElem?_take] at hv
  split at hv
  · exact hv
  · cases hv
theorem Vals.drop {w : World} {g off : Nat} {vs : List Value} (h : Vals w (some ⟨g, off, none⟩) vs) (n : Nat) : Vals w (some ⟨g, off + n, none⟩) (vs.drop n) := by
  intro hl
  obtain ⟨g', off', e, hg, hc⟩ := h (by simp at hl; omega)
  injection e with e
  injection e with e1 e2
  subst e1 e2
  refine ⟨_, _, rfl, hg, fun i v hv => ?_⟩
  rw [List.getElem?_drop] at hv
  have := hc _ _ hv
  rwa [← Nat.add_assoc] at this

/-- Block g holds just these cells, none frozen. -/
def Blk (T : TypeId) (w : World) (g : Nat) (vs : List Value) : Prop := w.heap[g]? = some (.cells vs.toArray T (0, 0))
namespace Blk
variable {T : TypeId} {w w' : World} {g : Nat} {vs : List Value}
theorem lt (h : Blk T w g vs) : g < w.heap.size := by
  rcases Nat.lt_or_ge g w.heap.size with hlt | hge
  · exact hlt
  · unfold Blk at h; rw [Array.getElem?_eq_none hge] at h; cases h
theorem cell (h : Blk T w g vs) (i : Nat) : w.cell? ⟨g, i, none⟩ = vs[i]? := by
  have := cell_of_row w g i _ T (0, 0) h
  simpa using this
theorem frozen (h : Blk T w g vs) (i : Nat) : w.frozen? ⟨g, i, none⟩ = false := frozen_of_row w g i _ T h
theorem of_block (h : Blk T w g vs) (e : w'.heap[g]? = w.heap[g]?) : Blk T w' g vs := e.trans h
theorem new (w : World) (T : TypeId) (vs : List Value) : Blk T (w.alloc (.cells vs.toArray T)) w.heap.size vs := heap_alloc_new w _
theorem drew (h : Blk T w g vs) : Blk T w.drew g vs := h
theorem drewN (h : Blk T w g vs) (n : Nat) : Blk T (w.drewN n) g vs := h
theorem alloc (h : Blk T w g vs) (o : Obj) : Blk T (w.alloc o) g vs := (Below.heap_alloc w o g h.lt).trans h
theorem set (h : Blk T w g vs) (i : Nat) (v : Value) : Blk T (w.setCell ⟨g, i, none⟩ v) g (vs.set i v) := by
  have := heap_setCell_same w g i vs.toArray T v h
  unfold Blk
  rw [this]
  simp
theorem setOther (h : Blk T w g vs) {a : Addr} (ha : g ≠ a.block) (v : Value) : Blk T (w.setCell a v) g vs := (heap_setCell_other w a g v ha).trans h
theorem below {B : Nat} (h : Blk T w g vs) (hb : Below B w w') (hg : g < B) : Blk T w' g vs := (hb.block g hg).trans h
theorem keep (h : Blk T w g vs) (hb : Below w.heap.size w w') : Blk T w' g vs := h.below hb h.lt
theorem grown {row : Option Nat} (h : Blk T w g vs) (hb : w.grownBy w' row) (hg : some g ≠ row) : Blk T w' g vs := (hb.block g h.lt hg).trans h
theorem vals (h : Blk T w g vs) (off n : Nat) : Vals w (some ⟨g, off, none⟩) ((vs.drop off).take n) := by
  intro _
  refine ⟨g, off, rfl, h.lt, fun i v hv => ?_⟩
  rw [h.cell]
  rw [List.getElem?_take] at hv
  split at hv
  · rwa [List.getElem?_drop] at hv
  · cases hv
theorem vals0 (h : Blk T w g vs) : Vals w (some ⟨g, 0, none⟩) vs := by
  have := h.vals 0 vs.length
  simpa using this
theorem pair {a b : Value} (h : Blk T w g [a, b]) (c d : Value) : Blk T ((w.setCell ⟨g, 0, none⟩ c).setCell ⟨g, 1, none⟩ d) g [c, d] := by
  have := (h.set 0 c).set 1 d
  simpa using this
theorem far2 {g' : Nat} (h : Blk T w g vs) (hg : g ≠ g') (n : Nat) (c d : Value) : Blk T (((w.drewN n).setCell ⟨g', 0, none⟩ c).setCell ⟨g', 1, none⟩ d) g vs :=
  ((h.drewN n).setOther (a := ⟨g', 0, none⟩) hg c).setOther (a := ⟨g', 1, none⟩) hg d
end Blk

/-- Numbers as cells. -/
def is (l : List Int) : List Value := l.map (.int .i64)
theorem is_len (l : List Int) : (is l).length = l.length := by simp [is]
theorem is_at {l : List Int} {i : Nat} {x : Int} (h : l[i]? = some x) : (is l)[i]? = some (.int .i64 x) := by simp [is, h]
theorem is_set (l : List Int) (i : Nat) (x : Int) : (is l).set i (.int .i64 x) = is (l.set i x) := by simp [is, List.map_set]
theorem is_take (l : List Int) (n : Nat) : (is l).take n = is (l.take n) := by simp [is, List.map_take]
theorem is_drop (l : List Int) (n : Nat) : (is l).drop n = is (l.drop n) := by simp [is, List.map_drop]
theorem is_append (l m : List Int) : is (l ++ m) = is l ++ is m := by simp [is]
/-- The slice at A reads as these ints. -/
abbrev Ints (w : World) (A : Option Addr) (l : List Int) : Prop := Vals w A (is l)
theorem Ints.at_ {w : World} {A : Option Addr} {l : List Int} (h : Ints w A l) {i : Nat} (hi : i < l.length) :
    ∃ g off x, A = some ⟨g, off, none⟩ ∧ g < w.heap.size ∧ l[i]? = some x ∧ w.cell? ⟨g, off + i, none⟩ = some (.int .i64 x) := by
  obtain ⟨g, off, v, e, hg, hv, hc⟩ := Vals.at_ h (i := i) (by rw [is_len]; exact hi)
  refine ⟨g, off, l[i], e, hg, List.getElem?_eq_getElem hi, ?_⟩
  rw [is_at (List.getElem?_eq_getElem hi)] at hv
  injection hv with hv
  rw [hc, hv]

theorem below_drewN {B : Nat} {a w : World} (h : Below B a w) (n : Nat) : Below B a (w.drewN n) := ⟨h.os, h.tape, h.output, h.size, h.block⟩
theorem below_set {B : Nat} {a w : World} (h : Below B a w) {g i : Nat} (hg : B ≤ g) (v : Value) : Below B a (w.setCell ⟨g, i, none⟩ v) := h.setCell (p := ⟨g, i, none⟩) hg v
theorem below_on {B : Nat} {w w1 w2 : World} (h : Below B w w1) (hB : B ≤ w1.heap.size) (k : Below w1.heap.size w1 w2) : Below B w w2 := h.trans (k.mono hB)
theorem below_new (w : World) (o : Obj) : Below w.heap.size w (w.alloc o) := (Below.refl _ _).alloc (Nat.le_refl _) o
theorem wrapI {x : Int} (h : -9223372036854775808 ≤ x) (h' : x ≤ 9223372036854775807) : IntKind.i64.wrap x = x := by rw [IntKind.wrap_i64]; omega
/-- The number in a cell, 0 if there is none. -/
def cellI (w : World) (p : Addr) : Int := match w.cell? p with | some (.int _ x) => x | _ => 0
theorem cellI_of {w : World} {p : Addr} {k : IntKind} {x : Int} (h : w.cell? p = some (.int k x)) : cellI w p = x := by unfold cellI; rw [h]
end Go.Proofs.Ythgekjkgfccnaaa

/- What the frame of a law's proof tells of its arguments: a slice of ints reads as a list, a structure of ints is what it holds. -/
namespace Go.Proofs.Ythgekjkgfccnaaa
open Go.ChangeShapes Go.WideShapes Go.ChangeAt Go.RowKit

/-- What the frame tells of a slice of integers that came in: nil, or a row of cap cells. -/
def IsRow (w : World) (a : Option Addr) (len cap : Nat) (zs : List Int) : Prop :=
  (a = none ∧ len = 0 ∧ cap = 0 ∧ zs = []) ∨
  ∃ x, a = some x ∧ len ≤ cap ∧ cap ≤ maxLen ∧ zs.length = cap ∧ (∀ i, i < zs.length → w.cell? (x.add i) = some (.int .i64 (zs.getD i 0))) ∧ ∀ n ∈ zs, (Lit.int .i64 n).wf = true
theorem rows_ints {w : World} {a : Option Addr} {len cap : Nat} {zs : List Int} (h : IsRow w a len cap zs) :
    ∃ l : List Int, Ints w a l ∧ len = l.length ∧ len ≤ cap ∧ (a = none → cap = 0) ∧ cap ≤ maxLen ∧ ∀ x ∈ l, (Lit.int .i64 x).wf = true := by
  rcases h with ⟨rfl, rfl, rfl, rfl⟩ | ⟨x, rfl, hl, hm, hz, hcell, hwf⟩
  · exact ⟨[], Vals.nil, rfl, Nat.le_refl _, fun _ => rfl, by unfold maxLen; omega, by simp⟩
  · refine ⟨zs.take len, fun hp => ?_, by simp; omega, hl, (fun h => by cases h), hm, fun x hx => hwf x (List.mem_of_mem_take hx)⟩
    have hlen : 0 < zs.length := by simp [is] at hp; omega
    have h0 := hcell 0 hlen
    obtain ⟨b, off, spot⟩ := x
    have hspot : spot = none := by simpa [Addr.add] using World.cell?_spot h0
    subst hspot
    refine ⟨b, off, rfl, ?_, fun i v hv => ?_⟩
    · have := block_lt_of_cell h0
      simpa [Addr.add] using this
    · simp only [is, List.getElem?_map, Option.map_eq_some_iff] at hv
      obtain ⟨z, hz1, rfl⟩ := hv
      rw [List.getElem?_take] at hz1
      split at hz1
      · have hi := (List.getElem?_eq_some_iff.1 hz1).1
        have hc := hcell i hi
        have hzz : zs.getD i 0 = z := by rw [List.getD_eq_getElem?_getD, hz1]; rfl
        rw [hzz] at hc
        have ea : (⟨b, off, none⟩ : Addr).add i = ⟨b, off + i, none⟩ := by
          unfold Addr.add
          split
          · rename_i h; subst h; rfl
          · rfl
        rw [ea] at hc
        exact hc
      · cases hz1

theorem and_t {a b : Bool} (h : a = true) (k : b = true) : (a && b) = true := by rw [h, k]; rfl

set_option maxRecDepth 100000 in
theorem open_s6 {H : Type} {enc : TypeId × Value → H} {W : World} {v : Value} {d : DataW H} {ps : List MemPlace} (hval : Value.okWide Try.prog W .any 0 23 v) (hd : DataW.Trod enc Try.prog W 0 (fun _ => true) true 23 v d ps) :
    ∃ x0 x1 x2 x3 x4 x5 : Int, v = .agg #[.int .i64 x0, .int .i64 x1, .int .i64 x2, .int .i64 x3, .int .i64 x4, .int .i64 x5] := by
  obtain ⟨cs, rfl, hsz⟩ := okWide_struct Try.underlying23 hval
  have h2 : cs.size = 6 := hsz.trans (by kernel_rfl)
  obtain ⟨c0, c1, c2, c3, c4, c5, rfl⟩ : ∃ c0 c1 c2 c3 c4 c5, cs = #[c0, c1, c2, c3, c4, c5] := by
    obtain ⟨l⟩ := cs
    match l, h2 with
    | [c0, c1, c2, c3, c4, c5], _ => exact ⟨c0, c1, c2, c3, c4, c5, rfl⟩
  obtain ⟨fuel, hf⟩ := hd
  cases fuel with
  | zero => simp [DataW.trod] at hf
  | succ n =>
    rw [DataW.trod_step] at hf
    unfold DataW.trodStep at hf
    simp only [Try.underlying23, Value.cells] at hf
    rw [if_pos (by kernel_rfl)] at hf
    simp only [Option.map_eq_some_iff] at hf
    obtain ⟨xs, hx, _⟩ := hf
    simp only [List.mapM_cons, List.mapM_nil, bind, Option.bind_eq_some_iff, pure, Option.some.injEq] at hx
    obtain ⟨y0, h0, _, ⟨y1, h1, _, ⟨y2, h2, _, ⟨y3, h3, _, ⟨y4, h4, _, ⟨y5, h5, _, rfl, rfl⟩, rfl⟩, rfl⟩, rfl⟩, rfl⟩, rfl⟩ := hx
    have c3 : Try.prog.cellsOf 3 = 1 := by kernel_rfl
    rw [c3] at h0 h1 h2 h3 h4 h5
    simp only [List.drop_zero, List.drop_succ_cons, List.take_succ_cons, List.take_zero] at h0 h1 h2 h3 h4 h5
    obtain ⟨m0, e0, _, _⟩ := DataW.trod_int Try.underlying3 h0
    obtain ⟨m1, e1, _, _⟩ := DataW.trod_int Try.underlying3 h1
    obtain ⟨m2, e2, _, _⟩ := DataW.trod_int Try.underlying3 h2
    obtain ⟨m3, e3, _, _⟩ := DataW.trod_int Try.underlying3 h3
    obtain ⟨m4, e4, _, _⟩ := DataW.trod_int Try.underlying3 h4
    obtain ⟨m5, e5, _, _⟩ := DataW.trod_int Try.underlying3 h5
    simp at e0 e1 e2 e3 e4 e5
    exact ⟨m0, m1, m2, m3, m4, m5, by rw [e0, e1, e2, e3, e4, e5]⟩
end Go.Proofs.Ythgekjkgfccnaaa

namespace Go.Proofs.Ythgekjkgfccnaaa
open Go.RowKit

def inB (v lo hi : Int) : Bool := decide (lo ≤ v) && decide (v ≤ hi)
theorem inB_t {v lo hi : Int} (h : inB v lo hi = true) : lo ≤ v ∧ v ≤ hi := by simpa [inB] using h
theorem inB_f {v lo hi : Int} (h : inB v lo hi = false) : ¬ (lo ≤ v ∧ v ≤ hi) := by intro k; simp [inB, k.1, k.2] at h
theorem inB_of {v lo hi : Int} (h : lo ≤ v ∧ v ≤ hi) : inB v lo hi = true := by simp [inB, h.1, h.2]
theorem inB_not {v lo hi : Int} (h : ¬ (lo ≤ v ∧ v ≤ hi)) : inB v lo hi = false := by
  cases e : inB v lo hi
  · rfl
  · exact absurd (inB_t e) h

theorem within_any (v lo hi : Int) (w : World) : Calls Try.prog 39 #[.int .i64 v, .int .i64 lo, .int .i64 hi] w fun e w' => e = .returned (.bool (inB v lo hi)) ∧ w = w' := by
  unfold inB
  by_cases h : lo ≤ v
  · have hd : decide (lo ≤ v) = true := by simpa using h
    go_enter Try.func39, Try.ntmps39
    go_wp2
    go_ret
    exact ⟨by simp [h], rfl⟩
  · have hd : decide (lo ≤ v) = false := by simpa using h
    go_enter Try.func39, Try.ntmps39
    go_wp2
    go_ret
    exact ⟨by simp, rfl⟩
theorem in_any (v lo hi : Int) (w : World) : Calls Try.prog 34 #[.int .i64 v, .int .i64 lo, .int .i64 hi] w fun e w' => e = .returned (.bool (inB v lo hi)) ∧ w = w' := by
  unfold inB
  by_cases h : lo ≤ v
  · have hd : decide (lo ≤ v) = true := by simpa using h
    go_enter Try.func34, Try.ntmps34
    go_wp2
    go_ret
    exact ⟨by simp [h], rfl⟩
  · have hd : decide (lo ≤ v) = false := by simpa using h
    go_enter Try.func34, Try.ntmps34
    go_wp2
    go_ret
    exact ⟨by simp, rfl⟩
end Go.Proofs.Ythgekjkgfccnaaa

/- Plain laws on numbers that are written in a base, the least significant digit first: no program, no memory. -/
namespace Go.Proofs.Num

/-- The number that digits in base b make. -/
def val (b : Nat) : List Nat → Nat
  | [] => 0
  | x :: xs => x + b * val b xs

/-- All are digits of the base. -/
def Low (b : Nat) (xs : List Nat) : Prop := ∀ x ∈ xs, x < b

theorem Low.nil (b : Nat) : Low b [] := fun _ h => by cases h
theorem Low.cons {b x : Nat} {xs : List Nat} (hx : x < b) (h : Low b xs) : Low b (x :: xs) := by
  intro y hy
  rcases List.mem_cons.1 hy with rfl | hy
  · exact hx
  · exact h y hy
theorem Low.head {b x : Nat} {xs : List Nat} (h : Low b (x :: xs)) : x < b := h x (by simp)
theorem Low.tail {b x : Nat} {xs : List Nat} (h : Low b (x :: xs)) : Low b xs := fun y hy => h y (by simp [hy])
theorem Low.append {b : Nat} {xs ys : List Nat} (h : Low b xs) (k : Low b ys) : Low b (xs ++ ys) := by
  intro y hy
  rcases List.mem_append.1 hy with hy | hy
  · exact h y hy
  · exact k y hy
theorem Low.take {b : Nat} {xs : List Nat} (h : Low b xs) (n : Nat) : Low b (xs.take n) := fun y hy => h y (List.mem_of_mem_take hy)
theorem Low.drop {b : Nat} {xs : List Nat} (h : Low b xs) (n : Nat) : Low b (xs.drop n) := fun y hy => h y (List.mem_of_mem_drop hy)
theorem Low.get {b : Nat} {xs : List Nat} (h : Low b xs) {i : Nat} (hi : i < xs.length) : xs[i] < b := h _ (List.getElem_mem hi)
theorem Low.replicate {b : Nat} (hb : 0 < b) (n : Nat) : Low b (List.replicate n 0) := by
  intro y hy
  rw [List.eq_of_mem_replicate hy]; exact hb
theorem Low.set {b : Nat} {xs : List Nat} (h : Low b xs) {i v : Nat} (hv : v < b) : Low b (xs.set i v) := by
  intro y hy
  rcases List.mem_or_eq_of_mem_set hy with hy | rfl
  · exact h y hy
  · exact hv

theorem val_append (b : Nat) (xs ys : List Nat) : val b (xs ++ ys) = val b xs + b ^ xs.length * val b ys := by
  induction xs with
  | nil => simp [val]
  | cons x xs ih =>
    simp only [List.cons_append, val, ih, List.length_cons, Nat.pow_succ]
    grind

theorem val_snoc (b : Nat) (xs : List Nat) (x : Nat) : val b (xs ++ [x]) = val b xs + b ^ xs.length * x := by
  rw [val_append]; simp [val]

theorem val_take_succ (b : Nat) (xs : List Nat) (k : Nat) (h : k < xs.length) : val b (xs.take (k + 1)) = val b (xs.take k) + b ^ k * xs[k] := by
  rw [List.take_succ_eq_append_getElem h, val_snoc, List.length_take, Nat.min_eq_left (by omega)]

theorem val_lt (b : Nat) (xs : List Nat) (h : Low b xs) : val b xs < b ^ xs.length := by
  induction xs with
  | nil => simp [val]
  | cons x xs ih =>
    have hx := h.head
    have hi := ih h.tail
    simp only [val, List.length_cons, Nat.pow_succ]
    have : b * (val b xs + 1) ≤ b * b ^ xs.length := Nat.mul_le_mul_left b hi
    rw [Nat.mul_add] at this
    rw [Nat.mul_comm (b ^ xs.length) b]
    omega

theorem val_replicate (b n : Nat) : val b (List.replicate n 0) = 0 := by
  induction n with
  | zero => simp [val]
  | succ n ih => simp [List.replicate_succ, val, ih]

theorem val_take_drop (b : Nat) (xs : List Nat) (k : Nat) (h : k ≤ xs.length) : val b xs = val b (xs.take k) + b ^ k * val b (xs.drop k) := by
  have e := val_append b (xs.take k) (xs.drop k)
  rw [List.take_append_drop, List.length_take, Nat.min_eq_left h] at e
  exact e

theorem val_set (b : Nat) (xs : List Nat) (i v : Nat) (h : i < xs.length) : val b (xs.set i v) + b ^ i * xs[i] = val b xs + b ^ i * v := by
  induction xs generalizing i with
  | nil => simp at h
  | cons x xs ih =>
    cases i with
    | zero => simp [val]; omega
    | succ i =>
      have := ih i (by simpa using h)
      simp only [List.set_cons_succ, val, List.getElem_cons_succ, Nat.pow_succ]
      grind

/-- The last digit, if there is one, is not 0. -/
def Neat (xs : List Nat) : Prop := xs = [] ∨ ∃ ys y, xs = ys ++ [y] ∧ y ≠ 0

theorem neat_nil : Neat [] := .inl rfl
theorem neat_snoc {xs : List Nat} {y : Nat} (hy : y ≠ 0) : Neat (xs ++ [y]) := .inr ⟨xs, y, rfl, hy⟩
theorem neat_iff (xs : List Nat) : Neat xs ↔ ∀ h : 0 < xs.length, xs[xs.length - 1] ≠ 0 := by
  constructor
  · rintro (rfl | ⟨ys, y, rfl, hy⟩) h
    · simp at h
    · simpa using hy
  · intro h
    rcases List.eq_nil_or_concat xs with rfl | ⟨ys, y, rfl⟩
    · exact .inl rfl
    · refine .inr ⟨ys, y, by simp, ?_⟩
      have := h (by simp)
      simpa using this
theorem Neat.tail {x : Nat} {xs : List Nat} (h : Neat (x :: xs)) : Neat xs := by
  rw [neat_iff] at h ⊢
  intro hl
  have := h (by simp)
  simp only [List.length_cons, Nat.add_sub_cancel] at this
  rw [List.getElem_cons] at this
  rw [dif_neg (by omega)] at this
  exact this

theorem val_eq_zero {b : Nat} (hb : 0 < b) {xs : List Nat} (h : Neat xs) (hv : val b xs = 0) : xs = [] := by
  rcases h with rfl | ⟨ys, y, rfl, hy⟩
  · rfl
  · rw [val_snoc] at hv
    have : 0 < b ^ ys.length := Nat.pow_pos hb
    have h2 : b ^ ys.length * y = 0 := by omega
    rcases Nat.mul_eq_zero.1 h2 with h | h
    · omega
    · exact absurd h hy

theorem neat_ge {b : Nat} {xs : List Nat} (h : Neat xs) (hl : 0 < xs.length) : b ^ (xs.length - 1) ≤ val b xs := by
  rcases h with rfl | ⟨ys, y, rfl, hy⟩
  · simp at hl
  · rw [val_snoc]
    simp only [List.length_append, List.length_singleton, Nat.add_sub_cancel]
    have : b ^ ys.length * 1 ≤ b ^ ys.length * y := Nat.mul_le_mul_left _ (by omega)
    omega

/-- The digits of a number. -/
def dig (b n : Nat) : List Nat := if _h : n = 0 ∨ b < 2 then [] else n % b :: dig b (n / b)
termination_by n
decreasing_by exact Nat.div_lt_self (by omega) (by omega)

theorem dig_zero (b : Nat) : dig b 0 = [] := by unfold dig; simp
theorem dig_pos {b n : Nat} (hb : 2 ≤ b) (hn : n ≠ 0) : dig b n = n % b :: dig b (n / b) := by
  rw [dig.eq_1 b n, dif_neg (by omega)]

theorem val_dig {b : Nat} (hb : 2 ≤ b) (n : Nat) : val b (dig b n) = n := by
  induction n using Nat.strongRecOn with
  | ind n ih =>
    by_cases hn : n = 0
    · subst hn; simp [dig_zero, val]
    · rw [dig_pos hb hn, val, ih _ (Nat.div_lt_self (by omega) (by omega))]
      exact Nat.mod_add_div n b

theorem low_dig {b : Nat} (hb : 2 ≤ b) (n : Nat) : Low b (dig b n) := by
  induction n using Nat.strongRecOn with
  | ind n ih =>
    by_cases hn : n = 0
    · subst hn; simp [dig_zero, Low.nil]
    · rw [dig_pos hb hn]
      exact Low.cons (Nat.mod_lt _ (by omega)) (ih _ (Nat.div_lt_self (by omega) (by omega)))

theorem dig_val {b : Nat} (hb : 2 ≤ b) {xs : List Nat} (hl : Low b xs) (hn : Neat xs) : dig b (val b xs) = xs := by
  induction xs with
  | nil => simp [val, dig_zero]
  | cons x xs ih =>
    have hx := hl.head
    have h0 : val b (x :: xs) ≠ 0 := fun e => by
      have := val_eq_zero (by omega) hn e
      simp at this
    rw [dig_pos hb h0]
    have e1 : val b (x :: xs) % b = x := by
      simp only [val]; rw [Nat.add_mul_mod_self_left]; exact Nat.mod_eq_of_lt hx
    have e2 : val b (x :: xs) / b = val b xs := by
      simp only [val]; rw [Nat.add_mul_div_left _ _ (by omega), Nat.div_eq_of_lt hx]; omega
    rw [e1, e2, ih hl.tail hn.tail]

theorem neat_dig {b : Nat} (hb : 2 ≤ b) (n : Nat) : Neat (dig b n) := by
  induction n using Nat.strongRecOn with
  | ind n ih =>
    by_cases hn : n = 0
    · subst hn; simp [dig_zero, neat_nil]
    · rw [dig_pos hb hn]
      rcases ih _ (Nat.div_lt_self (show 0 < n by omega) (show 1 < b by omega)) with h | ⟨ys, y, h, hy⟩
      · have h0 : n / b = 0 := by rw [← val_dig hb (n / b), h]; rfl
        have : n < b := by
          rcases Nat.div_eq_zero_iff.1 h0 with h | h <;> omega
        rw [h, Nat.mod_eq_of_lt this]
        exact .inr ⟨[], n, rfl, hn⟩
      · rw [h]; exact .inr ⟨n % b :: ys, y, rfl, hy⟩

/-- Digits without a 0 at the end are those of the number that they make. -/
theorem dig_of {b n : Nat} (hb : 2 ≤ b) {xs : List Nat} (hl : Low b xs) (hn : Neat xs) (hv : val b xs = n) : dig b n = xs := by
  subst hv; exact dig_val hb hl hn

theorem dig_len_lt {b n : Nat} (hb : 2 ≤ b) : n < b ^ (dig b n).length := by
  have := val_lt b _ (low_dig hb n)
  rwa [val_dig hb] at this
theorem dig_len_ge {b n : Nat} (hb : 2 ≤ b) (h : 0 < (dig b n).length) : b ^ ((dig b n).length - 1) ≤ n := by
  have := neat_ge (b := b) (neat_dig hb n) h
  rwa [val_dig hb] at this
theorem dig_len_le {b n k : Nat} (hb : 2 ≤ b) (h : n < b ^ k) : (dig b n).length ≤ k := by
  rcases Nat.lt_or_ge k (dig b n).length with hk | hk
  · have h1 := dig_len_ge hb (n := n) (by omega)
    have h2 : b ^ k ≤ b ^ ((dig b n).length - 1) := Nat.pow_le_pow_right (by omega) (by omega)
    omega
  · exact hk
theorem dig_nil_iff {b n : Nat} (hb : 2 ≤ b) : dig b n = [] ↔ n = 0 := by
  constructor
  · intro h; have := val_dig hb n; rw [h] at this; simpa [val] using this.symm
  · rintro rfl; exact dig_zero b

/-- The digits that are left when the zeros at the end are cut off. -/
theorem take_neat {b : Nat} (hb : 2 ≤ b) {xs : List Nat} (hl : Low b xs) {k : Nat} (hk : k ≤ xs.length) (hz : ∀ i (h : i < xs.length), k ≤ i → xs[i]'h = 0)
    (hn : ∀ h : 0 < k, xs[k - 1]'(by omega) ≠ 0) : xs.take k = dig b (val b xs) := by
  have hd : xs.drop k = List.replicate (xs.length - k) 0 := by
    apply List.ext_getElem
    · simp
    · intro i h1 h2
      simp at h1
      rw [List.getElem_drop, List.getElem_replicate]
      exact hz _ _ (by omega)
  have hv : val b xs = val b (xs.take k) := by
    rw [val_take_drop b xs k hk, hd, val_replicate]; simp
  rw [hv]
  refine (dig_val hb (hl.take k) ?_).symm
  rw [neat_iff]
  intro h
  simp only [List.length_take, List.getElem_take, Nat.min_eq_left hk] at h ⊢
  exact hn h

theorem val_inj {b : Nat} (hb : 2 ≤ b) {xs ys : List Nat} (hlen : xs.length = ys.length) (hx : Low b xs) (hy : Low b ys) (h : val b xs = val b ys) : xs = ys := by
  induction xs generalizing ys with
  | nil => exact (List.eq_nil_of_length_eq_zero hlen.symm).symm
  | cons x xs ih =>
    cases ys with
    | nil => simp at hlen
    | cons y ys =>
      simp only [val] at h
      have h1 := hx.head
      have h2 := hy.head
      have e1 : (x + b * val b xs) % b = x := by rw [Nat.add_mul_mod_self_left]; exact Nat.mod_eq_of_lt h1
      have e2 : (y + b * val b ys) % b = y := by rw [Nat.add_mul_mod_self_left]; exact Nat.mod_eq_of_lt h2
      have e : x = y := by rw [← e1, ← e2, h]
      subst e
      have h3 : b * val b xs = b * val b ys := by omega
      have h4 := Nat.eq_of_mul_eq_mul_left (by omega) h3
      rw [ih (by simpa using hlen) hx.tail hy.tail h4]

end Go.Proofs.Num

/- make and copy of elements of any number of cells, said of blocks that are known whole. -/
namespace Go.Proofs.Ythgekjkgfccnaaa
open Go.RowKit

theorem made_same (a : Value) (k m : Nat) (hk : 0 < k) : madeCells (Array.replicate k a) m = (List.replicate m a).toArray := by
  unfold madeCells
  apply Array.ext
  · simp
  · intro i h1 h2
    have : i % k < k := Nat.mod_lt _ hk
    simp [this]
/-- make, all of whose cells are a. -/
theorem run_make_same {P : Program} (t e : TypeId) (z a : Value) (k bytes : Nat) (ht : P.underlying t = some (.slice e)) (hinfo : (P.info? e).map (fun i => (i.zero, i.size, i.bytes)) = some (some z, k, bytes)) (hz : z.cells = Array.replicate k a) (hk : 0 < k)
    (n N : Nat) (hN : N = n * k) (hbytes : bytes * n ≤ 281474976710656) (h63 : n ≤ 9223372036854775807) (w : World) :
    (Instr.makeSlice t (.int .i64 (n : Int)) (.int .i64 (n : Int))).run P w = .ok (.slice (some ⟨w.heap.size, 0, none⟩) n n) (w.alloc (.cells (Array.replicate N a) e)) := by
  subst hN
  obtain ⟨i, hi, hzz⟩ := Option.map_eq_some_iff.1 hinfo
  simp only [Prod.mk.injEq] at hzz
  obtain ⟨h1, h2, h3⟩ := hzz
  have hb : (i.bytes : Int) * (n : Int) ≤ 281474976710656 := by
    have h : ((i.bytes * n : Nat) : Int) ≤ 281474976710656 := by rw [h3]; omega
    rwa [Int.natCast_mul] at h
  have hr := run_make (P := P) w t e i z ht hi h1 .i64 .i64 n n (by omega) (by omega) hb (by omega)
  simp only [Int.toNat_natCast] at hr
  rw [h2, hz, made_same a k _ hk] at hr
  simpa using hr

theorem run_copy_rowN {P : Program} (w : World) (dT sT ty elem : TypeId) (g o dLen dCap : Nat) (a : Addr) (sLen sCap k n : Nat) (cur : List Value) (t : TypeId) (cs : List Value)
    (hu : P.underlying dT = some (.slice elem)) (hs : (P.info? elem).map (·.size) = some k)
    (hg : w.heap[g]? = some (.cells cur.toArray t (0, 0))) (hn : n = Nat.min sLen dLen) (hc : cs.length = n * k)
    (hsrc : ∀ (j : Nat) (v : Value), cs[j]? = some v → w.cell? (a.add j) = some v) (hfit : o + cs.length ≤ cur.length) (h1 : ∀ v ∈ cs, v.oneCell' = true) :
    (Builtin.copy_ #[dT, sT] ty #[.slice (some ⟨g, o, none⟩) dLen dCap, .slice (some a) sLen sCap]).run P w =
      .ok (goInt n) (w.setRow g (cur.take o ++ cs ++ cur.drop (o + cs.length)).toArray) := by
  have hl := run_loadCells_list (P := P) w a cs hsrc
  have hst := run_storeCells_at P g o t cs 0 cur.toArray w hg (by simpa using hfit) h1
  cases hq : P.info? elem with
  | none => simp [hq] at hs
  | some i =>
    have hi : i.size = k := by simpa [hq] using hs
    rw [hc] at hl
    simp only [Nat.add_zero] at hst
    simp [Builtin.copy_, run_underlying hu, Builtin.lenOf, Builtin.firstCells, sizeOf, typeInfo, hq, hi, ← hn, hl, hst]

/-- The built-in copy into a block that is known whole. -/
theorem wpList_copyN {P : Program} {w : World} {ops : Array Oper} {rest : List Oper} {o : Oper} {a : Act} {Q : Exit → Act → World → Prop} (hgd : o.guard = none) (d s : Operand) (dT sT : TypeId)
    (ho : o.op = .call { callee := .builtin .copy, args := #[d, s], argTypes := #[dT, sT] }) (elem : TypeId) (hu : P.underlying dT = some (.slice elem)) (k : Nat) (hsz : (P.info? elem).map (·.size) = some k)
    (g off dLen dCap g' off' sLen sCap n : Nat) (hd : a.eval d = .slice (some ⟨g, off, none⟩) dLen dCap) (hs : a.eval s = .slice (some ⟨g', off', none⟩) sLen sCap)
    (cur : List Value) (t : TypeId) (hg : Blk t w g cur) (cs : List Value) (hn : n = Nat.min sLen dLen) (hc : cs.length = n * k)
    (hsrc : Vals w (some ⟨g', off', none⟩) cs) (hfit : off + cs.length ≤ cur.length) (h1 : ∀ v ∈ cs, v.oneCell' = true)
    (h : ∀ w', Blk t w' g (cur.take off ++ cs ++ cur.drop (off + cs.length)) → w.grownBy w' (some g) → wpList P ops Q rest (a.put o.dst (goInt n)) w') : wpList P ops Q (o :: rest) a w := by
  refine wpList_plain hgd fun K hK => ?_
  have hsrc' : ∀ (j : Nat) (v : Value), cs[j]? = some v → w.cell? ((⟨g', off', none⟩ : Addr).add j) = some v := by
    intro j v hv
    obtain ⟨g2, off2, e, _, hcell⟩ := hsrc (by have := (List.getElem?_eq_some_iff.1 hv).1; omega)
    injection e with e
    injection e with e1 e2
    subst e1 e2
    have := hcell j v hv
    unfold Addr.add
    split
    · rename_i h0; subst h0; exact this
    · exact this
  have hrun := run_copy_rowN (P := P) w dT sT o.type elem g off dLen dCap ⟨g', off', none⟩ sLen sCap k n cur t cs hu hsz hg hn hc hsrc' hfit h1
  unfold Oper.wp
  simp [execOp, ho, resolve, invoke, builtin, hd, hs, hrun, Result.andThen]
  refine hK _ _ (h _ ?_ ⟨rfl, rfl, rfl, by simp, fun i _ hne => setRow_other w g i _ (by rintro rfl; exact hne rfl)⟩)
  have := setRow_heap w g cur.toArray (cur.take off ++ cs ++ cur.drop (off + cs.length)).toArray t (0, 0) hg
  simpa [Blk] using this
/-- The same as one step of a region that draws its order. -/
theorem step_copyN {P : Program} {w : World} {ops : Array Oper} {o : Oper} {a : Act} {K : Act → World → Prop} {Q : Exit → Act → World → Prop} {E : Prop} (hgd : o.guard = none) (d s : Operand) (dT sT : TypeId)
    (ho : o.op = .call { callee := .builtin .copy, args := #[d, s], argTypes := #[dT, sT] }) (elem : TypeId) (hu : P.underlying dT = some (.slice elem)) (k : Nat) (hsz : (P.info? elem).map (·.size) = some k)
    (g off dLen dCap g' off' sLen sCap n : Nat) (hd : a.eval d = .slice (some ⟨g, off, none⟩) dLen dCap) (hs : a.eval s = .slice (some ⟨g', off', none⟩) sLen sCap)
    (cur : List Value) (t : TypeId) (hg : Blk t w g cur) (cs : List Value) (hn : n = Nat.min sLen dLen) (hc : cs.length = n * k)
    (hsrc : Vals w (some ⟨g', off', none⟩) cs) (hfit : off + cs.length ≤ cur.length) (h1 : ∀ v ∈ cs, v.oneCell' = true)
    (h : ∀ w', Blk t w' g (cur.take off ++ cs ++ cur.drop (off + cs.length)) → w.grownBy w' (some g) → K (a.put o.dst (goInt n)) w') :
    if Region.wanted o (yielded ops a.tmps) = true then Oper.wp P o a w K Q else E := by
  have hw : Region.wanted o (yielded ops a.tmps) = true := by simp [Region.wanted, hgd]
  rw [if_pos hw]
  have hsrc' : ∀ (j : Nat) (v : Value), cs[j]? = some v → w.cell? ((⟨g', off', none⟩ : Addr).add j) = some v := by
    intro j v hv
    obtain ⟨g2, off2, e, _, hcell⟩ := hsrc (by have := (List.getElem?_eq_some_iff.1 hv).1; omega)
    injection e with e
    injection e with e1 e2
    subst e1 e2
    have := hcell j v hv
    unfold Addr.add
    split
    · rename_i h0; subst h0; exact this
    · exact this
  have hrun := run_copy_rowN (P := P) w dT sT o.type elem g off dLen dCap ⟨g', off', none⟩ sLen sCap k n cur t cs hu hsz hg hn hc hsrc' hfit h1
  unfold Oper.wp
  simp [execOp, ho, resolve, invoke, builtin, hd, hs, hrun, Result.andThen]
  refine h _ ?_ ⟨rfl, rfl, rfl, by simp, fun i _ hne => setRow_other w g i _ (by rintro rfl; exact hne rfl)⟩
  have := setRow_heap w g cur.toArray (cur.take off ++ cs ++ cur.drop (off + cs.length)).toArray t (0, 0) hg
  simpa [Blk] using this
theorem is_one (l : List Int) : ∀ v ∈ is l, v.oneCell' = true := by
  intro v hv
  simp only [is, List.mem_map] at hv
  obtain ⟨x, _, rfl⟩ := hv
  rfl

/-- Block g is a row of cap cells of the call's own; its first are vs, of the others nothing is said. -/
def Hd (T : TypeId) (w : World) (g cap : Nat) (vs : List Value) : Prop := ∃ rest : List Value, vs.length + rest.length = cap ∧ Blk T w g (vs ++ rest)
namespace Hd
variable {T : TypeId} {w w' : World} {g cap : Nat} {vs : List Value}
theorem cell (h : Hd T w g cap vs) {i : Nat} {v : Value} (hv : vs[i]? = some v) : w.cell? ⟨g, i, none⟩ = some v := by
  obtain ⟨rest, _, hb⟩ := h
  rw [hb.cell, List.getElem?_append_left (List.getElem?_eq_some_iff.1 hv).1]
  exact hv
theorem frozen (h : Hd T w g cap vs) (i : Nat) : w.frozen? ⟨g, i, none⟩ = false := by obtain ⟨rest, _, hb⟩ := h; exact hb.frozen i
theorem lt (h : Hd T w g cap vs) : g < w.heap.size := by obtain ⟨rest, _, hb⟩ := h; exact hb.lt
theorem cap_le (h : Hd T w g cap vs) : vs.length ≤ cap := by obtain ⟨rest, h, _⟩ := h; omega
theorem keep (h : Hd T w g cap vs) (hb : Below w.heap.size w w') : Hd T w' g cap vs := by obtain ⟨rest, h1, h2⟩ := h; exact ⟨rest, h1, h2.keep hb⟩
theorem below {B : Nat} (h : Hd T w g cap vs) (hb : Below B w w') (hg : g < B) : Hd T w' g cap vs := by obtain ⟨rest, h1, h2⟩ := h; exact ⟨rest, h1, h2.below hb hg⟩
theorem drew (h : Hd T w g cap vs) : Hd T w.drew g cap vs := h
theorem drewN (h : Hd T w g cap vs) (n : Nat) : Hd T (w.drewN n) g cap vs := h
theorem alloc (h : Hd T w g cap vs) (o : Obj) : Hd T (w.alloc o) g cap vs := by obtain ⟨rest, h1, h2⟩ := h; exact ⟨rest, h1, h2.alloc o⟩
theorem grown {row : Option Nat} (h : Hd T w g cap vs) (hb : w.grownBy w' row) (hg : some g ≠ row) : Hd T w' g cap vs := by obtain ⟨rest, h1, h2⟩ := h; exact ⟨rest, h1, h2.grown hb hg⟩
theorem set (h : Hd T w g cap vs) {i : Nat} (hi : i < vs.length) (v : Value) : Hd T (w.setCell ⟨g, i, none⟩ v) g cap (vs.set i v) := by
  obtain ⟨rest, h1, h2⟩ := h
  refine ⟨rest, by rw [List.length_set]; exact h1, ?_⟩
  have := h2.set i v
  rwa [List.set_append_left _ _ hi] at this
theorem setOther (h : Hd T w g cap vs) {a : Addr} (ha : g ≠ a.block) (v : Value) : Hd T (w.setCell a v) g cap vs := by obtain ⟨rest, h1, h2⟩ := h; exact ⟨rest, h1, h2.setOther ha v⟩
theorem vals (h : Hd T w g cap vs) : Vals w (some ⟨g, 0, none⟩) vs := by
  intro _
  exact ⟨g, 0, rfl, h.lt, fun i v hv => by rw [Nat.zero_add]; exact h.cell hv⟩
theorem of_blk (h : Blk T w g vs) : Hd T w g vs.length vs := ⟨[], by simp, by simpa using h⟩
theorem of_owns {v : Value} {B n : Nat} (h : w.ownsRow B T 1 v n vs) (hv : v ≠ .slice none 0 0) : ∃ g cap, v = .slice (some ⟨g, 0, none⟩) vs.length cap ∧ B ≤ g ∧ n = vs.length ∧ Hd T w g cap vs := by
  have hn : n = vs.length := by have := h.1; omega
  subst hn
  rcases h.2 with ⟨h1, _⟩ | ⟨g, cap, cur, e, h1, h2, h3, h4, h5, h6⟩
  · exact absurd h1 hv
  · refine ⟨g, cap, e, h1, rfl, cur.toList.drop vs.length, ?_, ?_⟩
    · simp at h5 ⊢; omega
    · have e2 : vs ++ cur.toList.drop vs.length = cur.toList := by
        have h7 : cur.toList.take vs.length = vs := by simpa using h6
        conv => lhs; lhs; rw [← h7]
        exact List.take_append_drop _ _
      unfold Blk
      rw [e2]
      simpa using h2
theorem owns (h : Hd T w g cap vs) {B : Nat} (hB : B ≤ g) (hc : cap ≤ maxLen) : w.ownsRow B T 1 (.slice (some ⟨g, 0, none⟩) vs.length cap) vs.length vs := by
  obtain ⟨rest, h1, h2⟩ := h
  refine ⟨by simp, .inr ⟨g, cap, (vs ++ rest).toArray, rfl, hB, h2, by omega, hc, by simp; omega, by simp⟩⟩
end Hd
theorem own_empty (w : World) (T : TypeId) : (w.alloc (.cells #[] T)).ownsRow w.heap.size T 1 (.slice (some ⟨w.heap.size, 0, none⟩) 0 0) 0 [] :=
  ⟨rfl, .inr ⟨w.heap.size, 0, #[], rfl, Nat.le_refl _, heap_alloc_new _ _, Nat.le_refl _, by unfold maxLen; omega, rfl, rfl⟩⟩
theorem vals_cells {w : World} {ad : Addr} {vs : List Value} (h : Vals w (some ad) vs) : ∀ (j : Nat) (u : Value), vs[j]? = some u → w.cell? (ad.add j) = some u := by
  intro j u hu
  obtain ⟨g, off, e, _, hc⟩ := h (by have := (List.getElem?_eq_some_iff.1 hu).1; omega)
  injection e with e
  subst e
  have := hc j u hu
  unfold Addr.add
  split
  · rename_i h0; subst h0; exact this
  · exact this
end Go.Proofs.Ythgekjkgfccnaaa

/- What is said of memory: slices that read as numbers, rows of the call's own that hold numbers. -/
namespace Go.Proofs.Ythgekjkgfccnaaa
open Go.RowKit Num

/-- The bases, under names: a walk must not meet such numerals. -/
def B64 : Nat := 18446744073709551616
def B32 : Nat := 4294967296
theorem b64_two : 2 ≤ B64 := by unfold B64; omega
theorem b32_two : 2 ≤ B32 := by unfold B32; omega
theorem b64_pos : 0 < B64 := by unfold B64; omega
theorem b32_pos : 0 < B32 := by unfold B32; omega

/-- The slice at A reads as these numbers; its cells lie in a block that is there. -/
def Nums (k : IntKind) (w : World) (A : Option Addr) (xs : List Nat) : Prop :=
  0 < xs.length → ∃ g off, A = some ⟨g, off, none⟩ ∧ g < w.heap.size ∧ ∀ (i v : Nat), xs[i]? = some v → w.cell? ⟨g, off + i, none⟩ = some (.int k (v : Int))

theorem Nums.nil {k : IntKind} {w : World} {A : Option Addr} : Nums k w A [] := fun h => absurd h (by simp)

theorem Nums.keep {k : IntKind} {w w' : World} {A : Option Addr} {xs : List Nat} (h : Nums k w A xs) (hb : Below w.heap.size w w') : Nums k w' A xs := by
  intro hl
  obtain ⟨g, off, e, hg, hc⟩ := h hl
  exact ⟨g, off, e, Nat.lt_of_lt_of_le hg hb.size, fun i v hv => (hb.cell (p := ⟨g, off + i, none⟩) hg).trans (hc i v hv)⟩

theorem Nums.at_ {k : IntKind} {w : World} {A : Option Addr} {xs : List Nat} (h : Nums k w A xs) {i : Nat} (hi : i < xs.length) :
    ∃ g off v, A = some ⟨g, off, none⟩ ∧ g < w.heap.size ∧ xs[i]? = some v ∧ w.cell? ⟨g, off + i, none⟩ = some (.int k (v : Int)) := by
  obtain ⟨g, off, e, hg, hc⟩ := h (by omega)
  exact ⟨g, off, xs[i], e, hg, List.getElem?_eq_getElem hi, hc _ _ (List.getElem?_eq_getElem hi)⟩

theorem Nums.take {k : IntKind} {w : World} {A : Option Addr} {xs : List Nat} (h : Nums k w A xs) (n : Nat) : Nums k w A (xs.take n) := by
  intro hl
  obtain ⟨g, off, e, hg, hc⟩ := h (by simp at hl; omega)
  refine ⟨g, off, e, hg, fun i v hv => hc i v ?_⟩
  rw [List.getElem?_take] at hv
  split at hv
  · exact hv
  · cases hv

/-- Block g is a row of these numbers, each of kind k; none is frozen. T: the number's type. -/
def Row (k : IntKind) (T : TypeId) (w : World) (g : Nat) (zs : List Nat) : Prop := w.rowIs g T zs.length (fun j => .int k ((zs.getD j 0 : Nat) : Int))

section
variable {k : IntKind} {T : TypeId} {w w' : World} {g : Nat} {zs : List Nat}

theorem Row.cell (h : Row k T w g zs) {i v : Nat} (hv : zs[i]? = some v) : w.cell? ⟨g, i, none⟩ = some (.int k (v : Int)) := by
  have hi : i < zs.length := (List.getElem?_eq_some_iff.1 hv).1
  have := World.rowIs.cell h hi
  rw [this]
  simp [hv]

theorem Row.frozen (h : Row k T w g zs) (i : Nat) : w.frozen? ⟨g, i, none⟩ = false := World.rowIs.frozen h i
theorem Row.lt (h : Row k T w g zs) : g < w.heap.size := World.rowIs.lt h
theorem Row.drew (h : Row k T w g zs) : Row k T w.drew g zs := h
theorem Row.of_block (h : Row k T w g zs) (e : w'.heap[g]? = w.heap[g]?) : Row k T w' g zs := World.rowIs.of_block h e
theorem Row.below {B : Nat} (h : Row k T w g zs) (hb : Below B w w') (hg : g < B) : Row k T w' g zs := h.of_block (hb.block g hg)
theorem Row.grown {row : Option Nat} (h : Row k T w g zs) (hb : w.grownBy w' row) (hg : some g ≠ row) : Row k T w' g zs := h.of_block (hb.block g h.lt hg)
theorem Row.alloc (h : Row k T w g zs) (o : Obj) : Row k T (w.alloc o) g zs := World.rowIs.alloc h o
theorem Row.set (h : Row k T w g zs) (i v : Nat) : Row k T (w.setCell ⟨g, i, none⟩ (.int k (v : Int))) g (zs.set i v) := by
  unfold Row
  rw [List.length_set]
  refine World.rowIs.congr (World.rowIs.set h i _) fun j hj => ?_
  simp only [List.getD_eq_getElem?_getD, List.getElem?_set]
  by_cases e : j = i
  · subst e; simp [hj]
  · rw [if_neg e, if_neg (fun h => e h.symm)]
theorem Row.setOther (h : Row k T w g zs) {a : Addr} (ha : g ≠ a.block) (v : Value) : Row k T (w.setCell a v) g zs := World.rowIs.setOther h ha v
theorem Row.made (w : World) (k : IntKind) (n : Nat) (T : TypeId) : Row k T (w.alloc (.cells (madeCells #[.int k 0] n) T)) w.heap.size (List.replicate n 0) := by
  unfold Row
  rw [List.length_replicate]
  exact World.rowIs.congr (World.rowIs_made w (.int k 0) n T) fun j hj => by simp [hj]

/-- A part of a row reads as numbers. -/
theorem Row.nums (h : Row k T w g zs) (off n : Nat) : Nums k w (some ⟨g, off, none⟩) ((zs.drop off).take n) := by
  intro _
  refine ⟨g, off, rfl, h.lt, fun i v hv => h.cell ?_⟩
  rw [List.getElem?_take] at hv
  split at hv
  · rw [List.getElem?_drop] at hv; exact hv
  · cases hv
theorem Row.nums0 (h : Row k T w g zs) (n : Nat) : Nums k w (some ⟨g, 0, none⟩) (zs.take n) := by
  have := h.nums 0 n
  rwa [List.drop_zero] at this
end

/-- The slice value v reads in w as the digits of n (kind k, base b); nothing is said of who owns it. -/
def IsNum (k : IntKind) (b : Nat) (w : World) (v : Value) (n : Nat) : Prop :=
  ∃ A c, v = .slice A (dig b n).length c ∧ (dig b n).length ≤ c ∧ Nums k w A (dig b n)

theorem IsNum.keep {k : IntKind} {b : Nat} {w w' : World} {v : Value} {n : Nat} (h : IsNum k b w v n) (hb : Below w.heap.size w w') : IsNum k b w' v n := by
  obtain ⟨A, c, e, hc, hn⟩ := h
  exact ⟨A, c, e, hc, hn.keep hb⟩

/-- .. and it lies at the head of a row of its own, in a block from B on. -/
def OwnNum (k : IntKind) (T : TypeId) (b : Nat) (B : Nat) (w : World) (v : Value) (n : Nat) : Prop :=
  ∃ g c zs, v = .slice (some ⟨g, 0, none⟩) (dig b n).length c ∧ (dig b n).length ≤ c ∧ c = zs.length ∧ B ≤ g ∧ Row k T w g zs ∧ Low b zs ∧ zs.take (dig b n).length = dig b n

theorem OwnNum.is {k : IntKind} {T : TypeId} {b B : Nat} {w : World} {v : Value} {n : Nat} (h : OwnNum k T b B w v n) : IsNum k b w v n := by
  obtain ⟨g, c, zs, e, hc, _, _, hr, _, ht⟩ := h
  refine ⟨_, _, e, hc, ?_⟩
  have := hr.nums0 (dig b n).length
  rwa [ht] at this

/-- Words of 64 bits; limbs of 32 bits. -/
abbrev W64 (w : World) (v : Value) (n : Nat) : Prop := IsNum .u64 B64 w v n
abbrev N32 (w : World) (v : Value) (n : Nat) : Prop := IsNum .u32 B32 w v n
abbrev OwnW (B : Nat) (w : World) (v : Value) (n : Nat) : Prop := OwnNum .u64 55 B64 B w v n

theorem info55 : (Try.prog.info? 55).map (fun i => (i.zero, i.size, i.bytes)) = some (some (.int .u64 0), 1, 8) := by kernel_rfl
theorem info101 : (Try.prog.info? 101).map (fun i => (i.zero, i.size, i.bytes)) = some (some (.int .u32 0), 1, 4) := by kernel_rfl
/-- make of words. -/
theorem make64 (n : Nat) (h : n ≤ 1000000000000) (w : World) : (Instr.makeSlice 69 (.int .i64 (n : Int)) (.int .i64 (n : Int))).run Try.prog w = .ok (.slice (some ⟨w.heap.size, 0, none⟩) n n) (w.alloc (.cells (madeCells #[.int .u64 0] n) 55)) :=
  run_make_row' 69 55 (.int .u64 0) 8 Try.underlying69 info55 rfl .i64 .i64 n (by omega) (by omega) w

theorem ret_i {k : IntKind} {a b : Int} (h : a = b) : Ending.returned (.int k a) = .returned (.int k b) := by rw [h]
theorem ret_b {a b : Bool} (h : a = b) : Ending.returned (.bool a) = .returned (.bool b) := by rw [h]

/-- A quiet callee behind draws. -/
theorem quiet_l {P : Program} {f : FuncId} {args : Array Value} {w : World} {n : Nat} {v : Value}
    (h : Calls P f args (w.drewN n) fun e w' => e = .returned v ∧ w.drewN n = w') : Calls P f args (w.drewN n) fun e w'' => e = .returned v ∧ ∃ m, w'' = w.drewN m :=
  h.mono fun _ _ ⟨he, hm⟩ => ⟨he, n, hm.symm⟩
theorem quiet_a {P : Program} {f : FuncId} {args : Array Value} {w : World} {a n : Nat} {v : Value}
    (h : Calls P f args (w.drewN (a + n)) fun e w' => e = .returned v ∧ w.drewN (a + n) = w') :
    Calls P f args (w.drewN (a + n)) fun e w'' => e = .returned v ∧ ∃ m, w'' = w.drewN (a + m) :=
  h.mono fun _ _ ⟨he, hm⟩ => ⟨he, n, hm.symm⟩

end Go.Proofs.Ythgekjkgfccnaaa

namespace Go.Proofs.Ythgekjkgfccnaaa
open Go.RowKit Num

theorem m_mask (a : Nat) (ha : a < 18446744073709551616) : bits .and .u64 (a : Int) 4294967295 = ((a % 4294967296 : Nat) : Int) := by
  have h := bits_and_u64_nat a 4294967295 ha (by omega)
  rw [show a &&& 4294967295 = a % 4294967296 from Nat.and_two_pow_sub_one_eq_mod a 32] at h
  exact h
theorem m_div (a : Nat) : (a : Int) / 4294967296 = ((a / 4294967296 : Nat) : Int) := by omega
theorem m_mul (a b : Nat) : (a : Int) * (b : Int) = ((a * b : Nat) : Int) := (Int.natCast_mul a b).symm
theorem m_add (a b : Nat) : (a : Int) + (b : Int) = ((a + b : Nat) : Int) := (Int.natCast_add a b).symm
theorem m_in (a : Nat) (ha : a < 18446744073709551616) : IntKind.u64.wrap (a : Int) = (a : Int) := by rw [IntKind.wrap_u64]; omega
theorem m_wrap (a : Nat) : IntKind.u64.wrap (a : Int) = ((a % 18446744073709551616 : Nat) : Int) := by rw [IntKind.wrap_u64]; omega

set_option maxHeartbeats 1000000 in
set_option maxRecDepth 100000 in
theorem mul64_raw (x y : Nat) (hx : x < B64) (hy : y < B64) (w : World) :
    Calls Try.prog 87 #[.int .u64 (x : Int), .int .u64 (y : Int)] w fun e w' => e = .returned (.tuple #[.int .u64 ((x * y / 18446744073709551616 : Nat) : Int), .int .u64 ((x * y % 18446744073709551616 : Nat) : Int)]) ∧ w = w' := by
  obtain ⟨h1, h2, h3, h4⟩ := Lib.mul64_hi x y hx hy
  have H1 := Lib.hid h1
  have H2 := Lib.hid h2
  have H3 := Lib.hid h3
  have H4 := Lib.hid h4
  clear h1 h2 h3 h4
  go_enter Try.func87, Try.ntmps87
  go_wp2
  have a1 := H1.out
  have a2 := H2.out
  have a3 := H3.out
  have p1 := Lib.half_mul_le (a := x / 4294967296) (b := y / 4294967296) (by unfold B64 at hx; omega) (by unfold B64 at hy; omega)
  have p2 := Lib.half_mul_le (a := x / 4294967296) (b := y % 4294967296) (by unfold B64 at hx; omega) (by omega)
  have p3 := Lib.half_mul_le (a := x % 4294967296) (b := y / 4294967296) (by omega) (by unfold B64 at hy; omega)
  simp only [m_mask x hx, m_mask y hy, m_div, m_mul, m_add, m_in _ a1, m_in (x / 4294967296 * (y % 4294967296)) (by omega), m_in _ a2, m_mask _ a2, m_in (x % 4294967296 * (y / 4294967296)) (by omega), m_in _ a3,
    m_in (x / 4294967296 * (y / 4294967296)) (by omega)]
  have a4 := H4.out
  have hxy : x * y / 18446744073709551616 < 18446744073709551616 := by
    rw [Nat.div_lt_iff_lt_mul (by omega)]
    exact Nat.mul_lt_mul_of_lt_of_lt hx hy
  rw [m_in (x / 4294967296 * (y / 4294967296) + (x / 4294967296 * (y % 4294967296) + x % 4294967296 * (y % 4294967296) / 4294967296) / 4294967296) (by omega), m_add, m_in _ (by omega), m_wrap, a4]
  go_ret2
  exact ⟨rfl, rfl⟩
/-- A product of two words: under names. -/
theorem mul64_ex (x y : Nat) (hx : x < B64) (hy : y < B64) : ∃ hi lo : Nat,
    (∀ w, Calls Try.prog 87 #[.int .u64 (x : Int), .int .u64 (y : Int)] w fun e w' => e = .returned (.tuple #[.int .u64 (hi : Int), .int .u64 (lo : Int)]) ∧ w = w') ∧
    lo + B64 * hi = x * y ∧ lo < B64 ∧ hi + 1 < B64 := by
  refine ⟨x * y / B64, x * y % B64, fun w => mul64_raw x y hx hy w, Nat.mod_add_div _ _, Nat.mod_lt _ b64_pos, ?_⟩
  have h1 : x * y ≤ 18446744073709551615 * 18446744073709551615 := Nat.mul_le_mul (by unfold B64 at hx; omega) (by unfold B64 at hy; omega)
  unfold B64
  omega
end Go.Proofs.Ythgekjkgfccnaaa

namespace Go.Proofs.Ythgekjkgfccnaaa
open Go.RowKit Num
theorem mul64_1 (n : Nat) (hn : n ≤ 1000000000000) (w : World) : Calls Try.prog 87 #[.int .u64 1, .int .u64 (n : Int)] w fun e w' => e = .returned (.tuple #[.int .u64 0, .int .u64 (n : Int)]) ∧ w = w' := by
  obtain ⟨hi, lo, hc, h1, h2, h3⟩ := mul64_ex 1 n (by unfold B64; omega) (by unfold B64; omega)
  have h4 : hi = 0 := by unfold B64 at h1; omega
  subst h4
  have h5 : lo = n := by omega
  subst h5
  exact hc w
set_option maxRecDepth 100000 in
theorem mul64_one (n : Nat) (hn : n ≤ 1000000000000) (w : World) : Calls Try.prog 64 #[.int .u64 1, .int .u64 (n : Int)] w fun e w' => e = .returned (.tuple #[.int .u64 0, .int .u64 (n : Int)]) ∧ w = w' := by
  have H := fun w1 => Lib.hid (mul64_1 n hn w1)
  go_enter Try.func64, Try.ntmps64
  go_wp2_with (go_at_call 87; refine ((H _).out).mono ?_; rintro e w1 ⟨rfl, rfl⟩)
  go_ret2
  exact ⟨rfl, rfl⟩
end Go.Proofs.Ythgekjkgfccnaaa

namespace Go.Proofs.Ythgekjkgfccnaaa
open Go.RowKit

/-- m copies of some cells, and zeros behind. -/
def repL (cells : List Value) (z : Value) (k m n : Nat) : List Value := (List.replicate m cells).flatten ++ List.replicate ((n - m) * k) z
theorem flat_rep_len (cells : List Value) (m : Nat) : (List.replicate m cells).flatten.length = m * cells.length := by simp
theorem repL_len {cells : List Value} {z : Value} {k m n : Nat} (hk : cells.length = k) (hm : m ≤ n) : (repL cells z k m n).length = n * k := by
  simp only [repL, List.length_append, flat_rep_len, List.length_replicate, hk]
  rw [← Nat.add_mul, Nat.add_sub_cancel' hm]
theorem repL_zero (cells : List Value) (z : Value) (k n : Nat) : repL cells z k 0 n = List.replicate (n * k) z := by simp [repL]
theorem repL_full (cells : List Value) (z : Value) (k n : Nat) : repL cells z k n n = (List.replicate n cells).flatten := by simp [repL]
theorem repL_take {cells : List Value} {z : Value} {k m n j : Nat} (hk : cells.length = k) (hj : j ≤ m) : (repL cells z k m n).take (j * k) = (List.replicate j cells).flatten := by
  unfold repL
  rw [List.take_append_of_le_length (by rw [flat_rep_len, hk]; exact Nat.mul_le_mul_right _ hj)]
  have : List.replicate m cells = List.replicate j cells ++ List.replicate (m - j) cells := by rw [← List.replicate_append_replicate.symm]; congr 1; omega
  rw [this, List.flatten_append, List.take_left' (by rw [flat_rep_len, hk])]
theorem repL_step {cells : List Value} {z : Value} {k m n j : Nat} (hk : cells.length = k) (_hj : m + j ≤ n) :
    (repL cells z k m n).take (m * k) ++ (List.replicate j cells).flatten ++ (repL cells z k m n).drop (m * k + (List.replicate j cells).flatten.length) = repL cells z k (m + j) n := by
  rw [repL_take hk (Nat.le_refl _), flat_rep_len, hk]
  unfold repL
  rw [List.drop_append, List.drop_of_length_le (by rw [flat_rep_len, hk]; omega), flat_rep_len, hk]
  rw [show m * k + j * k - m * k = j * k by omega, List.drop_replicate, ← Nat.sub_mul, show n - m - j = n - (m + j) by omega, ← List.replicate_append_replicate, List.flatten_append]
  simp
def RepPost (T : TypeId) (w : World) (n : Nat) (cells : List Value) (e : Ending) (w' : World) : Prop :=
  ∃ g, e = .returned (.slice (some ⟨g, 0, none⟩) n n) ∧ w.heap.size ≤ g ∧ Blk T w' g (List.replicate n cells).flatten ∧ Below w.heap.size w w'

theorem infoI : (Try.prog.info? 3).map (fun i => (i.zero, i.size, i.bytes)) = some (some (.int .i64 0), 1, 8) := by kernel_rfl
theorem infoP : (Try.prog.info? 87).map (fun i => (i.zero, i.size, i.bytes)) = some (some (.agg #[.int .i64 0, .int .i64 0]), 2, 16) := by kernel_rfl
theorem sizeI : (Try.prog.info? 3).map (·.size) = some 1 := by kernel_rfl
theorem sizeP : (Try.prog.info? 87).map (·.size) = some 2 := by kernel_rfl

set_option maxHeartbeats 2000000 in
set_option maxRecDepth 100000 in
theorem repeatI_any (gx ox cx n : Nat) (x : Int) (w : World) (hx : Ints w (some ⟨gx, ox, none⟩) [x]) (h1 : 1 ≤ n) (hn : n ≤ 1048576) :
    Calls Try.prog 45 #[.slice (some ⟨gx, ox, none⟩) 1 cx, .int .i64 (n : Int)] w (RepPost 3 w n (is [x])) := by
  have hmk := fun w1 => run_make_same (P := Try.prog) 30 3 (.int .i64 0) (.int .i64 0) 1 8 Try.underlying30 infoI rfl (by omega) n (n) (by omega) (by omega) (by omega) w1
  have hml := fun w1 => mul64_one n (by omega) w1
  have hb0 : Blk 3 (w.alloc (.cells (Array.replicate (n) (.int .i64 0)) 3)) w.heap.size (repL (is [x]) (.int .i64 0) 1 0 n) := by
    rw [repL_zero]
    have := Blk.new w 3 (List.replicate (n * 1) (.int .i64 0))
    simpa using this
  have hbA := below_new w (.cells (Array.replicate (n) (.int .i64 0)) 3)
  have hx1 := Vals.alloc hx (.cells (Array.replicate (n) (.int .i64 0)) 3)
  have hst : (repL (is [x]) (.int .i64 0) 1 0 n).take 0 ++ is [x] ++ (repL (is [x]) (.int .i64 0) 1 0 n).drop (0 + (is [x]).length) = repL (is [x]) (.int .i64 0) 1 1 n := by
    have := repL_step (cells := is [x]) (z := .int .i64 0) (k := 1) (m := 0) (j := 1) (n := n) rfl (by omega)
    simpa using this
  have hfit0 : 0 + (is [x]).length ≤ (repL (is [x]) (.int .i64 0) 1 0 n).length := by
    rw [repL_len (k := 1) rfl (Nat.zero_le n)]
    show _ ≤ _
    have : (is [x]).length = 1 := rfl
    omega
  have  HX := Lib.hid hx1
  have HML := Lib.hid hml
  have HST := Lib.hid hst
  clear hml hx hx1 hst
  have d1 : decide ((9223372036854775807 : Int) < (n : Int)) = false := by simp; omega
  have d2 : decide ((n : Int) < 0) = false := by simp
  have cv : IntKind.u64.wrap (n : Int) = (n : Int) := by rw [IntKind.wrap_u64]; omega
  have cv2 : IntKind.i64.wrap (n : Int) = (n : Int) := wrapI (by omega) (by omega)
  go_enter Try.func45, Try.ntmps45
  go_wp2_with (first
    | (go_at_call 64; refine (HML.out _).mono ?_; rintro e w1 ⟨rfl, rfl⟩)
    | (refine wpList_copyN rfl (.tmp 31) (.tmp 32) 30 30 rfl 3 Try.underlying30 1 sizeI w.heap.size 0 n n gx ox 1 cx 1 rfl rfl _ 3 hb0 (is [x]) (Nat.min_eq_left h1).symm rfl HX.out hfit0 (is_one _) ?_
       intro w2 hb2 hg2
       have hbB := hbA.grown hg2 hbA.size (fun k hk => by injection hk with hk; omega)))
  rw [HST.out] at hb2
  clear hmk
  go_loopw [8] (fun t wr => ∃ m : Nat, 1 ≤ m ∧ m ≤ n ∧ t = .int .i64 (m : Int) ∧ Blk 3 wr w.heap.size (repL (is [x]) (.int .i64 0) 1 m n) ∧ Below w.heap.size w wr) (fun t _ => n - (intOf t).toNat)
  case atStart => exact ⟨1, Nat.le_refl _, h1, rfl, hb2, hbB⟩
  case round =>
    clear hb2 hb0 hbA hbB hg2
    obtain ⟨m, hm1, hm, rfl, hb, hbl⟩ := hrel
    by_cases hlt : m < n
    · obtain ⟨j, hj⟩ : ∃ j, j = Nat.min m (n - m) := ⟨_, rfl⟩
      have hj1 : m + j ≤ n := by
        have h2 : j ≤ n - m := by rw [hj]; exact Nat.min_le_right _ _
        omega
      have hj2 : j ≤ m := by rw [hj]; exact Nat.min_le_left _ _
      have hj3 : 1 ≤ j := by rw [hj]; exact Nat.le_min.2 ⟨hm1, Nat.sub_pos_of_lt hlt⟩
      have hs : IntKind.i64.wrap ((m : Int) + (j : Int)) = (m : Int) + (j : Int) := wrapI (by omega) (by omega)
      have hne : ¬ n = m := by omega
      have hv := hb.drew.vals 0 (j * 1)
      rw [List.drop_zero, repL_take (by rfl) hj2] at hv
      have hst := repL_step (cells := is [x]) (z := .int .i64 0) (k := 1) rfl hj1
      have hln : (List.replicate j (is [x])).flatten.length = j * 1 := by rw [flat_rep_len]; rfl
      have hone : ∀ v ∈ (List.replicate j (is [x])).flatten, v.oneCell' = true := by
        intro v hv
        obtain ⟨l, hl, hv⟩ := List.mem_flatten.1 hv
        rw [List.eq_of_mem_replicate hl] at hv
        exact is_one _ v hv
      have hfit : m * 1 + (List.replicate j (is [x])).flatten.length ≤ (repL (is [x]) (.int .i64 0) 1 m n).length := by rw [repL_len (k := 1) rfl hm, hln, ← Nat.add_mul]; exact Nat.mul_le_mul_right _ hj1
      have HJ := Lib.hid hj
      have HV := Lib.hid hv
      have HST := Lib.hid hst
      have HLN := Lib.hid hln
      have HO := Lib.hid hone
      clear hj hv hst hln hone
      go_wp2_with (fail)
      go_region_law (refine step_copyN rfl (.tmp 41) (.tmp 44) 30 30 rfl 3 Try.underlying30 1 sizeI w.heap.size (m * 1) (n - m) (n - m) w.heap.size 0 m n j (by simp [Act.eval, Act.put]) (by simp [Act.eval, Act.put]) _ 3 hb.drew _ HJ.out HLN.out HV.out hfit HO.out ?_
                     intro w2 hb2 hg2)
      rw [HST.out] at hb2
      go_simp
      go_roundw
      case rel => exact ⟨.int .i64 ((m : Int) + (j : Int)), _, _, _, _, _, _, _, _, _, _, _, _, _, ⟨m + j, by omega, hj1, by go_num, hb2, hbl.drew.grown hg2 hbl.size (fun k hk => by injection hk with hk; omega)⟩, rfl⟩
      case measure => simp [intOf]; omega
    · obtain rfl : m = n := by omega
      go_wp2
      go_ret
      rw [repL_full] at hb
      exact ⟨_, rfl, Nat.le_refl _, hb, hbl⟩
set_option maxHeartbeats 2000000 in
set_option maxRecDepth 100000 in
theorem repeatP_any (gx ox cx n : Nat) (x y : Int) (w : World) (hx : Ints w (some ⟨gx, ox, none⟩) [x, y]) (h1 : 1 ≤ n) (hn : n ≤ 1048576) :
    Calls Try.prog 61 #[.slice (some ⟨gx, ox, none⟩) 1 cx, .int .i64 (n : Int)] w (RepPost 87 w n (is [x, y])) := by
  have hmk := fun w1 => run_make_same (P := Try.prog) 84 87 (.agg #[.int .i64 0, .int .i64 0]) (.int .i64 0) 2 16 Try.underlying84 infoP rfl (by omega) n (n * 2) (by omega) (by omega) (by omega) w1
  have hml := fun w1 => mul64_one n (by omega) w1
  have hb0 : Blk 87 (w.alloc (.cells (Array.replicate (n * 2) (.int .i64 0)) 87)) w.heap.size (repL (is [x, y]) (.int .i64 0) 2 0 n) := by
    rw [repL_zero]
    have := Blk.new w 87 (List.replicate (n * 2) (.int .i64 0))
    simpa using this
  have hbA := below_new w (.cells (Array.replicate (n * 2) (.int .i64 0)) 87)
  have hx1 := Vals.alloc hx (.cells (Array.replicate (n * 2) (.int .i64 0)) 87)
  have hst : (repL (is [x, y]) (.int .i64 0) 2 0 n).take 0 ++ is [x, y] ++ (repL (is [x, y]) (.int .i64 0) 2 0 n).drop (0 + (is [x, y]).length) = repL (is [x, y]) (.int .i64 0) 2 1 n := by
    have := repL_step (cells := is [x, y]) (z := .int .i64 0) (k := 2) (m := 0) (j := 1) (n := n) rfl (by omega)
    simpa using this
  have hfit0 : 0 + (is [x, y]).length ≤ (repL (is [x, y]) (.int .i64 0) 2 0 n).length := by
    rw [repL_len (k := 2) rfl (Nat.zero_le n)]
    show _ ≤ _
    have : (is [x, y]).length = 2 := rfl
    omega
  have  HX := Lib.hid hx1
  have HML := Lib.hid hml
  have HST := Lib.hid hst
  clear hml hx hx1 hst
  have d1 : decide ((9223372036854775807 : Int) < (n : Int)) = false := by simp; omega
  have d2 : decide ((n : Int) < 0) = false := by simp
  have cv : IntKind.u64.wrap (n : Int) = (n : Int) := by rw [IntKind.wrap_u64]; omega
  have cv2 : IntKind.i64.wrap (n : Int) = (n : Int) := wrapI (by omega) (by omega)
  go_enter Try.func61, Try.ntmps61
  go_wp2_with (first
    | (go_at_call 64; refine (HML.out _).mono ?_; rintro e w1 ⟨rfl, rfl⟩)
    | (refine wpList_copyN rfl (.tmp 31) (.tmp 32) 84 84 rfl 87 Try.underlying84 2 sizeP w.heap.size 0 n n gx ox 1 cx 1 rfl rfl _ 87 hb0 (is [x, y]) (Nat.min_eq_left h1).symm rfl HX.out hfit0 (is_one _) ?_
       intro w2 hb2 hg2
       have hbB := hbA.grown hg2 hbA.size (fun k hk => by injection hk with hk; omega)))
  rw [HST.out] at hb2
  clear hmk
  go_loopw [8] (fun t wr => ∃ m : Nat, 1 ≤ m ∧ m ≤ n ∧ t = .int .i64 (m : Int) ∧ Blk 87 wr w.heap.size (repL (is [x, y]) (.int .i64 0) 2 m n) ∧ Below w.heap.size w wr) (fun t _ => n - (intOf t).toNat)
  case atStart => exact ⟨1, Nat.le_refl _, h1, rfl, hb2, hbB⟩
  case round =>
    clear hb2 hb0 hbA hbB hg2
    obtain ⟨m, hm1, hm, rfl, hb, hbl⟩ := hrel
    by_cases hlt : m < n
    · obtain ⟨j, hj⟩ : ∃ j, j = Nat.min m (n - m) := ⟨_, rfl⟩
      have hj1 : m + j ≤ n := by
        have h2 : j ≤ n - m := by rw [hj]; exact Nat.min_le_right _ _
        omega
      have hj2 : j ≤ m := by rw [hj]; exact Nat.min_le_left _ _
      have hj3 : 1 ≤ j := by rw [hj]; exact Nat.le_min.2 ⟨hm1, Nat.sub_pos_of_lt hlt⟩
      have hs : IntKind.i64.wrap ((m : Int) + (j : Int)) = (m : Int) + (j : Int) := wrapI (by omega) (by omega)
      have hne : ¬ n = m := by omega
      have hv := hb.drew.vals 0 (j * 2)
      rw [List.drop_zero, repL_take (by rfl) hj2] at hv
      have hst := repL_step (cells := is [x, y]) (z := .int .i64 0) (k := 2) rfl hj1
      have hln : (List.replicate j (is [x, y])).flatten.length = j * 2 := by rw [flat_rep_len]; rfl
      have hone : ∀ v ∈ (List.replicate j (is [x, y])).flatten, v.oneCell' = true := by
        intro v hv
        obtain ⟨l, hl, hv⟩ := List.mem_flatten.1 hv
        rw [List.eq_of_mem_replicate hl] at hv
        exact is_one _ v hv
      have hfit : m * 2 + (List.replicate j (is [x, y])).flatten.length ≤ (repL (is [x, y]) (.int .i64 0) 2 m n).length := by rw [repL_len (k := 2) rfl hm, hln, ← Nat.add_mul]; exact Nat.mul_le_mul_right _ hj1
      have HJ := Lib.hid hj
      have HV := Lib.hid hv
      have HST := Lib.hid hst
      have HLN := Lib.hid hln
      have HO := Lib.hid hone
      clear hj hv hst hln hone
      go_wp2_with (fail)
      go_region_law (refine step_copyN rfl (.tmp 41) (.tmp 44) 84 84 rfl 87 Try.underlying84 2 sizeP w.heap.size (m * 2) (n - m) (n - m) w.heap.size 0 m n j (by simp [Act.eval, Act.put]) (by simp [Act.eval, Act.put]) _ 87 hb.drew _ HJ.out HLN.out HV.out hfit HO.out ?_
                     intro w2 hb2 hg2)
      rw [HST.out] at hb2
      go_simp
      go_roundw
      case rel => exact ⟨.int .i64 ((m : Int) + (j : Int)), _, _, _, _, _, _, _, _, _, _, _, _, _, ⟨m + j, by omega, hj1, by go_num, hb2, hbl.drew.grown hg2 hbl.size (fun k hk => by injection hk with hk; omega)⟩, rfl⟩
      case measure => simp [intOf]; omega
    · obtain rfl : m = n := by omega
      go_wp2
      go_ret
      rw [repL_full] at hb
      exact ⟨_, rfl, Nat.le_refl _, hb, hbl⟩
end Go.Proofs.Ythgekjkgfccnaaa

namespace Go.Proofs.Ythgekjkgfccnaaa
open Go.RowKit
/-- A row of the call's own, whose head are these ints. -/
def OwnI (w : World) (l : List Int) (e : Ending) (w' : World) : Prop := ∃ g cap, e = .returned (.slice (some ⟨g, 0, none⟩) l.length cap) ∧ w.heap.size ≤ g ∧ Hd 3 w' g cap (is l) ∧ Below w.heap.size w w'
set_option maxHeartbeats 1000000 in
set_option maxRecDepth 100000 in
theorem clone_any (ad : Addr) (c L : Nat) (l : List Int) (w : World) (hA : Ints w (some ad) l) (hL : L = l.length) (hl : L ≤ 1000000000) :
    Calls Try.prog 65 #[.slice (some ad) L c] w (OwnI w l) := by
  have hA1 := hA.keep (below_new w (.cells #[] 3))
  have ho := own_empty w 3
  have hbA := below_new w (.cells #[] 3)
  obtain ⟨i0, hi, hz0, hz1, hz2⟩ := info_parts infoI
  have hnil := fun w1 => Lib.run_eql_slice_nil (P := Try.prog) w1 30 3 (some ad) L c 0 0 Try.underlying30
  simp only [Option.isNone_some] at hnil
  have HL := Lib.hid hL
  have HA := Lib.hid hA1
  have HO := Lib.hid ho
  clear hA hA1 ho hL
  go_enter Try.func65, Try.ntmps65
  go_wp2_with (at_builtin
               refine wpList_append_own _ rfl _ _ 30 rfl w.heap.size 3 i0 (.int .i64 0) 1 8 Try.underlying30 hi hz0 hz1 hz2 rfl (by decide) _ _ _ rfl HO.out ad L _ (is l) rfl ?c1 (vals_cells HA.out) (is_one _) ?c4 ?c5 (by simp) ?_)
  case c1 => rw [is_len, HL.out]; omega
  case c4 => unfold maxLen; omega
  case c5 => omega
  intro v' w1 hown hgr hne
  have hb1 := hbA.grown hgr hbA.size (by simp [Value.ownBlock])
  go_wp2
  go_ret
  have hv : v' ≠ .slice none 0 0 := by simpa using hne
  obtain ⟨g, cap, he, h1, _, h2⟩ := Hd.of_owns hown hv
  rw [is_len] at he
  subst he
  exact ⟨g, cap, rfl, h1, h2, hb1⟩
end Go.Proofs.Ythgekjkgfccnaaa

/- Plain: how the coils are found (lists and numbers only). -/
namespace Go.Proofs.Ythgekjkgfccnaaa

/-- A piece goes into the first coil from there on that has room. -/
def fitF (piece : Int) : List Int → Nat → Int → Nat × Int
  | [], c, u => (c, u + piece)
  | r :: rs, c, u => if r < u + piece then fitF piece rs (c + 1) 0 else (c, u + piece)
def addF (rooms : List Int) (p : Nat × Int) (piece : Int) : Nat × Int := fitF piece (rooms.drop p.1) p.1 p.2
def befF (p q : Nat × Int) : Bool := decide (p.1 < q.1) || (decide (p.1 = q.1) && decide (p.2 < q.2))
def stepF (pieces rooms : List Int) (set : Nat) (t : List (Nat × Int)) (i : Nat) : List (Nat × Int) :=
  if set ||| 1 <<< i = set then t else
    if befF (addF rooms (t.getD set (0, 0)) (pieces.getD i 0)) (t.getD (set ||| 1 <<< i) (0, 0)) then t.set (set ||| 1 <<< i) (addF rooms (t.getD set (0, 0)) (pieces.getD i 0)) else t
def innF (pieces rooms : List Int) (set : Nat) (t : List (Nat × Int)) (k : Nat) : List (Nat × Int) := (List.range k).foldl (stepF pieces rooms set) t
def outF (pieces rooms : List Int) (t : List (Nat × Int)) (k : Nat) : List (Nat × Int) := (List.range k).foldl (fun t set => innF pieces rooms set t pieces.length) t
def tabF (pieces rooms : List Int) : List (Nat × Int) := (List.replicate (2 ^ pieces.length) (rooms.length, 0)).set 0 (0, 0)
def lastF (pieces rooms : List Int) : Nat := ((outF pieces rooms (tabF pieces rooms) (2 ^ pieces.length)).getD (2 ^ pieces.length - 1) (0, 0)).1
def canF (k : Nat) (piece : Int) (others rooms : List Int) : Bool := decide (piece ≤ rooms.getD k 0) && decide (lastF others (rooms.set k (rooms.getD k 0 - piece)) < rooms.length)
/-- The numbers that the search finds, piece by piece. -/
def Greedy : List Int → List Int → List Nat → Prop
  | [], _, [] => True
  | p :: ps, rooms, k :: ks => (k < rooms.length ∧ canF k p ps rooms = true ∧ ∀ j, j < k → canF j p ps rooms = false) ∧ Greedy ps (rooms.set k (rooms.getD k 0 - p)) ks
  | _, _, _ => False
def greedyB : List Int → List Int → List Nat → Bool
  | [], _, [] => true
  | p :: ps, rooms, k :: ks => (decide (k < rooms.length) && (canF k p ps rooms && (List.range k).all fun j => !canF j p ps rooms)) && greedyB ps (rooms.set k (rooms.getD k 0 - p)) ks
  | _, _, _ => false
theorem greedy_of : ∀ {ps rooms : List Int} {ks : List Nat}, greedyB ps rooms ks = true → Greedy ps rooms ks
  | [], _, [], _ => trivial
  | [], _, _ :: _, h => by simp [greedyB] at h
  | _ :: _, _, [], h => by simp [greedyB] at h
  | p :: ps, rooms, k :: ks, h => by
    simp only [greedyB, Bool.and_eq_true, decide_eq_true_eq, List.all_eq_true, List.mem_range, Bool.not_eq_true'] at h
    obtain ⟨⟨h1, h2, h3⟩, h4⟩ := h
    exact ⟨⟨h1, h2, h3⟩, greedy_of h4⟩

theorem innF_zero (pieces rooms : List Int) (set : Nat) (t : List (Nat × Int)) : innF pieces rooms set t 0 = t := rfl
theorem innF_succ (pieces rooms : List Int) (set : Nat) (t : List (Nat × Int)) (k : Nat) : innF pieces rooms set t (k + 1) = stepF pieces rooms set (innF pieces rooms set t k) k := by
  simp [innF, List.range_succ]
theorem outF_zero (pieces rooms : List Int) (t : List (Nat × Int)) : outF pieces rooms t 0 = t := rfl
theorem outF_succ (pieces rooms : List Int) (t : List (Nat × Int)) (k : Nat) : outF pieces rooms t (k + 1) = innF pieces rooms k (outF pieces rooms t k) pieces.length := by
  simp [outF, List.range_succ]

/-- Places that are in range. -/
structure PlacesOk (n K : Nat) (t : List (Nat × Int)) : Prop where
  len : t.length = n
  ok : ∀ e ∈ t, e.1 ≤ K ∧ 0 ≤ e.2 ∧ e.2 ≤ 1000000000
def RoomsOk (rooms : List Int) : Prop := ∀ r ∈ rooms, 0 ≤ r ∧ r ≤ 1000000000
def PiecesOk (pieces : List Int) : Prop := ∀ p ∈ pieces, 1 ≤ p ∧ p ≤ 1000000000

theorem PlacesOk.getD {n len : Nat} {t : List (Nat × Int)} (h : PlacesOk n len t) (i : Nat) : (t.getD i (0, 0)).1 ≤ len ∧ 0 ≤ (t.getD i (0, 0)).2 ∧ (t.getD i (0, 0)).2 ≤ 1000000000 := by
  by_cases hi : i < t.length
  · have := h.ok t[i] (List.getElem_mem hi)
    simpa [hi] using this
  · simp [List.getElem?_eq_none (Nat.le_of_not_lt hi)]
theorem fitF_ok (piece : Int) (hp : 1 ≤ piece ∧ piece ≤ 1000000000) : ∀ (rs : List Int) (c : Nat) (u : Int), RoomsOk rs → 0 ≤ u → u ≤ 1000000000 →
    (fitF piece rs c u).1 ≤ c + rs.length ∧ c ≤ (fitF piece rs c u).1 ∧ 0 ≤ (fitF piece rs c u).2 ∧ (fitF piece rs c u).2 ≤ 2000000000 ∧ ((fitF piece rs c u).1 < c + rs.length → (fitF piece rs c u).2 ≤ 1000000000)
  | [], c, u, _, h0, h1 => by simp only [fitF, List.length_nil]; omega
  | r :: rs, c, u, hr, h0, h1 => by
    have h := hr r (by simp)
    simp only [fitF, List.length_cons]
    split
    · have := fitF_ok piece hp rs (c + 1) 0 (fun x hx => hr x (by simp [hx])) (by omega) (by omega)
      omega
    · simp only
      omega
theorem addF_ok {rooms : List Int} {p : Nat × Int} {piece : Int} (hp : 1 ≤ piece ∧ piece ≤ 1000000000) (hr : RoomsOk rooms) (h1 : p.1 ≤ rooms.length) (h2 : 0 ≤ p.2) (h3 : p.2 ≤ 1000000000) :
    (addF rooms p piece).1 ≤ rooms.length ∧ 0 ≤ (addF rooms p piece).2 ∧ (addF rooms p piece).2 ≤ 2000000000 ∧ ((addF rooms p piece).1 < rooms.length → (addF rooms p piece).2 ≤ 1000000000) := by
  have := fitF_ok piece hp (rooms.drop p.1) p.1 p.2 (fun x hx => hr x (List.mem_of_mem_drop hx)) h2 h3
  rw [List.length_drop] at this
  unfold addF
  omega
theorem stepF_ok {pieces rooms : List Int} {n set i : Nat} {t : List (Nat × Int)} (hp : PiecesOk pieces) (hr : RoomsOk rooms) (hi : i < pieces.length) (h : PlacesOk n rooms.length t) : PlacesOk n rooms.length (stepF pieces rooms set t i) := by
  unfold stepF
  split
  · exact h
  · split
    · rename_i hb
      refine ⟨by rw [List.length_set]; exact h.len, fun e he => ?_⟩
      rcases List.mem_or_eq_of_mem_set he with he | he
      · exact h.ok e he
      · subst he
        have hs := h.getD set
        have hm := h.getD (set ||| 1 <<< i)
        have hpi : 1 ≤ pieces.getD i 0 ∧ pieces.getD i 0 ≤ 1000000000 := by
          have := hp pieces[i] (List.getElem_mem hi)
          simpa [hi] using this
        have := addF_ok hpi hr hs.1 hs.2.1 hs.2.2
        simp only [befF, Bool.or_eq_true, Bool.and_eq_true, decide_eq_true_eq] at hb
        omega
    · exact h
theorem innF_ok {pieces rooms : List Int} {n set : Nat} {t : List (Nat × Int)} (hp : PiecesOk pieces) (hr : RoomsOk rooms) (h : PlacesOk n rooms.length t) : ∀ k, k ≤ pieces.length → PlacesOk n rooms.length (innF pieces rooms set t k)
  | 0, _ => h
  | k + 1, hk => by rw [innF_succ]; exact stepF_ok hp hr (by omega) (innF_ok hp hr h k (by omega))
theorem outF_ok {pieces rooms : List Int} {n : Nat} {t : List (Nat × Int)} (hp : PiecesOk pieces) (hr : RoomsOk rooms) (h : PlacesOk n rooms.length t) : ∀ k, PlacesOk n rooms.length (outF pieces rooms t k)
  | 0 => h
  | k + 1 => by rw [outF_succ]; exact innF_ok hp hr (outF_ok hp hr h k) _ (Nat.le_refl _)
theorem tabF_ok (pieces rooms : List Int) : PlacesOk (2 ^ pieces.length) rooms.length (tabF pieces rooms) := by
  refine ⟨by simp [tabF], fun e he => ?_⟩
  rcases List.mem_or_eq_of_mem_set he with he | he
  · rw [List.eq_of_mem_replicate he]; simp
  · subst he; simp
theorem lastF_le (pieces rooms : List Int) (hp : PiecesOk pieces) (hr : RoomsOk rooms) : lastF pieces rooms ≤ rooms.length := ((outF_ok hp hr (tabF_ok pieces rooms) _).getD _).1
/-- More bits are as few as the pieces. -/
theorem or_lt {set i n : Nat} (h : set < 2 ^ n) (hi : i < n) : set ||| 1 <<< i < 2 ^ n :=
  Nat.or_lt_two_pow h (by rw [Nat.one_shiftLeft]; exact Nat.pow_lt_pow_right (by omega) hi)
/-- The places as cells. -/
def flat : List (Nat × Int) → List Int
  | [] => []
  | e :: t => (e.1 : Int) :: e.2 :: flat t
theorem flat_len (t : List (Nat × Int)) : (flat t).length = 2 * t.length := by induction t with | nil => rfl | cons e t ih => simp [flat, ih]; omega
theorem flat_0 : ∀ {t : List (Nat × Int)} {i : Nat}, i < t.length → (flat t)[i * 2]? = some ((t.getD i (0, 0)).1 : Int)
  | e :: t, 0, _ => by simp [flat]
  | e :: t, i + 1, h => by
    have := flat_0 (t := t) (i := i) (by simpa using h)
    simpa [flat, show (i + 1) * 2 = i * 2 + 1 + 1 by omega] using this
theorem flat_1 : ∀ {t : List (Nat × Int)} {i : Nat}, i < t.length → (flat t)[i * 2 + 1]? = some (t.getD i (0, 0)).2
  | e :: t, 0, _ => by simp [flat]
  | e :: t, i + 1, h => by
    have := flat_1 (t := t) (i := i) (by simpa using h)
    simpa [flat, show (i + 1) * 2 + 1 = i * 2 + 1 + 1 + 1 by omega] using this
theorem flat_set : ∀ (t : List (Nat × Int)) (i : Nat) (e : Nat × Int), ((flat t).set (i * 2) (e.1 : Int)).set (i * 2 + 1) e.2 = flat (t.set i e)
  | [], _, _ => by simp [flat]
  | d :: t, 0, e => by simp [flat]
  | d :: t, i + 1, e => by
    have := flat_set t i e
    simp [flat, show (i + 1) * 2 = i * 2 + 1 + 1 by omega, this]
theorem flat_replicate (n : Nat) (e : Nat × Int) : flat (List.replicate n e) = (List.replicate n [(e.1 : Int), e.2]).flatten := by
  induction n with
  | zero => rfl
  | succ n ih => simp [List.replicate_succ, flat, ih]
theorem lives_greedy : Greedy [6, 4, 5, 5] [10, 10] [0, 0, 1, 1] := greedy_of (by decide +kernel)
theorem lives_last : lastF [6, 4, 5, 5] [10, 10, 10, 10] = 1 := by decide +kernel
end Go.Proofs.Ythgekjkgfccnaaa

namespace Go.Proofs.Ythgekjkgfccnaaa
open Go.RowKit

theorem isBefore_any (p q : Nat × Int) (w : World) : Calls Try.prog 63 #[.agg #[.int .i64 (p.1 : Int), .int .i64 p.2], .agg #[.int .i64 (q.1 : Int), .int .i64 q.2]] w fun e w' => e = .returned (.bool (befF p q)) ∧ Below w.heap.size w w' := by
  have hbA : Below w.heap.size w ((w.alloc (.cells #[.int .i64 (p.1 : Int), .int .i64 p.2] 87)).alloc (.cells #[.int .i64 (q.1 : Int), .int .i64 q.2] 87)) := ((Below.refl _ _).alloc (Nat.le_refl _) _).alloc (by simp) _
  unfold befF
  obtain ⟨a, b⟩ := p
  obtain ⟨c, d⟩ := q
  simp only at *
  by_cases h : a < c
  · have hd : decide ((a : Int) < (c : Int)) = true := by simpa using h
    have hd' : decide (a < c) = true := by simpa using h
    go_enter Try.func63, Try.ntmps63
    go_wp2
    go_ret
    exact ⟨by simp [h], hbA⟩
  · have hd : decide ((a : Int) < (c : Int)) = false := by simpa using h
    have hd' : decide (a < c) = false := by simpa using h
    by_cases k : a = c
    · subst k
      go_enter Try.func63, Try.ntmps63
      go_wp2
      go_ret
      exact ⟨by simp, hbA⟩
    · have hk : ((a : Int) == (c : Int)) = false := by simp; omega
      go_enter Try.func63, Try.ntmps63
      go_wp2
      go_ret
      exact ⟨by simp [h, k], hbA⟩
end Go.Proofs.Ythgekjkgfccnaaa

namespace Go.Proofs.Ythgekjkgfccnaaa
open Go.RowKit

theorem und87 : (Try.prog.underlying 87).map (fun d => match d with | .struct _ | .array _ _ => true | _ => false) = some true := by kernel_rfl
theorem size87 : (Try.prog.info? 87).map (·.size) = some 2 := by kernel_rfl
theorem Blk.res87 {fn : Func} {w : World} {g : Nat} {p q : Int} (h : Blk 87 w g [.int .i64 p, .int .i64 q]) {k : Nat} (hr : fn.results = #[.cell k 87]) (tmps : Array Value) (hp : tmps.getD k undef = .pointer (some ⟨g, 0, none⟩)) :
    (results fn tmps).run Try.prog w = .ok (.agg #[.int .i64 p, .int .i64 q]) w := by
  obtain ⟨d, hd, hm⟩ := Option.map_eq_some_iff.1 und87
  cases d <;> first | exact results_cell_row hr tmps w g 87 _ (0, 0) _ hp h hd rfl size87 | exact absurd hm (by simp)

def PlPost (w : World) (p : Nat × Int) (e : Ending) (w' : World) : Prop := e = .returned (.agg #[.int .i64 (p.1 : Int), .int .i64 p.2]) ∧ Below w.heap.size w w'
set_option maxHeartbeats 1000000 in
set_option maxRecDepth 100000 in
theorem add_any (c : Nat) (u piece : Int) (A : Option Addr) (cp : Nat) (rooms : List Int) (w : World) (hA : Ints w A rooms) (hp : 1 ≤ piece ∧ piece ≤ 1000000000) (_hr : RoomsOk rooms) (h1 : c ≤ rooms.length) (h2 : 0 ≤ u) (h3 : u ≤ 1000000000) (hl : rooms.length ≤ 1000000) :
    Calls Try.prog 62 #[.agg #[.int .i64 (c : Int), .int .i64 u], .int .i64 piece, .slice A rooms.length cp] w (PlPost w (addF rooms (c, u) piece)) := by
  have hb0 : Blk 87 ((w.alloc (.cells #[.int .i64 (c : Int), .int .i64 u] 87)).alloc (.cells #[.int .i64 0, .int .i64 0] 87)) w.heap.size [.int .i64 (c : Int), .int .i64 u] := (Blk.new w 87 [_, _]).alloc _
  have hb1 : Blk 87 ((w.alloc (.cells #[.int .i64 (c : Int), .int .i64 u] 87)).alloc (.cells #[.int .i64 0, .int .i64 0] 87)) (w.heap.size + 1) [.int .i64 0, .int .i64 0] := by
    have := Blk.new (w.alloc (.cells #[.int .i64 (c : Int), .int .i64 u] 87)) 87 [.int .i64 0, .int .i64 0]
    simpa using this
  have hbA : Below w.heap.size w ((w.alloc (.cells #[.int .i64 (c : Int), .int .i64 u] 87)).alloc (.cells #[.int .i64 0, .int .i64 0] 87)) := ((Below.refl _ _).alloc (Nat.le_refl _) _).alloc (by simp) _
  have hF : fitF piece (rooms.drop c) c u = addF rooms (c, u) piece := rfl
  generalize addF rooms (c, u) piece = res at *
  have HF := Lib.hid hF
  clear hF
  go_enter Try.func62, Try.ntmps62
  go_wp2
  go_loopw [] (fun wr => ∃ (c' : Nat) (u' : Int), c' ≤ rooms.length ∧ 0 ≤ u' ∧ u' ≤ 1000000000 ∧ Hid (fitF piece (rooms.drop c') c' u' = res) ∧ Blk 87 wr w.heap.size [.int .i64 (c' : Int), .int .i64 u'] ∧ Blk 87 wr (w.heap.size + 1) [.int .i64 0, .int .i64 0] ∧ Below w.heap.size w wr) (fun wr => rooms.length - (cellI wr ⟨w.heap.size, 0, none⟩).toNat)
  case atStart => exact ⟨c, u, h1, h2, h3, HF, hb0, hb1, hbA⟩
  case round =>
    clear hb0 hb1 hbA HF
    obtain ⟨c', u', hc, hu, hu2, HF, k0, k1, hbl⟩ := hrel
    have e0 := k0.cell 0
    have e1 := k0.cell 1
    have z0 := k1.cell 0
    have z1 := k1.cell 1
    have f0 := k0.frozen
    have f1 := k1.frozen
    simp only [List.getElem?_cons_zero, List.getElem?_cons_succ] at e0 e1 z0 z1
    have hs : IntKind.i64.wrap (u' + piece) = u' + piece := wrapI (by omega) (by omega)
    have hs1 : IntKind.i64.wrap ((c' : Int) + 1) = (c' : Int) + 1 := wrapI (by omega) (by omega)
    by_cases hlt : c' < rooms.length
    · have hd : decide ((c' : Int) < (rooms.length : Int)) = true := by simpa using hlt
      have hdn : decide (c' < rooms.length) = true := by simpa using hlt
      obtain ⟨g, off, r, rfl, hg, hrc, hcr⟩ := Ints.at_ (hA.keep hbl) (i := c') hlt
      have hdr : rooms.drop c' = r :: rooms.drop (c' + 1) := by rw [List.drop_eq_getElem_cons hlt]; rw [List.getElem?_eq_getElem hlt] at hrc; injection hrc with hrc; rw [hrc]
      have HD := Lib.hid hdr
      have HR := Lib.hid hrc
      clear hdr hrc
      by_cases hr1 : r < u' + piece
      · have hstep : fitF piece (rooms.drop (c' + 1)) (c' + 1) 0 = res := by have := HF.out; rw [HD.out, fitF, if_pos hr1] at this; exact this
        have HS := Lib.hid hstep
        clear hstep
        go_wp2_with (fail)
        go_quiet (fail)
        go_wp2
        go_roundw
        case rel => exact ⟨c' + 1, 0, by omega, by omega, by omega, HS, (k0.drewN _).pair _ _, k1.far2 (by omega) _ _ _, below_set (below_set (below_drewN hbl _) (Nat.le_refl _) _) (Nat.le_refl _) _⟩
        case measure =>
          rw [cellI_of e0, cellI_of (((k0.drewN _).pair _ _).cell 0)]
          omega
      · have hfin : res = (c', u' + piece) := by have := HF.out; rw [HD.out, fitF, if_neg hr1] at this; exact this.symm
        have HS := Lib.hid hfin
        clear hfin
        go_wp2_with (fail)
        go_quiet (fail)
        go_wp2
        refine bodyPost_ret (Blk.res87 ((k1.drewN _).pair _ _) rfl _ rfl) rfl ⟨by rw [HS.out], below_set (below_set (below_drewN hbl _) (by omega) _) (by omega) _⟩
    · have hd : decide ((c' : Int) < (rooms.length : Int)) = false := by simpa using hlt
      have hdn : decide (c' < rooms.length) = false := by simpa using hlt
      have hfin : res = (c', u' + piece) := by
        have := HF.out
        rw [List.drop_eq_nil_of_le (by omega), fitF] at this
        exact this.symm
      have HS := Lib.hid hfin
      clear hfin
      go_wp2_with (fail)
      go_quiet (fail)
      go_wp2
      refine bodyPost_ret (Blk.res87 ((k1.drewN _).pair _ _) rfl _ rfl) rfl ⟨by rw [HS.out], below_set (below_set (below_drewN hbl _) (by omega) _) (by omega) _⟩
end Go.Proofs.Ythgekjkgfccnaaa

namespace Go.Proofs.Ythgekjkgfccnaaa
open Go.RowKit

theorem flat_is (n : Nat) (e : Nat × Int) : (List.replicate n (is [(e.1 : Int), e.2])).flatten = is (flat (List.replicate n e)) := by
  rw [flat_replicate]
  simp [is]
theorem pow_cast (n : Nat) : (2 : Int) ^ n = ((2 ^ n : Nat) : Int) := by simp
theorem shl_one (n : Nat) (h : n ≤ 40) : wrap64 ((2 : Int) ^ n) = ((2 ^ n : Nat) : Int) := by
  have : 2 ^ n ≤ 2 ^ 40 := Nat.pow_le_pow_right (by omega) h
  rw [pow_cast]
  generalize 2 ^ n = k at *
  unfold wrap64
  omega
theorem pow14 {n : Nat} (h : n ≤ 14) : 2 ^ n ≤ 16384 := Nat.pow_le_pow_right (by omega) h
theorem i64_or (a b : Nat) (ha : a < 9223372036854775808) (hb : b < 9223372036854775808) : bits .or .i64 (a : Int) (b : Int) = ((a ||| b : Nat) : Int) := by
  have hx : a ||| b < 2 ^ 63 := Nat.or_lt_two_pow (by omega) (by omega)
  have h0 : ∀ x : Nat, x < 9223372036854775808 → (BitVec.ofInt 64 (x : Int)).toNat = x := fun x h => by
    rw [BitVec.ofInt_natCast, BitVec.toNat_ofNat]; exact Nat.mod_eq_of_lt (by omega)
  show IntKind.i64.wrap ((BitVec.ofInt 64 (a : Int) ||| BitVec.ofInt 64 (b : Int)).toNat : Int) = _
  rw [BitVec.toNat_or, h0 a ha, h0 b hb, IntKind.wrap_i64]
  omega
set_option maxHeartbeats 2000000 in
set_option maxRecDepth 100000 in
theorem lastCoil_any (A A' : Option Addr) (cp cp' : Nat) (pieces rooms : List Int) (w : World) (hA : Ints w A pieces) (hA' : Ints w A' rooms) (hp : PiecesOk pieces) (hr : RoomsOk rooms) (hl : pieces.length ≤ 14) (hl' : rooms.length ≤ 1000000) :
    Calls Try.prog 44 #[.slice A pieces.length cp, .slice A' rooms.length cp'] w fun e w' => e = .returned (.int .i64 ((lastF pieces rooms : Nat) : Int)) ∧ Below w.heap.size w w' := by
  obtain ⟨N, hN⟩ : ∃ N, N = 2 ^ pieces.length := ⟨_, rfl⟩
  have hsh : wrap64 ((2 : Int) ^ pieces.length) = (N : Int) := by rw [hN]; exact shl_one _ (by omega)
  have hN1 : 1 ≤ N := by rw [hN]; exact Nat.one_le_two_pow
  have hN2 : N ≤ 16384 := by rw [hN]; exact pow14 hl
  have hx : Ints (w.alloc (Obj.cells #[.int .i64 (rooms.length : Int), .int .i64 0] 87)) (some ⟨w.heap.size, 0, none⟩) [(rooms.length : Int), 0] := (Blk.new w 87 [_, _]).vals0
  have hrep := repeatP_any w.heap.size 0 1 N rooms.length 0 _ hx hN1 (by omega)
  have hbA := below_new w (Obj.cells #[.int .i64 (rooms.length : Int), .int .i64 0] 87)
  have HN := Lib.hid hN
  have HR := Lib.hid hrep
  have HA := Lib.hid hA
  have HA' := Lib.hid hA'
  clear hN hrep hx hA hA'
  go_enter Try.func44, Try.ntmps44
  go_wp2_with (fail)
  refine (HR.out).mono ?_
  rintro e w1 ⟨g, rfl, hg, hb1, hbl1⟩
  have hb1' : Blk 87 w1 g (is (flat (List.replicate N (rooms.length, 0)))) := by rw [← flat_is]; exact hb1
  have hbB := below_on hbA hbA.size hbl1
  have c0 : w1.cell? ⟨g, 0, none⟩ = some (.int .i64 (rooms.length : Int)) := by rw [hb1'.cell 0]; exact is_at ((flat_0 (t := List.replicate N (rooms.length, 0)) (i := 0) (by simp; omega)).trans (by simp [List.getD, show 0 < N by omega]))
  have c1 : w1.cell? ⟨g, 1, none⟩ = some (.int .i64 0) := by rw [hb1'.cell 1]; exact is_at ((flat_1 (t := List.replicate N (rooms.length, 0)) (i := 0) (by simp; omega)).trans (by simp [List.getD, show 0 < N by omega]))
  have fz := hb1'.frozen
  have HB1 := Lib.hid hb1'
  clear hb1 hb1'
  go_wp2_with (fail)
  clear c0 c1 fz hbA
  have hgw : w.heap.size ≤ g := by have := hg; simp at this; omega
  have htab : Blk 87 ((w1.setCell ⟨g, 0, none⟩ (.int .i64 0)).setCell ⟨g, 1, none⟩ (.int .i64 0)) g (is (flat (tabF pieces rooms))) := by
    have h1 := (HB1.out.set 0 (.int .i64 0)).set 1 (.int .i64 0)
    rw [is_set, is_set] at h1
    have h2 := flat_set (List.replicate N (rooms.length, 0)) 0 (0, 0)
    unfold tabF
    rw [← HN.out, ← h2]
    exact h1
  have hbC : Below w.heap.size w ((w1.setCell ⟨g, 0, none⟩ (.int .i64 0)).setCell ⟨g, 1, none⟩ (.int .i64 0)) := below_set (below_set hbB hgw _) hgw _
  rw [hsh]
  go_loopw [6, 7, 8, 9, 10, 25, 28, 29, 30] (fun _ _ _ _ _ t _ _ _ wr => ∃ k : Nat, k ≤ N ∧ t = .int .i64 (k : Int) ∧ Blk 87 wr g (is (flat (outF pieces rooms (tabF pieces rooms) k))) ∧ Below w.heap.size w wr) (fun _ _ _ _ _ t _ _ _ _ => N - (intOf t).toNat)
  case atStart => exact ⟨0, Nat.zero_le _, rfl, htab, hbC⟩
  case round =>
    clear htab hbC hbB HB1 hbl1 HR
    obtain ⟨k, hk, rfl, hb, hbl⟩ := hrel
    by_cases hlt : k < N
    · have hs : IntKind.i64.wrap ((k : Int) + 1) = (k : Int) + 1 := wrapI (by omega) (by omega)
      go_wp2_with (fail)
      obtain ⟨wo, rfl⟩ : ∃ wo : World, wo = wr := ⟨_, rfl⟩
      go_loopw [7, 8, 9, 10, 30] (fun _ _ _ _ t wr => ∃ j : Nat, j ≤ pieces.length ∧ t = .int .i64 (j : Int) ∧ Blk 87 wr g (is (flat (innF pieces rooms k (outF pieces rooms (tabF pieces rooms) k) j))) ∧ Below w.heap.size w wr) (fun _ _ _ _ t _ => pieces.length - (intOf t).toNat)
      case atStart => exact ⟨0, Nat.zero_le _, rfl, hb, hbl⟩
      case round =>
        clear hb hbl
        obtain ⟨j, hj, rfl, hb, hbl⟩ := hrel
        have hok : PlacesOk N rooms.length (innF pieces rooms k (outF pieces rooms (tabF pieces rooms) k) j) := by
          rw [HN.out]; exact innF_ok hp hr (outF_ok hp hr (tabF_ok pieces rooms) k) j hj
        by_cases hjl : j < pieces.length
        · have hs2 : IntKind.i64.wrap ((j : Int) + 1) = (j : Int) + 1 := wrapI (by omega) (by omega)
          have hsj : wrap64 ((2 : Int) ^ j) = ((2 ^ j : Nat) : Int) := shl_one j (by omega)
          obtain ⟨g1, o1, p, rfl, hg1, hpj, hcp⟩ := Ints.at_ (HA.out.keep hbl) (i := j) hjl
          have hpp := hp p (List.mem_of_getElem? hpj)
          have HP := Lib.hid hpj
          clear hpj
          obtain ⟨M, hM⟩ : ∃ M, M = k ||| 1 <<< j := ⟨_, rfl⟩
          have hMN : M < N := by rw [hM, HN.out]; exact or_lt (by rw [← HN.out]; exact hlt) hjl
          have hor : bits .or .i64 (k : Int) ((2 : Int) ^ j) = (M : Int) := by
            rw [hM, Nat.one_shiftLeft, pow_cast]
            have := pow14 (n := j) (by omega)
            exact i64_or k (2 ^ j) (by omega) (by omega)
          obtain ⟨T, hT⟩ : ∃ T, innF pieces rooms k (outF pieces rooms (tabF pieces rooms) k) j = T := ⟨_, rfl⟩
          have hsucc : innF pieces rooms k (outF pieces rooms (tabF pieces rooms) k) (j + 1) = stepF pieces rooms k T j := by rw [innF_succ, hT]
          rw [hT] at hb hok
          have hpg : pieces.getD j 0 = p := by rw [List.getD_eq_getElem?_getD, HP.out]; rfl
          have HM := Lib.hid hM
          have HS := Lib.hid hsucc
          have HG := Lib.hid hpg
          clear hM hT hsucc hpg
          by_cases hmk : M = k
          · have hstep : stepF pieces rooms k T j = T := by unfold stepF; rw [if_pos (by rw [← HM.out]; exact hmk)]
            rw [hmk] at hor
            have HE := Lib.hid hstep
            clear hstep hmk
            go_wp2
            go_roundw
            case rel => exact ⟨j + 1, by omega, by go_num, by rw [HS.out, HE.out]; exact hb, hbl⟩
            case measure => simp [intOf]; omega
          · have hne : ((M : Int) == (k : Int)) = false := by simp; omega
            have hlenT : T.length = N := hok.len
            have k0 := (hb.cell (k * 2)).trans (is_at (flat_0 (t := T) (i := k) (by omega)))
            have k1 := (hb.cell (k * 2 + 1)).trans (is_at (flat_1 (t := T) (i := k) (by omega)))
            have m0 := (hb.cell (M * 2)).trans (is_at (flat_0 (t := T) (i := M) (by omega)))
            have m1 := (hb.cell (M * 2 + 1)).trans (is_at (flat_1 (t := T) (i := M) (by omega)))
            have hko := hok.getD k
            obtain ⟨P1, hP1⟩ : ∃ P1, T.getD k (0, 0) = P1 := ⟨_, rfl⟩
            obtain ⟨P2, hP2⟩ : ∃ P2, T.getD M (0, 0) = P2 := ⟨_, rfl⟩
            rw [hP1] at k0 k1 hko
            rw [hP2] at m0 m1
            have hadd := add_any P1.1 P1.2 p A' cp' rooms wr (HA'.out.keep hbl) hpp hr hko.1 hko.2.1 hko.2.2 hl'
            have H1 := Lib.hid hP1
            have H2 := Lib.hid hP2
            have HAD := Lib.hid hadd
            have HL := Lib.hid hlenT
            clear hP1 hP2 hadd hlenT
            go_wp2_with (fail)
            refine (HAD.out).mono ?_
            rintro e w2 ⟨rfl, hb2⟩
            have hbw := below_on hbl hbl.size hb2
            have t1 := (hb.keep hb2).alloc (Obj.cells #[.int .i64 ((addF rooms (P1.1, P1.2) p).1 : Int), .int .i64 (addF rooms (P1.1, P1.2) p).2] 87)
            have t0 : Blk 87 (w2.alloc (Obj.cells #[.int .i64 ((addF rooms (P1.1, P1.2) p).1 : Int), .int .i64 (addF rooms (P1.1, P1.2) p).2] 87)) w2.heap.size [.int .i64 ((addF rooms (P1.1, P1.2) p).1 : Int), .int .i64 (addF rooms (P1.1, P1.2) p).2] := Blk.new w2 87 [_, _]
            have hbw2 := hbw.alloc hbw.size (Obj.cells #[.int .i64 ((addF rooms (P1.1, P1.2) p).1 : Int), .int .i64 (addF rooms (P1.1, P1.2) p).2] 87)
            have hgl : g < w2.heap.size := (hb.keep hb2).lt
            have hstep : stepF pieces rooms k T j = if befF (addF rooms (P1.1, P1.2) p) P2 then T.set M (addF rooms (P1.1, P1.2) p) else T := by
              unfold stepF
              rw [← HM.out, if_neg hmk, HG.out, H1.out, H2.out]
            have n0 := (t1.drew.cell (M * 2)).trans (is_at ((flat_0 (t := T) (i := M) (by have := HL.out; omega)).trans (by rw [H2.out])))
            have n1 := (t1.drew.cell (M * 2 + 1)).trans (is_at ((flat_1 (t := T) (i := M) (by have := HL.out; omega)).trans (by rw [H2.out])))
            have q0 := t0.drew.cell 0
            have q1 := t0.drew.cell 1
            simp only [List.getElem?_cons_zero, List.getElem?_cons_succ] at q0 q1
            generalize addF rooms (P1.1, P1.2) p = R at *
            have HT := Lib.hid hstep
            have T1 := Lib.hid t1
            have T0 := Lib.hid t0
            clear hstep t1 t0 k0 k1 m0 m1
            go_wp2_with (fail)
            generalize hW : w2.alloc (Obj.cells #[.int .i64 (R.1 : Int), .int .i64 R.2] 87) = wA at *
            have hsz : w2.heap.size < wA.heap.size := by rw [← hW]; simp
            clear hW
            go_still_tail 5, (by kernel_rfl)
            change wpList _ _ _ _ _ wA.drew
            by_cases hbf : befF R P2 = true
            · have hcl := isBefore_any R P2 wA.drew
              rw [hbf] at hcl
              have HC := Lib.hid hcl
              clear hcl
              go_wp2_with (fail)
              refine (HC.out).mono ?_
              rintro e w3 ⟨rfl, hb3⟩
              have hbw3 := below_on hbw2.drew hbw2.drew.size hb3
              have u1 := T1.out.drew.keep hb3
              have u0 := T0.out.drew.keep hb3
              have v0 := u0.cell 0
              have v1 := u0.cell 1
              simp only [List.getElem?_cons_zero, List.getElem?_cons_succ] at v0 v1
              have x0 := (u1.cell (M * 2)).trans (is_at ((flat_0 (t := T) (i := M) (by have := HL.out; omega)).trans (by rw [H2.out])))
              have x1 := (u1.cell (M * 2 + 1)).trans (is_at ((flat_1 (t := T) (i := M) (by have := HL.out; omega)).trans (by rw [H2.out])))
              have xf := u1.frozen
              have hnew := (u1.set (M * 2) (.int .i64 (R.1 : Int))).set (M * 2 + 1) (.int .i64 R.2)
              rw [is_set, is_set, flat_set] at hnew
              have HN2 := Lib.hid hnew
              clear hnew n0 n1 q0 q1
              go_wp2
              go_roundw
              case rel => exact ⟨j + 1, by omega, by go_num, by rw [HS.out, HT.out, hbf, if_pos rfl]; exact HN2.out, below_set (below_set hbw3 hgw _) hgw _⟩
              case measure => simp [intOf]; omega
            · have hcl := isBefore_any R P2 wA.drew
              rw [Bool.not_eq_true] at hbf
              rw [hbf] at hcl
              have HC := Lib.hid hcl
              clear hcl
              go_wp2_with (fail)
              refine (HC.out).mono ?_
              rintro e w3 ⟨rfl, hb3⟩
              have hbw3 := below_on hbw2.drew hbw2.drew.size hb3
              have u1 := T1.out.drew.keep hb3
              clear n0 n1 q0 q1
              go_wp2
              go_roundw
              case rel => exact ⟨j + 1, by omega, by go_num, by rw [HS.out, HT.out, hbf, if_neg (by simp)]; exact u1, hbw3⟩
              case measure => simp [intOf]; omega
        · obtain rfl : j = pieces.length := by omega
          go_wp2
          go_roundw
          case rel => exact ⟨k + 1, by omega, by go_num, by rw [outF_succ]; exact hb, hbl⟩
          case measure => simp [intOf]; omega
    · obtain rfl : k = N := by omega
      have hok : PlacesOk k rooms.length (outF pieces rooms (tabF pieces rooms) k) := by rw [HN.out]; exact outF_ok hp hr (tabF_ok pieces rooms) _
      have hlen := hok.len
      have c0 := (hb.cell ((k - 1) * 2)).trans (is_at (flat_0 (t := outF pieces rooms (tabF pieces rooms) k) (i := k - 1) (by omega)))
      have hlast : lastF pieces rooms = ((outF pieces rooms (tabF pieces rooms) k).getD (k - 1) (0, 0)).1 := by unfold lastF; rw [← HN.out]
      have hs : IntKind.i64.wrap ((k : Int) - 1) = ((k - 1 : Nat) : Int) := by rw [wrapI (by omega) (by omega)]; omega
      have ht : ((k : Int) - 1).toNat = k - 1 := by omega
      have hq : (1 : Int) ≤ (k : Int) := by omega
      have hq2 : (k : Int) - 1 < (k : Int) := by omega
      generalize (outF pieces rooms (tabF pieces rooms) k).getD (k - 1) (0, 0) = E at *
      have HL := Lib.hid hlen
      have HLA := Lib.hid hlast
      clear hlen hok hlast
      go_wp2
      go_ret
      exact ⟨by rw [HLA.out]; rfl, hbl⟩
end Go.Proofs.Ythgekjkgfccnaaa

namespace Go.Proofs.Ythgekjkgfccnaaa
open Go.RowKit

theorem RoomsOk.set {rooms : List Int} (h : RoomsOk rooms) {k : Nat} {x : Int} (hx : 0 ≤ x ∧ x ≤ 1000000000) : RoomsOk (rooms.set k x) := by
  intro r hr
  rcases List.mem_or_eq_of_mem_set hr with hr | hr
  · exact h r hr
  · subst hr; exact hx

set_option maxHeartbeats 1000000 in
set_option maxRecDepth 100000 in
theorem canTake_any (k : Nat) (piece : Int) (A A' : Option Addr) (cp cp' : Nat) (others rooms : List Int) (w : World) (hA : Ints w A others) (hA' : Ints w A' rooms) (hp : 1 ≤ piece ∧ piece ≤ 1000000000) (ho : PiecesOk others) (hr : RoomsOk rooms) (hk : k < rooms.length) (hl : others.length ≤ 14) (hl' : rooms.length ≤ 1000000) :
    Calls Try.prog 46 #[.int .i64 (k : Int), .int .i64 piece, .slice A others.length cp, .slice A' rooms.length cp'] w fun e w' => e = .returned (.bool (canF k piece others rooms)) ∧ Below w.heap.size w w' := by
  obtain ⟨g, off, r, rfl, hg, hrk, hc⟩ := Ints.at_ hA' hk
  have hrr := hr r (List.mem_of_getElem? hrk)
  have hcan : canF k piece others rooms = (decide (piece ≤ r) && decide (lastF others (rooms.set k (r - piece)) < rooms.length)) := by
    unfold canF
    rw [List.getD_eq_getElem?_getD, hrk]; rfl
  have HC := Lib.hid hcan
  have HR := Lib.hid hrk
  clear hcan hrk
  by_cases h : piece ≤ r
  · have hcl := clone_any ⟨g, off, none⟩ cp' rooms.length rooms w hA' rfl (by omega)
    have hro : RoomsOk (rooms.set k (r - piece)) := hr.set (by omega)
    have hs : IntKind.i64.wrap (r - piece) = r - piece := wrapI (by omega) (by omega)
    have HCL := Lib.hid hcl
    have HA := Lib.hid hA
    clear hcl hA hA'
    go_enter Try.func46, Try.ntmps46
    go_wp2_with (fail)
    refine (HCL.out).mono ?_
    rintro e w1 ⟨g1, cap, rfl, hg1, hd, hb1⟩
    have c1 := hd.cell (i := k) (is_at HR.out)
    have f1 := hd.frozen
    have hset := hd.set (i := k) (by rw [is_len]; exact hk) (.int .i64 (r - piece))
    rw [is_set] at hset
    have hv := hset.vals
    have hb2 := below_set hb1 hg1 (i := k) (.int .i64 (r - piece))
    have hla := lastCoil_any A (some ⟨g1, 0, none⟩) cp cap others (rooms.set k (r - piece)) _ (HA.out.keep hb2) hv ho hro hl (by rw [List.length_set]; exact hl')
    rw [List.length_set] at hla
    have HL := Lib.hid hla
    clear hla hv hset
    go_wp2_with (fail)
    refine (HL.out).mono ?_
    rintro e w2 ⟨rfl, hb3⟩
    go_wp2
    go_ret
    refine ⟨?_, below_on hb2 hb2.size hb3⟩
    rw [HC.out]
    simp [h]
  · have hd : decide (piece ≤ r) = false := by simpa using h
    go_enter Try.func46, Try.ntmps46
    go_wp2
    go_ret
    exact ⟨by rw [HC.out, hd]; rfl, Below.refl _ _⟩
end Go.Proofs.Ythgekjkgfccnaaa

namespace Go.Proofs.Ythgekjkgfccnaaa
open Go.RowKit

def allB (f : Int → Bool) (l : List Int) : Bool := l.all f
theorem allB_take_succ {f : Int → Bool} {l : List Int} {k : Nat} {x : Int} (h : allB f (l.take k) = true) (hx : l[k]? = some x) (hf : f x = true) : allB f (l.take (k + 1)) = true := by
  unfold allB at *
  have : l.take (k + 1) = l.take k ++ [x] := by rw [List.take_add_one, hx]; rfl
  rw [this, List.all_append, h]
  simp [hf]
theorem allB_bad {f : Int → Bool} {l : List Int} {k : Nat} {x : Int} (hx : l[k]? = some x) (hf : f x = false) : allB f l = false := by
  unfold allB
  cases h : l.all f
  · rfl
  · have := List.all_eq_true.1 h x (List.mem_of_getElem? hx)
    rw [hf] at this; cases this
theorem allB_mem {f : Int → Bool} {l : List Int} (h : allB f l = true) : ∀ x ∈ l, f x = true := List.all_eq_true.1 h
def rangeB (x : Int) : Bool := inB x 1 1000000000
def leB (c : Int) (x : Int) : Bool := decide (x ≤ c)
/-- What checkPieces returns. -/
def pcErr (l : List Int) (coil : Int) : Int := if 14 < l.length ∨ rangeB coil = false then 1 else if allB rangeB l = false then 1 else if allB (leB coil) l = false then 3 else 0

def IntEnd (w : World) (n : Int) (e : Ending) (w' : World) : Prop := e = .returned (.int .i64 n) ∧ w = w'
set_option maxHeartbeats 1000000 in
set_option maxRecDepth 100000 in
theorem checkPieces_any (A : Option Addr) (cp L : Nat) (l : List Int) (coil : Int) (w : World) (hA : Ints w A l) (hL : L = l.length) (hl : l.length ≤ 1000000) :
    Calls Try.prog 37 #[.slice A L cp, .int .i64 coil] w (IntEnd w (pcErr l coil)) := by
  by_cases h14 : 14 < L
  · have he : pcErr l coil = 1 := by unfold pcErr; rw [if_pos (.inl (by omega))]
    rw [he]
    have hd : decide (14 < (L : Int)) = true := by simp; omega
    have hd2 : decide (14 < L) = true := by simpa using h14
    clear hL he hl
    go_enter Try.func37, Try.ntmps37
    go_wp2
    go_ret
    exact ⟨rfl, rfl⟩
  · have hd : decide (14 < (L : Int)) = false := by simp; omega
    have hd2 : decide (14 < L) = false := by simpa using h14
    have hw : ∀ v, rangeB v = inB v 1 1000000000 := fun _ => rfl
    have hwi := fun (v : Int) (W : World) => (show Calls Try.prog 39 #[.int .i64 v, .int .i64 1, .int .i64 1000000000] W fun e w' => e = .returned (.bool (rangeB v)) ∧ W = w' from within_any v 1 1000000000 W)
    cases hc : rangeB coil with
    | false =>
      have he : pcErr l coil = 1 := by unfold pcErr; rw [if_pos (.inr hc)]
      rw [he]
      have hcl := hwi coil w
      rw [hc] at hcl
      have HC := Lib.hid hcl
      have HW := Lib.hid hwi
      clear hL he hl hcl hw hwi hc
      go_enter Try.func37, Try.ntmps37
      go_wp2_with (fail)
      refine (HC.out).mono ?_
      rintro e w1 ⟨rfl, rfl⟩
      go_wp2
      go_ret
      exact ⟨rfl, rfl⟩
    | true =>
      have hcl := hwi coil w
      rw [hc] at hcl
      have HC := Lib.hid hcl
      have HW := Lib.hid hwi
      have HL := Lib.hid hL
      have HCO := Lib.hid hc
      have HA := Lib.hid hA
      have HN : ¬ (14 < l.length ∨ rangeB coil = false) := by rw [hc, ← hL]; simp; omega
      have HNN := Lib.hid HN
      clear hL hcl hw hwi hc hA HN
      go_enter Try.func37, Try.ntmps37
      go_wp2_with (fail)
      refine (HC.out).mono ?_
      rintro e w1 ⟨rfl, rfl⟩
      go_wp2
      go_loop [19] (fun t => ∃ k : Nat, k ≤ L ∧ t = .int .i64 (k : Int) ∧ allB rangeB (l.take k) = true) (fun t => L - (intOf t).toNat)
      case atStart => exact ⟨0, Nat.zero_le _, rfl, rfl⟩
      case round =>
        obtain ⟨k, hk, rfl, hal⟩ := hrel
        have HAL := Lib.hid hal
        clear hal
        by_cases hlt : k < L
        · obtain ⟨g, off, x, rfl, hg, hx, hcx⟩ := Ints.at_ HA.out (i := k) (by have := HL.out; omega)
          have HX := Lib.hid hx
          clear hx
          cases hf : rangeB x with
          | false =>
            have he : pcErr l coil = 1 := by unfold pcErr; rw [if_neg HNN.out, if_pos (allB_bad HX.out hf)]
            have hcl := HW.out x w
            rw [hf] at hcl
            have HC2 := Lib.hid hcl
            have HE := Lib.hid he
            clear hcl hf he
            go_wp2_with (fail)
            refine (HC2.out).mono ?_
            rintro e w1 ⟨rfl, rfl⟩
            go_wp2
            go_ret
            exact ⟨by rw [HE.out]; rfl, rfl⟩
          | true =>
            have hcl := HW.out x w
            rw [hf] at hcl
            have HC2 := Lib.hid hcl
            have hn := allB_take_succ HAL.out HX.out hf
            have HNx := Lib.hid hn
            clear hcl hf hn
            go_wp2_with (fail)
            refine (HC2.out).mono ?_
            rintro e w1 ⟨rfl, rfl⟩
            go_wp2
            go_round
            case rel => exact ⟨k + 1, by omega, by go_num, HNx.out⟩
            case measure => simp [intOf]; omega
        · obtain rfl : k = L := by omega
          have hall : allB rangeB l = true := by have := HAL.out; rwa [HL.out, List.take_length] at this
          have HALL := Lib.hid hall
          clear hall
          go_wp2
          go_loop [29] (fun t => ∃ j : Nat, j ≤ k ∧ t = .int .i64 (j : Int) ∧ allB (leB coil) (l.take j) = true) (fun t => k - (intOf t).toNat)
          case atStart => exact ⟨0, Nat.zero_le _, rfl, rfl⟩
          case round =>
            obtain ⟨j, hj, rfl, hal⟩ := hrel
            have HAL2 := Lib.hid hal
            clear hal
            by_cases hlt : j < k
            · obtain ⟨g, off, x, rfl, hg, hx, hcx⟩ := Ints.at_ HA.out (i := j) (by have := HL.out; omega)
              have HX := Lib.hid hx
              clear hx
              by_cases hf : coil < x
              · have he : pcErr l coil = 3 := by
                  unfold pcErr
                  rw [if_neg HNN.out, if_neg (by rw [HALL.out]; simp), if_pos (allB_bad HX.out (by unfold leB; simp; omega))]
                have HE := Lib.hid he
                clear he
                go_wp2
                go_ret
                exact ⟨by rw [HE.out]; rfl, rfl⟩
              · have hn := allB_take_succ (f := leB coil) HAL2.out HX.out (by unfold leB; simp; omega)
                have HNx := Lib.hid hn
                clear hn
                go_wp2
                go_round
                case rel => exact ⟨j + 1, by omega, by go_num, HNx.out⟩
                case measure => simp [intOf]; omega
            · obtain rfl : j = k := by omega
              have hall2 : allB (leB coil) l = true := by have := HAL2.out; rwa [HL.out, List.take_length] at this
              have he : pcErr l coil = 0 := by
                unfold pcErr
                rw [if_neg HNN.out, if_neg (by rw [HALL.out]; simp), if_neg (by rw [hall2]; simp)]
              have HE := Lib.hid he
              clear he hall2
              go_wp2
              go_ret
              exact ⟨by rw [HE.out]; rfl, rfl⟩
end Go.Proofs.Ythgekjkgfccnaaa
