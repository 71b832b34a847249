/- What is said of memory: slices that read as numbers, rows of the call's own that hold numbers. -/
import Derived.Test.YtncmfjncdhhjoaaRows
import Derived.Test.YtncmfjncdhhjoaaNum
import Derived.Test.YtncmfjncdhhjoaaMemN
import Derived.WalkKit
import Derived.WalkSpells
import Derived.WalkLawsBesides
import Derived.Deep.QuietTactic
import Derived.Deep.OwnRows
import Derived.BigQuiet
import Derived.Lib.Hide
namespace Go.Proofs.Ytncmfjncdhhjoaa
open Go.RowKit Num

/-- The bases, under names: a walk must not meet such numerals. -/
def B64 : Nat := 18446744073709551616
def B32 : Nat := 4294967296
theorem b64_two : 2 ≤ B64 := by unfold B64; omega
theorem b32_two : 2 ≤ B32 := by unfold B32; omega
theorem b64_pos : 0 < B64 := by unfold B64; omega
theorem b32_pos : 0 < B32 := by unfold B32; omega

/-- The slice at A reads as these numbers; its cells lie in a block that is there. -/
def Nums (k : IntKind) (w : World) (A : Option Addr) (xs : List Nat) : Prop :=
  0 < xs.length → ∃ g off, A = some ⟨g, off, none⟩ ∧ g < w.heap.size ∧ ∀ (i v : Nat), xs[i]? = some v → w.cell? ⟨g, off + i, none⟩ = some (.int k (v : Int))

theorem Nums.nil {k : IntKind} {w : World} {A : Option Addr} : Nums k w A [] := fun h => absurd h (by simp)

theorem Nums.keep {k : IntKind} {w w' : World} {A : Option Addr} {xs : List Nat} (h : Nums k w A xs) (hb : Below w.heap.size w w') : Nums k w' A xs := by
  intro hl
  obtain ⟨g, off, e, hg, hc⟩ := h hl
  exact ⟨g, off, e, Nat.lt_of_lt_of_le hg hb.size, fun i v hv => (hb.cell (p := ⟨g, off + i, none⟩) hg).trans (hc i v hv)⟩

theorem Nums.at_ {k : IntKind} {w : World} {A : Option Addr} {xs : List Nat} (h : Nums k w A xs) {i : Nat} (hi : i < xs.length) :
    ∃ g off v, A = some ⟨g, off, none⟩ ∧ g < w.heap.size ∧ xs[i]? = some v ∧ w.cell? ⟨g, off + i, none⟩ = some (.int k (v : Int)) := by
  obtain ⟨g, off, e, hg, hc⟩ := h (by omega)
  exact ⟨g, off, xs[i], e, hg, List.getElem?_eq_getElem hi, hc _ _ (List.getElem?_eq_getElem hi)⟩

theorem Nums.take {k : IntKind} {w : World} {A : Option Addr} {xs : List Nat} (h : Nums k w A xs) (n : Nat) : Nums k w A (xs.take n) := by
  intro hl
  obtain ⟨g, off, e, hg, hc⟩ := h (by simp at hl; omega)
  refine ⟨g, off, e, hg, fun i v hv => hc i v ?_⟩
  rw [List.getElem?_take] at hv
  split at hv
  · exact hv
  · cases hv

/-- Block g is a row of these numbers, each of kind k; none is frozen. T: the number's type. -/
def Row (k : IntKind) (T : TypeId) (w : World) (g : Nat) (zs : List Nat) : Prop := w.rowIs g T zs.length (fun j => .int k ((zs.getD j 0 : Nat) : Int))

section
variable {k : IntKind} {T : TypeId} {w w' : World} {g : Nat} {zs : List Nat}

theorem Row.cell (h : Row k T w g zs) {i v : Nat} (hv : zs[i]? = some v) : w.cell? ⟨g, i, none⟩ = some (.int k (v : Int)) := by
  have hi : i < zs.length := (List.getElem?_eq_some_iff.1 hv).1
  have := World.rowIs.cell h hi
  rw [this]
  simp [hv]

theorem Row.frozen (h : Row k T w g zs) (i : Nat) : w.frozen? ⟨g, i, none⟩ = false := World.rowIs.frozen h i
theorem Row.lt (h : Row k T w g zs) : g < w.heap.size := World.rowIs.lt h
theorem Row.drew (h : Row k T w g zs) : Row k T w.drew g zs := h
theorem Row.of_block (h : Row k T w g zs) (e : w'.heap[g]? = w.heap[g]?) : Row k T w' g zs := World.rowIs.of_block h e
theorem Row.below {B : Nat} (h : Row k T w g zs) (hb : Below B w w') (hg : g < B) : Row k T w' g zs := h.of_block (hb.block g hg)
theorem Row.grown {row : Option Nat} (h : Row k T w g zs) (hb : w.grownBy w' row) (hg : some g ≠ row) : Row k T w' g zs := h.of_block (hb.block g h.lt hg)
theorem Row.alloc (h : Row k T w g zs) (o : Obj) : Row k T (w.alloc o) g zs := World.rowIs.alloc h o
theorem Row.set (h : Row k T w g zs) (i v : Nat) : Row k T (w.setCell ⟨g, i, none⟩ (.int k (v : Int))) g (zs.set i v) := by
  unfold Row
  rw [List.length_set]
  refine World.rowIs.congr (World.rowIs.set h i _) fun j hj => ?_
  simp only [List.getD_eq_getElem?_getD, List.getElem?_set]
  by_cases e : j = i
  · subst e; simp [hj]
  · rw [if_neg e, if_neg (fun h => e h.symm)]
theorem Row.setOther (h : Row k T w g zs) {a : Addr} (ha : g ≠ a.block) (v : Value) : Row k T (w.setCell a v) g zs := World.rowIs.setOther h ha v
theorem Row.made (w : World) (k : IntKind) (n : Nat) (T : TypeId) : Row k T (w.alloc (.cells (madeCells #[.int k 0] n) T)) w.heap.size (List.replicate n 0) := by
  unfold Row
  rw [List.length_replicate]
  exact World.rowIs.congr (World.rowIs_made w (.int k 0) n T) fun j hj => by simp [hj]

/-- A part of a row reads as numbers. -/
theorem Row.nums (h : Row k T w g zs) (off n : Nat) : Nums k w (some ⟨g, off, none⟩) ((zs.drop off).take n) := by
  intro _
  refine ⟨g, off, rfl, h.lt, fun i v hv => h.cell ?_⟩
  rw [List.getElem?_take] at hv
  split at hv
  · rw [List.getElem?_drop] at hv; exact hv
  · cases hv
theorem Row.nums0 (h : Row k T w g zs) (n : Nat) : Nums k w (some ⟨g, 0, none⟩) (zs.take n) := by
  have := h.nums 0 n
  rwa [List.drop_zero] at this
end

/-- The slice value v reads in w as the digits of n (kind k, base b); nothing is said of who owns it. -/
def IsNum (k : IntKind) (b : Nat) (w : World) (v : Value) (n : Nat) : Prop :=
  ∃ A c, v = .slice A (dig b n).length c ∧ (dig b n).length ≤ c ∧ Nums k w A (dig b n)

theorem IsNum.keep {k : IntKind} {b : Nat} {w w' : World} {v : Value} {n : Nat} (h : IsNum k b w v n) (hb : Below w.heap.size w w') : IsNum k b w' v n := by
  obtain ⟨A, c, e, hc, hn⟩ := h
  exact ⟨A, c, e, hc, hn.keep hb⟩

/-- .. and it lies at the head of a row of its own, in a block from B on. -/
def OwnNum (k : IntKind) (T : TypeId) (b : Nat) (B : Nat) (w : World) (v : Value) (n : Nat) : Prop :=
  ∃ g c zs, v = .slice (some ⟨g, 0, none⟩) (dig b n).length c ∧ (dig b n).length ≤ c ∧ c = zs.length ∧ B ≤ g ∧ Row k T w g zs ∧ Low b zs ∧ zs.take (dig b n).length = dig b n

theorem OwnNum.is {k : IntKind} {T : TypeId} {b B : Nat} {w : World} {v : Value} {n : Nat} (h : OwnNum k T b B w v n) : IsNum k b w v n := by
  obtain ⟨g, c, zs, e, hc, _, _, hr, _, ht⟩ := h
  refine ⟨_, _, e, hc, ?_⟩
  have := hr.nums0 (dig b n).length
  rwa [ht] at this

/-- Words of 64 bits; limbs of 32 bits. -/
abbrev W64 (w : World) (v : Value) (n : Nat) : Prop := IsNum .u64 B64 w v n
abbrev N32 (w : World) (v : Value) (n : Nat) : Prop := IsNum .u32 B32 w v n
abbrev OwnW (B : Nat) (w : World) (v : Value) (n : Nat) : Prop := OwnNum .u64 122 B64 B w v n

theorem info122 : (Try.prog.info? 122).map (fun i => (i.zero, i.size, i.bytes)) = some (some (.int .u64 0), 1, 8) := by kernel_rfl
theorem info120 : (Try.prog.info? 120).map (fun i => (i.zero, i.size, i.bytes)) = some (some (.int .u32 0), 1, 4) := by kernel_rfl
theorem ret_i {k : IntKind} {a b : Int} (h : a = b) : Ending.returned (.int k a) = .returned (.int k b) := by rw [h]
theorem ret_b {a b : Bool} (h : a = b) : Ending.returned (.bool a) = .returned (.bool b) := by rw [h]

/-- A quiet callee behind draws. -/
theorem quiet_l {P : Program} {f : FuncId} {args : Array Value} {w : World} {n : Nat} {v : Value}
    (h : Calls P f args (w.drewN n) fun e w' => e = .returned v ∧ w.drewN n = w') : Calls P f args (w.drewN n) fun e w'' => e = .returned v ∧ ∃ m, w'' = w.drewN m :=
  h.mono fun _ _ ⟨he, hm⟩ => ⟨he, n, hm.symm⟩
theorem quiet_a {P : Program} {f : FuncId} {args : Array Value} {w : World} {a n : Nat} {v : Value}
    (h : Calls P f args (w.drewN (a + n)) fun e w' => e = .returned v ∧ w.drewN (a + n) = w') :
    Calls P f args (w.drewN (a + n)) fun e w'' => e = .returned v ∧ ∃ m, w'' = w.drewN (a + m) :=
  h.mono fun _ _ ⟨he, hm⟩ => ⟨he, n, hm.symm⟩

end Go.Proofs.Ytncmfjncdhhjoaa
