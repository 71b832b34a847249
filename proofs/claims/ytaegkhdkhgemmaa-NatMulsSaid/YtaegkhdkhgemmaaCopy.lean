import Derived.Test.YtaegkhdkhgemmaaAdd
import Derived.Test.YtaegkhdkhgemmaaTrim
import Derived.Laws.CopyOwn
namespace Go.Proofs.Ytaegkhdkhgemmaa
open Go.RowKit Num

/-- zs with ys laid over it from place off on. -/
def lay (zs : List Nat) (off : Nat) (ys : List Nat) : List Nat := zs.take off ++ (ys ++ zs.drop (off + ys.length))
theorem lay_len {zs ys : List Nat} {off : Nat} (h : off + ys.length ≤ zs.length) : (lay zs off ys).length = zs.length := by simp [lay]; omega
theorem lay_nil (zs : List Nat) (off : Nat) : lay zs off [] = zs := by simp [lay]
theorem lay_low {b : Nat} {zs ys : List Nat} {off : Nat} (hz : Low b zs) (hy : Low b ys) : Low b (lay zs off ys) := (hz.take _).append (hy.append (hz.drop _))

def ints (k : IntKind) (zs : List Nat) : List Value := zs.map fun (x : Nat) => .int k (x : Int)
theorem Row.heap {k : IntKind} {T : TypeId} {w : World} {g : Nat} {zs : List Nat} (h : Row k T w g zs) : w.heap[g]? = some (.cells (ints k zs).toArray T (0, 0)) := by
  obtain ⟨c, hb, hn, hc⟩ := h
  have e : c = (ints k zs).toArray := by
    apply Array.ext_getElem?
    intro i
    by_cases hi : i < zs.length
    · rw [hc i hi]; simp [ints, hi]
    · rw [Array.getElem?_eq_none (by omega)]; simp [ints, List.getElem?_eq_none (show zs.length ≤ i by omega)]
  rw [← e]; exact hb
theorem Row.of_heap {k : IntKind} {T : TypeId} {w : World} {g : Nat} {zs : List Nat} (h : w.heap[g]? = some (.cells (ints k zs).toArray T (0, 0))) : Row k T w g zs :=
  ⟨_, h, by simp [ints], fun i hi => by simp [ints, hi]⟩

theorem wpList_copy_row {w : World} {ops : Array Oper} {rest : List Oper} {o : Oper} {a : Act} {Q : Exit → Act → World → Prop} (hgd : o.guard = none) (d s : Operand)
    (ho : o.op = .call { callee := .builtin .copy, args := #[d, s], argTypes := #[88, 88] })
    (dp sp : Option Addr) (n c m L : Nat) (hd : a.eval d = .slice dp n c) (hs : a.eval s = .slice sp L m)
    (g off : Nat) (zs xs : List Nat) (hr : Row .u64 24 w g zs) (hx : Nums .u64 w sp xs) (hL : L = xs.length) (hn : L ≤ n) (hdp : 0 < L → dp = some ⟨g, off, none⟩) (hfit : off + L ≤ zs.length)
    (h : ∀ w', Row .u64 24 w' g (lay zs off xs) → w.grownBy w' (some g) → wpList Try.prog ops Q rest (a.put o.dst (goInt L)) w') :
    wpList Try.prog ops Q (o :: rest) a w := by
  subst hL
  by_cases h0 : xs = []
  · subst h0
    refine wpList_copy_nothing hgd d s 88 88 ho 24 Try.underlying88 (by kernel_rfl) dp sp n c _ m hd hs (by simp) ?_
    exact h w (by rw [lay_nil]; exact hr) (World.grownBy.refl w _)
  · have hpos : 0 < xs.length := List.length_pos_iff.2 h0
    obtain rfl := hdp hpos
    obtain ⟨g', off', rfl, hg', hc⟩ := hx hpos
    have e : (ints .u64 xs).length = xs.length := by simp [ints]
    refine wpList_copy_own hgd d s 88 88 ho 24 Try.underlying88 (by kernel_rfl) g off n c ⟨g', off', none⟩ xs.length m hd hs _ 24 hr.heap (ints .u64 xs) (by rw [e]; exact (Nat.min_eq_left hn).symm) (fun j v hv => ?_) (by rw [e]; simp [ints]; omega) (fun v hv => ?_) ?_
    · simp only [ints, List.getElem?_map, Option.map_eq_some_iff] at hv
      obtain ⟨x, hx, rfl⟩ := hv
      have := hc j x hx
      unfold Addr.add
      split
      · rename_i h; subst h; exact this
      · exact this
    · simp only [ints, List.mem_map] at hv
      obtain ⟨x, _, rfl⟩ := hv
      rfl
    · rw [e]
      have e2 : ((ints .u64 zs).toArray.toList.take off ++ (ints .u64 xs ++ (ints .u64 zs).toArray.toList.drop (off + xs.length))).toArray = (ints .u64 (lay zs off xs)).toArray := by
        simp [ints, lay, List.map_take, List.map_drop]
      rw [e2]
      refine h _ (Row.of_heap (setRow_heap w g _ _ 24 _ hr.heap)) ?_
      exact ⟨rfl, rfl, rfl, by simp, fun i hi hne => setRow_other w g i _ (by rintro rfl; exact hne rfl)⟩
end Go.Proofs.Ytaegkhdkhgemmaa
