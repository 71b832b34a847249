/- What the frame of a law's proof tells of slices of structures. -/
import Derived.Test.YtpaemlkikkcjiaaShl2
import Derived.Test.YtpaemlkikkcjiaaAMem
import Derived.Deep.Slices
namespace Go.Proofs.Ytpaemlkikkcjiaa
open Go.ChangeShapes Go.WideShapes Go.ChangeAt Go.RowKit

theorem addr_add {b off i : Nat} : (⟨b, off, none⟩ : Addr).add i = ⟨b, off + i, none⟩ := by
  unfold Addr.add
  split
  · rename_i h; subst h; rfl
  · rfl
theorem addr_add2 (a : Addr) (i j : Nat) (h : a.spot = none) : (a.add i).add j = ⟨a.block, a.off + (i + j), none⟩ := by
  obtain ⟨b, off, spot⟩ := a
  simp only at h
  subst h
  rw [addr_add, addr_add, Nat.add_assoc]
/-- Elements of k cells each, whatever they are made of. -/
theorem recs {α : Type} {f : α → List Value} {k : Nat} (hk : 0 < k) (hf : ∀ x, (f x).length = k) {W : World} {a : Addr} {len : Nat}
    (h : ∀ i, i < len → ∃ x : α, ∀ j, j < k → W.cell? ((a.add (i * k)).add j) = (f x)[j]?) : ∃ l : List α, Vals W (some a) (l.flatMap f) ∧ len = l.length := by
  by_cases h0 : len = 0
  · subst h0
    exact ⟨[], Vals.nil, rfl⟩
  · obtain ⟨x0, hx0⟩ := h 0 (by omega)
    refine ⟨(List.range len).map fun i => if hi : i < len then (h i hi).choose else x0, ?_, by simp⟩
    have hc0 := hx0 0 hk
    have hs0 : (f x0)[0]? = some ((f x0)[0]'(by rw [hf]; exact hk)) := List.getElem?_eq_getElem (by rw [hf]; exact hk)
    rw [hs0, Nat.zero_mul] at hc0
    have hspot : a.spot = none := by
      have := World.cell?_spot hc0
      obtain ⟨b, off, spot⟩ := a
      simpa [Addr.add] using this
    have hbl : a.block < W.heap.size := by
      have := block_lt_of_cell hc0
      rw [addr_add2 a 0 0 hspot] at this
      exact this
    intro _
    obtain ⟨b, off, spot⟩ := a
    simp only at hspot hbl
    subst hspot
    refine ⟨b, off, rfl, hbl, fun n v hv => ?_⟩
    have hln : ((List.range len).map fun i => if hi : i < len then (h i hi).choose else x0).length = len := by simp
    have hnl : n < len * k := by
      have := (List.getElem?_eq_some_iff.1 hv).1
      rwa [flat_len hf, hln] at this
    have hd : n / k < len := Nat.div_lt_of_lt_mul (by rw [Nat.mul_comm]; exact hnl)
    have hm : n % k < k := Nat.mod_lt _ hk
    have e : n / k * k + n % k = n := by rw [Nat.mul_comm]; exact Nat.div_add_mod n k
    have hat : ((List.range len).map fun i => if hi : i < len then (h i hi).choose else x0)[n / k]? = some (h (n / k) hd).choose := by
      rw [List.getElem?_map, List.getElem?_range hd]
      simp [hd]
    have h2 := flat_at hf hat hm
    rw [e] at h2
    have h3 := (h (n / k) hd).choose_spec (n % k) hm
    rw [addr_add2 _ _ _ rfl, e] at h3
    rw [h3, ← h2]
    exact hv
/-- What the frame tells of a slice of ties that came in. -/
def TiesArg (w : World) (a : Option Addr) (len cap : Nat) (ts : List T3) : Prop :=
  TiesAt w a ts ∧ len = ts.length ∧ len ≤ cap ∧ (a = none → cap = 0) ∧ cap ≤ maxLen
section
variable {H : Type} {enc : TypeId × Value → H} {w : World} {base : Nat} {spare : Nat → Bool} {held : Bool}
theorem field_int {n : Nat} {cs : List Value} {y : DataW H × List MemPlace} {j : Nat} (h : DataW.trod enc Try.prog w base spare held n 3 ((cs.drop j).take 1) = some y) (hj : j < cs.length) : ∃ x : Int, cs[j]? = some (.int .i64 x) ∧ (Lit.int .i64 x).wf = true := by
  obtain ⟨x, hx, _, hw⟩ := DataW.trod_int Try.underlying3 h
  refine ⟨x, ?_, hw⟩
  have h2 : ((cs.drop j).take 1)[0]? = some (.int .i64 x) := by rw [hx]; rfl
  rw [List.getElem?_take, if_pos (by omega), List.getElem?_drop] at h2
  simpa using h2
theorem field_bool {n : Nat} {cs : List Value} {y : DataW H × List MemPlace} {j : Nat} (h : DataW.trod enc Try.prog w base spare held n 4 ((cs.drop j).take 1) = some y) (hj : j < cs.length) : ∃ x : Bool, cs[j]? = some (.bool x) := by
  obtain ⟨x, hx, _⟩ := DataW.trod_bool Try.underlying4 h
  refine ⟨x, ?_⟩
  have h2 : ((cs.drop j).take 1)[0]? = some (.bool x) := by rw [hx]; rfl
  rw [List.getElem?_take, if_pos (by omega), List.getElem?_drop] at h2
  simpa using h2
theorem cells39 : Try.prog.cellsOf 39 = 3 := by kernel_rfl
theorem cells3 : Try.prog.cellsOf 3 = 1 := by kernel_rfl
theorem cells4 : Try.prog.cellsOf 4 = 1 := by kernel_rfl
theorem open_ties {fuel : Nat} {cs : List Value} {x : DataW H × List MemPlace} (h : DataW.trod enc Try.prog w base spare held fuel 22 cs = some x) :
    ∃ a len cap, cs = [.slice a len cap] ∧ len ≤ cap ∧ cap ≤ maxLen ∧ (a = none → cap = 0) ∧ ∃ ts : List T3, TiesAt w a ts ∧ len = ts.length := by
  rcases Go.Deep.open_slice Try.underlying22 h with ⟨h0, _⟩ | ⟨a, len, cap, m, n, D, Pl, hcs, hb, hl, hm, hmm, _, hi⟩
  · exact ⟨none, 0, 0, h0, Nat.le_refl _, by unfold maxLen; omega, fun _ => rfl, [], Vals.nil, rfl⟩
  · refine ⟨some a, len, cap, hcs, hl, hm, (by intro e; cases e), ?_⟩
    refine recs (f := tieC) (k := 3) (by omega) tieC_len fun i hil => ?_
    obtain ⟨cs', hc, ht'⟩ := hi i (by rw [hmm]; split <;> omega)
    rw [cells39] at hc
    obtain ⟨_, hcl, hat⟩ := World.cells?_some hc
    obtain ⟨ys, n', _, _, _, hyl, hff⟩ := DataW.trod_struct Try.underlying39 ht'
    have g : ∀ (j : Nat) (fd : Field), (#[({ name := "A", type := 3, offset := 0, embedded := false, tag := "", pkgPath := "", byteOffset := 0 } : Field), { name := "B", type := 3, offset := 1, embedded := false, tag := "", pkgPath := "", byteOffset := 8 }, { name := "Least", type := 3, offset := 2, embedded := false, tag := "", pkgPath := "", byteOffset := 16 }])[j]? = some fd → fd.type = 3 → fd.offset = j → j < 3 → ∃ x : Int, cs'[j]? = some (.int .i64 x) := by
      intro j fd hj h3 h4 h5
      have h6 := hff j fd hj
      rw [h3, h4, cells3] at h6
      have h7 : ∃ y, ys[j]? = some y := ⟨ys[j]'(by rw [hyl]; exact h5), List.getElem?_eq_getElem _⟩
      obtain ⟨y, hy⟩ := h7
      rw [hy] at h6
      obtain ⟨x, hx, _⟩ := field_int h6 (by omega)
      exact ⟨x, hx⟩
    obtain ⟨x0, e0⟩ := g 0 _ rfl rfl rfl (by omega)
    obtain ⟨x1, e1⟩ := g 1 _ rfl rfl rfl (by omega)
    obtain ⟨x2, e2⟩ := g 2 _ rfl rfl rfl (by omega)
    refine ⟨⟨x0, x1, x2⟩, fun j hj => ?_⟩
    rw [hat j hj]
    match j, hj with
    | 0, _ => exact e0
    | 1, _ => exact e1
    | 2, _ => exact e2
end
end Go.Proofs.Ytpaemlkikkcjiaa
