/- What the frame tells of shapes, cuts and a panel. -/
import Derived.Test.YtkfjlgjncaddpaaShl2
import Derived.Test.YtkfjlgjncaddpaaPMem
import Derived.Deep.Slices
import Derived.WideKeyPair
namespace Go.Proofs.Ytkfjlgjncaddpaa
open Go.ChangeShapes Go.WideShapes Go.ChangeAt Go.RowKit

theorem addr_add {b off i : Nat} : (⟨b, off, none⟩ : Addr).add i = ⟨b, off + i, none⟩ := by
  unfold Addr.add
  split
  · rename_i h; subst h; rfl
  · rfl
theorem addr_add2 (a : Addr) (i j : Nat) (h : a.spot = none) : (a.add i).add j = ⟨a.block, a.off + (i + j), none⟩ := by
  obtain ⟨b, off, spot⟩ := a
  simp only at h
  subst h
  rw [addr_add, addr_add, Nat.add_assoc]
/-- Elements of k cells each, whatever they are made of. -/
theorem recs {α : Type} {f : α → List Value} {k : Nat} (hk : 0 < k) (hf : ∀ x, (f x).length = k) {W : World} {a : Addr} {len : Nat}
    (h : ∀ i, i < len → ∃ x : α, ∀ j, j < k → W.cell? ((a.add (i * k)).add j) = (f x)[j]?) : ∃ l : List α, Vals W (some a) (l.flatMap f) ∧ len = l.length := by
  by_cases h0 : len = 0
  · subst h0
    exact ⟨[], Vals.nil, rfl⟩
  · obtain ⟨x0, hx0⟩ := h 0 (by omega)
    refine ⟨(List.range len).map fun i => if hi : i < len then (h i hi).choose else x0, ?_, by simp⟩
    have hc0 := hx0 0 hk
    have hs0 : (f x0)[0]? = some ((f x0)[0]'(by rw [hf]; exact hk)) := List.getElem?_eq_getElem (by rw [hf]; exact hk)
    rw [hs0, Nat.zero_mul] at hc0
    have hspot : a.spot = none := by
      have := World.cell?_spot hc0
      obtain ⟨b, off, spot⟩ := a
      simpa [Addr.add] using this
    have hbl : a.block < W.heap.size := by
      have := block_lt_of_cell hc0
      rw [addr_add2 a 0 0 hspot] at this
      exact this
    intro _
    obtain ⟨b, off, spot⟩ := a
    simp only at hspot hbl
    subst hspot
    refine ⟨b, off, rfl, hbl, fun n v hv => ?_⟩
    have hln : ((List.range len).map fun i => if hi : i < len then (h i hi).choose else x0).length = len := by simp
    have hnl : n < len * k := by
      have := (List.getElem?_eq_some_iff.1 hv).1
      rwa [flat_len hf, hln] at this
    have hd : n / k < len := Nat.div_lt_of_lt_mul (by rw [Nat.mul_comm]; exact hnl)
    have hm : n % k < k := Nat.mod_lt _ hk
    have e : n / k * k + n % k = n := by rw [Nat.mul_comm]; exact Nat.div_add_mod n k
    have hat : ((List.range len).map fun i => if hi : i < len then (h i hi).choose else x0)[n / k]? = some (h (n / k) hd).choose := by
      rw [List.getElem?_map, List.getElem?_range hd]
      simp [hd]
    have h2 := flat_at hf hat hm
    rw [e] at h2
    have h3 := (h (n / k) hd).choose_spec (n % k) hm
    rw [addr_add2 _ _ _ rfl, e] at h3
    rw [h3, ← h2]
    exact hv

/-- What the frame tells of a slice of shapes that came in; of cuts. -/
def ShArg (w : World) (a : Option Addr) (len cap : Nat) (l : List Sh) : Prop := Vals w a (sc l) ∧ len = l.length ∧ len ≤ cap ∧ (a = none → cap = 0) ∧ cap ≤ maxLen
def CuArg (w : World) (a : Option Addr) (len cap : Nat) (l : List Cu) : Prop := Vals w a (cc l) ∧ len = l.length ∧ len ≤ cap ∧ (a = none → cap = 0) ∧ cap ≤ maxLen
section
variable {H : Type} {enc : TypeId × Value → H} {w : World} {base : Nat} {spare : Nat → Bool} {held : Bool}
theorem field_int {n : Nat} {cs : List Value} {y : DataW H × List MemPlace} {j : Nat} (h : DataW.trod enc Try.prog w base spare held n 3 ((cs.drop j).take 1) = some y) (hj : j < cs.length) : ∃ x : Int, cs[j]? = some (.int .i64 x) ∧ (Lit.int .i64 x).wf = true := by
  obtain ⟨x, hx, _, hw⟩ := DataW.trod_int Try.underlying3 h
  refine ⟨x, ?_, hw⟩
  have h2 : ((cs.drop j).take 1)[0]? = some (.int .i64 x) := by rw [hx]; rfl
  rw [List.getElem?_take, if_pos (by omega), List.getElem?_drop] at h2
  simpa using h2
theorem field_bool {n : Nat} {cs : List Value} {y : DataW H × List MemPlace} {j : Nat} (h : DataW.trod enc Try.prog w base spare held n 4 ((cs.drop j).take 1) = some y) (hj : j < cs.length) : ∃ x : Bool, cs[j]? = some (.bool x) := by
  obtain ⟨x, hx, _⟩ := DataW.trod_bool Try.underlying4 h
  refine ⟨x, ?_⟩
  have h2 : ((cs.drop j).take 1)[0]? = some (.bool x) := by rw [hx]; rfl
  rw [List.getElem?_take, if_pos (by omega), List.getElem?_drop] at h2
  simpa using h2
theorem cells3 : Try.prog.cellsOf 3 = 1 := by kernel_rfl
theorem cells4 : Try.prog.cellsOf 4 = 1 := by kernel_rfl
theorem cells65 : Try.prog.cellsOf 65 = 4 := by kernel_rfl
set_option maxRecDepth 100000 in
theorem open_shapes {fuel : Nat} {cs : List Value} {x : DataW H × List MemPlace} (h : DataW.trod enc Try.prog w base spare held fuel 22 cs = some x) :
    ∃ a len cap, cs = [.slice a len cap] ∧ ∃ ts : List Sh, ShArg w a len cap ts := by
  rcases Go.Deep.open_slice Try.underlying22 h with ⟨h0, _⟩ | ⟨a, len, cap, m, n, D, Pl, hcs, hb, hl, hm, hmm, _, hi⟩
  · exact ⟨none, 0, 0, h0, [], Vals.nil, rfl, Nat.le_refl _, fun _ => rfl, by unfold maxLen; omega⟩
  · have key : ∃ l : List Sh, Vals w (some a) (l.flatMap shC) ∧ len = l.length := by
      refine recs (f := shC) (k := 4) (by omega) shC_len fun i hil => ?_
      obtain ⟨cs', hc, ht'⟩ := hi i (by rw [hmm]; split <;> omega)
      rw [cells65] at hc
      obtain ⟨_, hcl, hat⟩ := World.cells?_some hc
      obtain ⟨ys, n', _, _, _, hyl, hff⟩ := DataW.trod_struct Try.underlying65 ht'
      have g : ∀ (j : Nat) (fd : Field), (#[({ name := "W", type := 3, offset := 0, embedded := false, tag := "", pkgPath := "", byteOffset := 0 } : Field), { name := "H", type := 3, offset := 1, embedded := false, tag := "", pkgPath := "", byteOffset := 8 }, { name := "Value", type := 3, offset := 2, embedded := false, tag := "", pkgPath := "", byteOffset := 16 }, { name := "Turn", type := 4, offset := 3, embedded := false, tag := "", pkgPath := "", byteOffset := 24 }])[j]? = some fd → fd.type = 3 → fd.offset = j → j < 4 → ∃ x : Int, cs'[j]? = some (.int .i64 x) := by
        intro j fd hj h3 h4 h5
        have h6 := hff j fd hj
        rw [h3, h4, cells3] at h6
        have h7 : ∃ y, ys[j]? = some y := ⟨ys[j]'(by rw [hyl]; exact h5), List.getElem?_eq_getElem _⟩
        obtain ⟨y, hy⟩ := h7
        rw [hy] at h6
        obtain ⟨x, hx, _⟩ := field_int h6 (by omega)
        exact ⟨x, hx⟩
      have gb : ∀ (j : Nat) (fd : Field), (#[({ name := "W", type := 3, offset := 0, embedded := false, tag := "", pkgPath := "", byteOffset := 0 } : Field), { name := "H", type := 3, offset := 1, embedded := false, tag := "", pkgPath := "", byteOffset := 8 }, { name := "Value", type := 3, offset := 2, embedded := false, tag := "", pkgPath := "", byteOffset := 16 }, { name := "Turn", type := 4, offset := 3, embedded := false, tag := "", pkgPath := "", byteOffset := 24 }])[j]? = some fd → fd.type = 4 → fd.offset = j → j < 4 → ∃ x : Bool, cs'[j]? = some (.bool x) := by
        intro j fd hj h3 h4 h5
        have h6 := hff j fd hj
        rw [h3, h4, cells4] at h6
        have h7 : ∃ y, ys[j]? = some y := ⟨ys[j]'(by rw [hyl]; exact h5), List.getElem?_eq_getElem _⟩
        obtain ⟨y, hy⟩ := h7
        rw [hy] at h6
        exact field_bool h6 (by omega)
      obtain ⟨x0, e0⟩ := g 0 _ rfl rfl rfl (by omega)
      obtain ⟨x1, e1⟩ := g 1 _ rfl rfl rfl (by omega)
      obtain ⟨x2, e2⟩ := g 2 _ rfl rfl rfl (by omega)
      obtain ⟨x3, e3⟩ := gb 3 _ rfl rfl rfl (by omega)
      refine ⟨⟨x0, x1, x2, x3⟩, fun j hj => ?_⟩
      rw [hat j hj]
      match j, hj with
      | 0, _ => exact e0
      | 1, _ => exact e1
      | 2, _ => exact e2
      | 3, _ => exact e3
    obtain ⟨l, h1, h2⟩ := key
    exact ⟨some a, len, cap, hcs, l, h1, h2, hl, (by intro e; cases e), hm⟩

theorem cells73 : Try.prog.cellsOf 73 = 2 := by kernel_rfl
set_option maxRecDepth 100000 in
theorem open_cuts {fuel : Nat} {cs : List Value} {x : DataW H × List MemPlace} (h : DataW.trod enc Try.prog w base spare held fuel 36 cs = some x) :
    ∃ a len cap, cs = [.slice a len cap] ∧ ∃ ts : List Cu, CuArg w a len cap ts := by
  rcases Go.Deep.open_slice Try.underlying36 h with ⟨h0, _⟩ | ⟨a, len, cap, m, n, D, Pl, hcs, hb, hl, hm, hmm, _, hi⟩
  · exact ⟨none, 0, 0, h0, [], Vals.nil, rfl, Nat.le_refl _, fun _ => rfl, by unfold maxLen; omega⟩
  · have key : ∃ l : List Cu, Vals w (some a) (l.flatMap cuC) ∧ len = l.length := by
      refine recs (f := cuC) (k := 2) (by omega) cuC_len fun i hil => ?_
      obtain ⟨cs', hc, ht'⟩ := hi i (by rw [hmm]; split <;> omega)
      rw [cells73] at hc
      obtain ⟨_, hcl, hat⟩ := World.cells?_some hc
      obtain ⟨ys, n', _, _, _, hyl, hff⟩ := DataW.trod_struct Try.underlying73 ht'
      have g : ∀ (j : Nat) (fd : Field), (#[({ name := "Kind", type := 3, offset := 0, embedded := false, tag := "", pkgPath := "", byteOffset := 0 } : Field), { name := "At", type := 3, offset := 1, embedded := false, tag := "", pkgPath := "", byteOffset := 8 }])[j]? = some fd → fd.type = 3 → fd.offset = j → j < 2 → ∃ x : Int, cs'[j]? = some (.int .i64 x) := by
        intro j fd hj h3 h4 h5
        have h6 := hff j fd hj
        rw [h3, h4, cells3] at h6
        have h7 : ∃ y, ys[j]? = some y := ⟨ys[j]'(by rw [hyl]; exact h5), List.getElem?_eq_getElem _⟩
        obtain ⟨y, hy⟩ := h7
        rw [hy] at h6
        obtain ⟨x, hx, _⟩ := field_int h6 (by omega)
        exact ⟨x, hx⟩
      obtain ⟨x0, e0⟩ := g 0 _ rfl rfl rfl (by omega)
      obtain ⟨x1, e1⟩ := g 1 _ rfl rfl rfl (by omega)
      refine ⟨⟨x0, x1⟩, fun j hj => ?_⟩
      rw [hat j hj]
      match j, hj with
      | 0, _ => exact e0
      | 1, _ => exact e1
    obtain ⟨l, h1, h2⟩ := key
    exact ⟨some a, len, cap, hcs, l, h1, h2, hl, (by intro e; cases e), hm⟩
end
set_option maxRecDepth 100000 in
theorem open_panel {H : Type} {enc : TypeId × Value → H} {W : World} {v : Value} {d : DataW H} {ps : List MemPlace} (hval : Value.okWide Try.prog W .any 0 24 v) (hd : DataW.Trod enc Try.prog W 0 (fun _ => true) true 24 v d ps) :
    ∃ (x y z : Int) (a : Option Addr) (len cap : Nat) (l : List Sh), v = .agg #[.int .i64 x, .int .i64 y, .int .i64 z, .slice a len cap] ∧ ShArg W a len cap l ∧ (Lit.int .i64 x).wf = true ∧ (Lit.int .i64 y).wf = true ∧ (Lit.int .i64 z).wf = true := by
  obtain ⟨cs, rfl, hsz⟩ := okWide_struct Try.underlying24 hval
  have h2 : cs.size = 4 := hsz.trans (by kernel_rfl)
  obtain ⟨c0, c1, c2, c3, rfl⟩ : ∃ c0 c1 c2 c3, cs = #[c0, c1, c2, c3] := by
    obtain ⟨l⟩ := cs
    match l, h2 with
    | [c0, c1, c2, c3], _ => exact ⟨c0, c1, c2, c3, rfl⟩
  obtain ⟨fuel, hf⟩ := hd
  cases fuel with
  | zero => simp [DataW.trod] at hf
  | succ n =>
    rw [DataW.trod_step] at hf
    unfold DataW.trodStep at hf
    simp only [Try.underlying24, Value.cells] at hf
    rw [if_pos (by kernel_rfl)] at hf
    simp only [Option.map_eq_some_iff] at hf
    obtain ⟨xs, hx, _⟩ := hf
    simp only [List.mapM_cons, List.mapM_nil, bind, Option.bind_eq_some_iff, pure, Option.some.injEq] at hx
    obtain ⟨y0, h0, _, ⟨y1, h1, _, ⟨y2, h2, _, ⟨y3, h3, _, rfl, rfl⟩, rfl⟩, rfl⟩, rfl⟩ := hx
    have c3 : Try.prog.cellsOf 3 = 1 := by kernel_rfl
    have c22 : Try.prog.cellsOf 22 = 1 := by kernel_rfl
    rw [c3] at h0 h1 h2
    rw [c22] at h3
    simp only [List.drop_zero, List.drop_succ_cons, List.take_succ_cons, List.take_zero] at h0 h1 h2 h3
    obtain ⟨m0, e0, _, f0⟩ := DataW.trod_int Try.underlying3 h0
    obtain ⟨m1, e1, _, f1⟩ := DataW.trod_int Try.underlying3 h1
    obtain ⟨m2, e2, _, f2⟩ := DataW.trod_int Try.underlying3 h2
    obtain ⟨a, len, cap, hcs, l, hl⟩ := open_shapes h3
    simp at e0 e1 e2 hcs
    exact ⟨m0, m1, m2, a, len, cap, l, by rw [e0, e1, e2, hcs], hl, f0, f1, f2⟩
set_option maxRecDepth 100000 in
theorem open_shape {H : Type} {enc : TypeId × Value → H} {W : World} {v : Value} {d : DataW H} {ps : List MemPlace} (hval : Value.okWide Try.prog W .any 0 65 v) (hd : DataW.Trod enc Try.prog W 0 (fun _ => true) true 65 v d ps) :
    ∃ (x y z : Int) (t : Bool), v = .agg #[.int .i64 x, .int .i64 y, .int .i64 z, .bool t] := by
  obtain ⟨cs, rfl, hsz⟩ := okWide_struct Try.underlying65 hval
  have h2 : cs.size = 4 := hsz.trans (by kernel_rfl)
  obtain ⟨c0, c1, c2, c3, rfl⟩ : ∃ c0 c1 c2 c3, cs = #[c0, c1, c2, c3] := by
    obtain ⟨l⟩ := cs
    match l, h2 with
    | [c0, c1, c2, c3], _ => exact ⟨c0, c1, c2, c3, rfl⟩
  obtain ⟨fuel, hf⟩ := hd
  cases fuel with
  | zero => simp [DataW.trod] at hf
  | succ n =>
    rw [DataW.trod_step] at hf
    unfold DataW.trodStep at hf
    simp only [Try.underlying65, Value.cells] at hf
    rw [if_pos (by kernel_rfl)] at hf
    simp only [Option.map_eq_some_iff] at hf
    obtain ⟨xs, hx, _⟩ := hf
    simp only [List.mapM_cons, List.mapM_nil, bind, Option.bind_eq_some_iff, pure, Option.some.injEq] at hx
    obtain ⟨y0, h0, _, ⟨y1, h1, _, ⟨y2, h2, _, ⟨y3, h3, _, rfl, rfl⟩, rfl⟩, rfl⟩, rfl⟩ := hx
    have c3 : Try.prog.cellsOf 3 = 1 := by kernel_rfl
    have c4 : Try.prog.cellsOf 4 = 1 := by kernel_rfl
    rw [c3] at h0 h1 h2
    rw [c4] at h3
    simp only [List.drop_zero, List.drop_succ_cons, List.take_succ_cons, List.take_zero] at h0 h1 h2 h3
    obtain ⟨m0, e0, _, f0⟩ := DataW.trod_int Try.underlying3 h0
    obtain ⟨m1, e1, _, f1⟩ := DataW.trod_int Try.underlying3 h1
    obtain ⟨m2, e2, _, f2⟩ := DataW.trod_int Try.underlying3 h2
    obtain ⟨m3, e3, _⟩ := DataW.trod_bool Try.underlying4 h3
    simp at e0 e1 e2 e3
    exact ⟨m0, m1, m2, m3, by rw [e0, e1, e2, e3]⟩
theorem wf_i64 {x : Int} (h : (Lit.int .i64 x).wf = true) : -9223372036854775808 ≤ x ∧ x ≤ 9223372036854775807 := by
  have h1 : IntKind.i64.min ≤ x ∧ x ≤ IntKind.i64.max := by simpa [Lit.wf] using h
  have e1 : IntKind.i64.min = -9223372036854775808 := by rfl
  have e2 : IntKind.i64.max = 9223372036854775807 := by rfl
  rw [e1, e2] at h1
  exact h1
end Go.Proofs.Ytkfjlgjncaddpaa
