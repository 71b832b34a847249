/- What the frame tells of jacks, quills, a shop, a matching and a place. -/
import Derived.Test.YtncmfjncdhhjoaaShl3
import Derived.Test.YtncmfjncdhhjoaaJkM
import Derived.Deep.Slices
import Derived.WideKeyPair
namespace Go.Proofs.Ytncmfjncdhhjoaa
open Go.ChangeShapes Go.WideShapes Go.ChangeAt Go.RowKit

theorem addr_add2 (a : Addr) (i j : Nat) (h : a.spot = none) : (a.add i).add j = ⟨a.block, a.off + (i + j), none⟩ := by
  obtain ⟨b, off, spot⟩ := a
  simp only at h
  subst h
  rw [addr_add, addr_add, Nat.add_assoc]
/-- Elements of k cells each, whatever they are made of. -/
theorem recs {α : Type} {f : α → List Value} {k : Nat} (hk : 0 < k) (hf : ∀ x, (f x).length = k) {W : World} {a : Addr} {len : Nat}
    (h : ∀ i, i < len → ∃ x : α, ∀ j, j < k → W.cell? ((a.add (i * k)).add j) = (f x)[j]?) : ∃ l : List α, Vals W (some a) (l.flatMap f) ∧ len = l.length := by
  by_cases h0 : len = 0
  · subst h0
    exact ⟨[], Vals.nil, rfl⟩
  · obtain ⟨x0, hx0⟩ := h 0 (by omega)
    refine ⟨(List.range len).map fun i => if hi : i < len then (h i hi).choose else x0, ?_, by simp⟩
    have hc0 := hx0 0 hk
    have hs0 : (f x0)[0]? = some ((f x0)[0]'(by rw [hf]; exact hk)) := List.getElem?_eq_getElem (by rw [hf]; exact hk)
    rw [hs0, Nat.zero_mul] at hc0
    have hspot : a.spot = none := by
      have := World.cell?_spot hc0
      obtain ⟨b, off, spot⟩ := a
      simpa [Addr.add] using this
    have hbl : a.block < W.heap.size := by
      have := block_lt_of_cell hc0
      rw [addr_add2 a 0 0 hspot] at this
      exact this
    intro _
    obtain ⟨b, off, spot⟩ := a
    simp only at hspot hbl
    subst hspot
    refine ⟨b, off, rfl, hbl, fun n v hv => ?_⟩
    have hln : ((List.range len).map fun i => if hi : i < len then (h i hi).choose else x0).length = len := by simp
    have hnl : n < len * k := by
      have := (List.getElem?_eq_some_iff.1 hv).1
      rwa [flat_len hf, hln] at this
    have hd : n / k < len := Nat.div_lt_of_lt_mul (by rw [Nat.mul_comm]; exact hnl)
    have hm : n % k < k := Nat.mod_lt _ hk
    have e : n / k * k + n % k = n := by rw [Nat.mul_comm]; exact Nat.div_add_mod n k
    have hat : ((List.range len).map fun i => if hi : i < len then (h i hi).choose else x0)[n / k]? = some (h (n / k) hd).choose := by
      rw [List.getElem?_map, List.getElem?_range hd]
      simp [hd]
    have h2 := flat_at hf hat hm
    rw [e] at h2
    have h3 := (h (n / k) hd).choose_spec (n % k) hm
    rw [addr_add2 _ _ _ rfl, e] at h3
    rw [h3, ← h2]
    exact hv

/-- What the frame tells of a slice of pairs that came in. -/
def JArg (w : World) (a : Option Addr) (len cap : Nat) (l : List J2) : Prop := JAt w a l ∧ len = l.length ∧ len ≤ cap ∧ (a = none → cap = 0) ∧ cap ≤ maxLen ∧ ∀ x ∈ l, (Lit.int .i64 x.a).wf = true ∧ (Lit.int .i64 x.b).wf = true
theorem wf_i64 {x : Int} (h : (Lit.int .i64 x).wf = true) : -9223372036854775808 ≤ x ∧ x ≤ 9223372036854775807 := by
  have h1 : IntKind.i64.min ≤ x ∧ x ≤ IntKind.i64.max := by simpa [Lit.wf] using h
  have e1 : IntKind.i64.min = -9223372036854775808 := by rfl
  have e2 : IntKind.i64.max = 9223372036854775807 := by rfl
  rw [e1, e2] at h1
  exact h1
section
variable {H : Type} {enc : TypeId × Value → H} {w : World} {base : Nat} {spare : Nat → Bool} {held : Bool}
theorem field_int {n : Nat} {cs : List Value} {y : DataW H × List MemPlace} {j : Nat} (h : DataW.trod enc Try.prog w base spare held n 3 ((cs.drop j).take 1) = some y) (hj : j < cs.length) : ∃ x : Int, cs[j]? = some (.int .i64 x) ∧ (Lit.int .i64 x).wf = true := by
  obtain ⟨x, hx, _, hw⟩ := DataW.trod_int Try.underlying3 h
  refine ⟨x, ?_, hw⟩
  have h2 : ((cs.drop j).take 1)[0]? = some (.int .i64 x) := by rw [hx]; rfl
  rw [List.getElem?_take, if_pos (by omega), List.getElem?_drop] at h2
  simpa using h2
theorem cells3 : Try.prog.cellsOf 3 = 1 := by kernel_rfl
theorem cells66 : Try.prog.cellsOf 66 = 2 := by kernel_rfl
theorem cells68 : Try.prog.cellsOf 68 = 2 := by kernel_rfl
theorem recs2 {W : World} {a : Addr} {len : Nat} (h : ∀ i, i < len → ∃ x : J2, (∀ j, j < 2 → W.cell? ((a.add (i * 2)).add j) = (jC x)[j]?) ∧ (Lit.int .i64 x.a).wf = true ∧ (Lit.int .i64 x.b).wf = true) :
    ∃ l : List J2, Vals W (some a) (jc l) ∧ len = l.length ∧ ∀ x ∈ l, (Lit.int .i64 x.a).wf = true ∧ (Lit.int .i64 x.b).wf = true := by
  obtain ⟨l, h1, h2⟩ := recs (f := jC) (k := 2) (by omega) jC_len (fun i hi => by obtain ⟨x, hx, _⟩ := h i hi; exact ⟨x, hx⟩)
  refine ⟨l, h1, h2, fun x hx => ?_⟩
  obtain ⟨i, hi⟩ := List.getElem?_of_mem hx
  have hil := (List.getElem?_eq_some_iff.1 hi).1
  obtain ⟨y, hy, hw⟩ := h i (by omega)
  obtain ⟨g, off, e, hg, hc⟩ := h1 (by rw [flat_len jC_len]; omega)
  injection e with e
  subst e
  have k0 := hc _ _ ((flat_at jC_len hi (j := 0) (by omega)).trans rfl)
  have k1 := hc _ _ ((flat_at jC_len hi (j := 1) (by omega)).trans rfl)
  have m0 := hy 0 (by omega)
  have m1 := hy 1 (by omega)
  rw [addr_add2 _ _ _ rfl] at m0 m1
  simp only at m0 m1
  have n0 : some (Value.int .i64 x.a) = some (Value.int .i64 y.a) := k0.symm.trans (m0.trans rfl)
  have n1 : some (Value.int .i64 x.b) = some (Value.int .i64 y.b) := k1.symm.trans (m1.trans rfl)
  have q0 : x.a = y.a := by simpa using n0
  have q1 : x.b = y.b := by simpa using n1
  rw [q0, q1]; exact hw
set_option maxRecDepth 100000 in
theorem open_jacks {fuel : Nat} {cs : List Value} {x : DataW H × List MemPlace} (h : DataW.trod enc Try.prog w base spare held fuel 54 cs = some x) :
    ∃ a len cap, cs = [.slice a len cap] ∧ ∃ ts : List J2, JArg w a len cap ts := by
  rcases Go.Deep.open_slice Try.underlying54 h with ⟨h0, _⟩ | ⟨a, len, cap, m, n, D, Pl, hcs, hb, hl, hm, hmm, _, hi⟩
  · exact ⟨none, 0, 0, h0, [], Vals.nil, rfl, Nat.le_refl _, fun _ => rfl, by unfold maxLen; omega, by simp⟩
  · obtain ⟨l, h1, h2, h3⟩ := recs2 (W := w) (a := a) (len := len) fun i hil => by
      obtain ⟨cs', hc, ht'⟩ := hi i (by rw [hmm]; split <;> omega)
      rw [cells68] at hc
      obtain ⟨_, hcl, hat⟩ := World.cells?_some hc
      obtain ⟨ys, n', _, _, _, hyl, hff⟩ := DataW.trod_struct Try.underlying68 ht'
      have g : ∀ (j : Nat) (fd : Field), (#[({ name := "Want", type := 3, offset := 0, embedded := false, tag := "", pkgPath := "", byteOffset := 0 } : Field), { name := "Reach", type := 3, offset := 1, embedded := false, tag := "", pkgPath := "", byteOffset := 8 }])[j]? = some fd → fd.type = 3 → fd.offset = j → j < 2 → ∃ x : Int, cs'[j]? = some (.int .i64 x) ∧ (Lit.int .i64 x).wf = true := by
        intro j fd hj h3 h4 h5
        have h6 := hff j fd hj
        rw [h3, h4, cells3] at h6
        have h7 : ∃ y, ys[j]? = some y := ⟨ys[j]'(by rw [hyl]; exact h5), List.getElem?_eq_getElem _⟩
        obtain ⟨y, hy⟩ := h7
        rw [hy] at h6
        exact field_int h6 (by omega)
      obtain ⟨x0, e0, f0⟩ := g 0 _ rfl rfl rfl (by omega)
      obtain ⟨x1, e1, f1⟩ := g 1 _ rfl rfl rfl (by omega)
      refine ⟨⟨x0, x1⟩, fun j hj => ?_, f0, f1⟩
      rw [hat j hj]
      match j, hj with
      | 0, _ => exact e0
      | 1, _ => exact e1
    exact ⟨some a, len, cap, hcs, l, h1, h2, hl, (by intro e; cases e), hm, h3⟩
set_option maxRecDepth 100000 in
theorem open_quills {fuel : Nat} {cs : List Value} {x : DataW H × List MemPlace} (h : DataW.trod enc Try.prog w base spare held fuel 55 cs = some x) :
    ∃ a len cap, cs = [.slice a len cap] ∧ ∃ ts : List J2, JArg w a len cap ts := by
  rcases Go.Deep.open_slice Try.underlying55 h with ⟨h0, _⟩ | ⟨a, len, cap, m, n, D, Pl, hcs, hb, hl, hm, hmm, _, hi⟩
  · exact ⟨none, 0, 0, h0, [], Vals.nil, rfl, Nat.le_refl _, fun _ => rfl, by unfold maxLen; omega, by simp⟩
  · obtain ⟨l, h1, h2, h3⟩ := recs2 (W := w) (a := a) (len := len) fun i hil => by
      obtain ⟨cs', hc, ht'⟩ := hi i (by rw [hmm]; split <;> omega)
      rw [cells66] at hc
      obtain ⟨_, hcl, hat⟩ := World.cells?_some hc
      obtain ⟨ys, n', _, _, _, hyl, hff⟩ := DataW.trod_struct Try.underlying66 ht'
      have g : ∀ (j : Nat) (fd : Field), (#[({ name := "Stiff", type := 3, offset := 0, embedded := false, tag := "", pkgPath := "", byteOffset := 0 } : Field), { name := "Length", type := 3, offset := 1, embedded := false, tag := "", pkgPath := "", byteOffset := 8 }])[j]? = some fd → fd.type = 3 → fd.offset = j → j < 2 → ∃ x : Int, cs'[j]? = some (.int .i64 x) ∧ (Lit.int .i64 x).wf = true := by
        intro j fd hj h3 h4 h5
        have h6 := hff j fd hj
        rw [h3, h4, cells3] at h6
        have h7 : ∃ y, ys[j]? = some y := ⟨ys[j]'(by rw [hyl]; exact h5), List.getElem?_eq_getElem _⟩
        obtain ⟨y, hy⟩ := h7
        rw [hy] at h6
        exact field_int h6 (by omega)
      obtain ⟨x0, e0, f0⟩ := g 0 _ rfl rfl rfl (by omega)
      obtain ⟨x1, e1, f1⟩ := g 1 _ rfl rfl rfl (by omega)
      refine ⟨⟨x0, x1⟩, fun j hj => ?_, f0, f1⟩
      rw [hat j hj]
      match j, hj with
      | 0, _ => exact e0
      | 1, _ => exact e1
    exact ⟨some a, len, cap, hcs, l, h1, h2, hl, (by intro e; cases e), hm, h3⟩
theorem open_row {fuel : Nat} {cs : List Value} {x : DataW H × List MemPlace} (hf : DataW.trod enc Try.prog w base (fun _ => true) held fuel 23 cs = some x) :
    ∃ a len cap zs, cs = [.slice a len cap] ∧ IsRow w a len cap zs := by
  rcases open_ints Try.underlying23 Try.underlying3 (by kernel_rfl) hf with ⟨hcs, _⟩ | ⟨x, l, c, zs, hcs, _, hl, hm, hz, _, hcell, hwz⟩
  · exact ⟨none, 0, 0, [], hcs, .inl ⟨rfl, rfl, rfl, rfl⟩⟩
  · exact ⟨some x, l, c, zs, hcs, .inr ⟨_, rfl, hl, hm, by simpa using hz, hcell, hwz⟩⟩
end
set_option maxRecDepth 100000 in
theorem open_shop {H : Type} {enc : TypeId × Value → H} {W : World} {v : Value} {d : DataW H} {ps : List MemPlace} (hval : Value.okWide Try.prog W .any 0 57 v) (hd : DataW.Trod enc Try.prog W 0 (fun _ => true) true 57 v d ps) :
    ∃ (a : Option Addr) (len cap : Nat) (l : List J2) (a' : Option Addr) (len' cap' : Nat) (l' : List J2) (y z : Int), v = .agg #[.slice a len cap, .slice a' len' cap', .int .i64 y, .int .i64 z] ∧ JArg W a len cap l ∧ JArg W a' len' cap' l' ∧ (Lit.int .i64 y).wf = true ∧ (Lit.int .i64 z).wf = true := by
  obtain ⟨cs, rfl, hsz⟩ := okWide_struct Try.underlying57 hval
  have h2 : cs.size = 4 := hsz.trans (by kernel_rfl)
  obtain ⟨c0, c1, c2, c3, rfl⟩ : ∃ c0 c1 c2 c3, cs = #[c0, c1, c2, c3] := by
    obtain ⟨l⟩ := cs
    match l, h2 with
    | [c0, c1, c2, c3], _ => exact ⟨c0, c1, c2, c3, rfl⟩
  obtain ⟨fuel, hf⟩ := hd
  cases fuel with
  | zero => simp [DataW.trod] at hf
  | succ n =>
    rw [DataW.trod_step] at hf
    unfold DataW.trodStep at hf
    simp only [Try.underlying57, Value.cells] at hf
    rw [if_pos (by kernel_rfl)] at hf
    simp only [Option.map_eq_some_iff] at hf
    obtain ⟨xs, hx, _⟩ := hf
    simp only [List.mapM_cons, List.mapM_nil, bind, Option.bind_eq_some_iff, pure, Option.some.injEq] at hx
    obtain ⟨y0, h0, _, ⟨y1, h1, _, ⟨y2, h2, _, ⟨y3, h3, _, rfl, rfl⟩, rfl⟩, rfl⟩, rfl⟩ := hx
    have c3 : Try.prog.cellsOf 3 = 1 := by kernel_rfl
    have c54 : Try.prog.cellsOf 54 = 1 := by kernel_rfl
    have c55 : Try.prog.cellsOf 55 = 1 := by kernel_rfl
    rw [c3] at h2 h3
    rw [c54] at h0
    rw [c55] at h1
    simp only [List.drop_zero, List.drop_succ_cons, List.take_succ_cons, List.take_zero] at h0 h1 h2 h3
    obtain ⟨a, len, cap, hcs, l, hl⟩ := open_jacks h0
    obtain ⟨a', len', cap', hcs', l', hl'⟩ := open_quills h1
    obtain ⟨m2, e2, _, f2⟩ := DataW.trod_int Try.underlying3 h2
    obtain ⟨m3, e3, _, f3⟩ := DataW.trod_int Try.underlying3 h3
    simp at e2 e3 hcs hcs'
    exact ⟨a, len, cap, l, a', len', cap', l', m2, m3, by rw [e2, e3, hcs, hcs'], hl, hl', f2, f3⟩
set_option maxRecDepth 100000 in
theorem open_matching {H : Type} {enc : TypeId × Value → H} {W : World} {v : Value} {d : DataW H} {ps : List MemPlace} (hval : Value.okWide Try.prog W .any 0 35 v) (hd : DataW.Trod enc Try.prog W 0 (fun _ => true) true 35 v d ps) :
    ∃ (a0 : Option Addr) (n0 c0 : Nat) (z0 : List Int) (a1 : Option Addr) (n1 c1 : Nat) (z1 : List Int) (a2 : Option Addr) (n2 c2 : Nat) (z2 : List Int) (y : Int), v = .agg #[.slice a0 n0 c0, .slice a1 n1 c1, .slice a2 n2 c2, .int .i64 y] ∧ IsRow W a0 n0 c0 z0 ∧ IsRow W a1 n1 c1 z1 ∧ IsRow W a2 n2 c2 z2 ∧ (Lit.int .i64 y).wf = true := by
  obtain ⟨cs, rfl, hsz⟩ := okWide_struct Try.underlying35 hval
  have h2 : cs.size = 4 := hsz.trans (by kernel_rfl)
  obtain ⟨c0, c1, c2, c3, rfl⟩ : ∃ c0 c1 c2 c3, cs = #[c0, c1, c2, c3] := by
    obtain ⟨l⟩ := cs
    match l, h2 with
    | [c0, c1, c2, c3], _ => exact ⟨c0, c1, c2, c3, rfl⟩
  obtain ⟨fuel, hf⟩ := hd
  cases fuel with
  | zero => simp [DataW.trod] at hf
  | succ n =>
    rw [DataW.trod_step] at hf
    unfold DataW.trodStep at hf
    simp only [Try.underlying35, Value.cells] at hf
    rw [if_pos (by kernel_rfl)] at hf
    simp only [Option.map_eq_some_iff] at hf
    obtain ⟨xs, hx, _⟩ := hf
    simp only [List.mapM_cons, List.mapM_nil, bind, Option.bind_eq_some_iff, pure, Option.some.injEq] at hx
    obtain ⟨y0, h0, _, ⟨y1, h1, _, ⟨y2, h2, _, ⟨y3, h3, _, rfl, rfl⟩, rfl⟩, rfl⟩, rfl⟩ := hx
    have c3 : Try.prog.cellsOf 3 = 1 := by kernel_rfl
    have c23 : Try.prog.cellsOf 23 = 1 := by kernel_rfl
    rw [c3] at h3
    rw [c23] at h0 h1 h2
    simp only [List.drop_zero, List.drop_succ_cons, List.take_succ_cons, List.take_zero] at h0 h1 h2 h3
    obtain ⟨a, n0, p0, l0, e0, r0⟩ := open_row h0
    obtain ⟨a1, n1, p1, l1, e1, r1⟩ := open_row h1
    obtain ⟨a2, n2, p2, l2, e2, r2⟩ := open_row h2
    obtain ⟨m3, e3, _, f3⟩ := DataW.trod_int Try.underlying3 h3
    simp at e0 e1 e2 e3
    exact ⟨a, n0, p0, l0, a1, n1, p1, l1, a2, n2, p2, l2, m3, by rw [e0, e1, e2, e3], r0, r1, r2, f3⟩
set_option maxRecDepth 100000 in
theorem open_a3 {H : Type} {enc : TypeId × Value → H} {W : World} {v : Value} {d : DataW H} {ps : List MemPlace} (hval : Value.okWide Try.prog W .any 0 69 v) (hd : DataW.Trod enc Try.prog W 0 (fun _ => true) true 69 v d ps) :
    ∃ a b c : Int, v = .agg #[.int .i64 a, .int .i64 b, .int .i64 c] := by
  have A : Go.WideMaps.ArrKey Try.prog 69 3 3 := ⟨Try.underlying69, by kernel_rfl, by kernel_rfl, by kernel_rfl⟩
  obtain ⟨c0, c1, c2, rfl⟩ : ∃ c0 c1 c2, v = .agg #[c0, c1, c2] := by
    simp only [Value.okWide, A.hu] at hval
    obtain ⟨cs, h1, h2, _⟩ := hval
    rw [A.size] at h2
    obtain ⟨l⟩ := cs
    match l, h2 with
    | [c0, c1, c2], _ => exact ⟨c0, c1, c2, h1⟩
  obtain ⟨fuel, hf⟩ := hd
  cases fuel with
  | zero => simp [DataW.trod] at hf
  | succ n =>
    rw [DataW.trod_step] at hf
    unfold DataW.trodStep at hf
    simp only [A.hu, Value.cells] at hf
    rw [if_pos (by rw [A.size]; rfl)] at hf
    simp only [Option.map_eq_some_iff] at hf
    obtain ⟨xs, hx, e1⟩ := hf
    rw [show List.range 3 = [0, 1, 2] from rfl, List.mapM_cons, List.mapM_cons, List.mapM_cons, List.mapM_nil] at hx
    simp only [bind, Option.bind_eq_some_iff, pure, Option.some.injEq, A.one] at hx
    obtain ⟨y0, h0, _, ⟨y1, h1, _, ⟨y2, h2, _, rfl, rfl⟩, rfl⟩, rfl⟩ := hx
    obtain ⟨a, ea, _, _⟩ := DataW.trod_int Try.underlying3 h0
    obtain ⟨b, eb, _, _⟩ := DataW.trod_int Try.underlying3 h1
    obtain ⟨c, ec, _, _⟩ := DataW.trod_int Try.underlying3 h2
    simp at ea eb ec
    exact ⟨a, b, c, by rw [ea, eb, ec]⟩
set_option maxRecDepth 100000 in
theorem open_quill {H : Type} {enc : TypeId × Value → H} {W : World} {v : Value} {d : DataW H} {ps : List MemPlace} (hval : Value.okWide Try.prog W .any 0 66 v) (hd : DataW.Trod enc Try.prog W 0 (fun _ => true) true 66 v d ps) :
    ∃ x y : Int, v = .agg #[.int .i64 x, .int .i64 y] ∧ (Lit.int .i64 x).wf = true ∧ (Lit.int .i64 y).wf = true := by
  obtain ⟨cs, rfl, hsz⟩ := okWide_struct Try.underlying66 hval
  have h2 : cs.size = 2 := hsz.trans (by kernel_rfl)
  obtain ⟨c0, c1, rfl⟩ : ∃ c0 c1, cs = #[c0, c1] := by
    obtain ⟨l⟩ := cs
    match l, h2 with
    | [c0, c1], _ => exact ⟨c0, c1, rfl⟩
  obtain ⟨fuel, hf⟩ := hd
  cases fuel with
  | zero => simp [DataW.trod] at hf
  | succ n =>
    rw [DataW.trod_step] at hf
    unfold DataW.trodStep at hf
    simp only [Try.underlying66, Value.cells] at hf
    rw [if_pos (by kernel_rfl)] at hf
    simp only [Option.map_eq_some_iff] at hf
    obtain ⟨xs, hx, _⟩ := hf
    simp only [List.mapM_cons, List.mapM_nil, bind, Option.bind_eq_some_iff, pure, Option.some.injEq] at hx
    obtain ⟨y0, h0, _, ⟨y1, h1, _, rfl, rfl⟩, rfl⟩ := hx
    have c3 : Try.prog.cellsOf 3 = 1 := by kernel_rfl
    rw [c3] at h0 h1
    simp only [List.drop_zero, List.drop_succ_cons, List.take_succ_cons, List.take_zero] at h0 h1
    obtain ⟨m0, e0, _, f0⟩ := DataW.trod_int Try.underlying3 h0
    obtain ⟨m1, e1, _, f1⟩ := DataW.trod_int Try.underlying3 h1
    simp at e0 e1
    exact ⟨m0, m1, by rw [e0, e1], f0, f1⟩
end Go.Proofs.Ytncmfjncdhhjoaa
