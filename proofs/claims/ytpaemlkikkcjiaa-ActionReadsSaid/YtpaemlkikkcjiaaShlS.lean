/- What the frame tells of registers and of a setup. -/
import Derived.Test.YtpaemlkikkcjiaaShlA
import Derived.Test.YtpaemlkikkcjiaaWDo
namespace Go.Proofs.Ytpaemlkikkcjiaa
open Go.ChangeShapes Go.WideShapes Go.ChangeAt Go.RowKit

/-- What the frame tells of a slice of registers that came in. -/
def RegsArg (w : World) (a : Option Addr) (len cap : Nat) (l : List Rg) : Prop := Vals w a (rgL l) ∧ len = l.length ∧ len ≤ cap ∧ (a = none → cap = 0) ∧ cap ≤ maxLen
section
variable {H : Type} {enc : TypeId × Value → H} {w : World} {base : Nat} {spare : Nat → Bool} {held : Bool}
theorem cells84 : Try.prog.cellsOf 84 = 4 := by kernel_rfl
set_option maxRecDepth 100000 in
theorem open_regs {fuel : Nat} {cs : List Value} {x : DataW H × List MemPlace} (h : DataW.trod enc Try.prog w base spare held fuel 40 cs = some x) :
    ∃ a len cap, cs = [.slice a len cap] ∧ ∃ ts : List Rg, RegsArg w a len cap ts := by
  rcases Go.Deep.open_slice Try.underlying40 h with ⟨h0, _⟩ | ⟨a, len, cap, m, n, D, Pl, hcs, hb, hl, hm, hmm, _, hi⟩
  · exact ⟨none, 0, 0, h0, [], Vals.nil, rfl, Nat.le_refl _, fun _ => rfl, by unfold maxLen; omega⟩
  · have key : ∃ l : List Rg, Vals w (some a) (l.flatMap rgC) ∧ len = l.length := by
      refine recs (f := rgC) (k := 4) (by omega) rgC_len fun i hil => ?_
      obtain ⟨cs', hc, ht'⟩ := hi i (by rw [hmm]; split <;> omega)
      rw [cells84] at hc
      obtain ⟨_, hcl, hat⟩ := World.cells?_some hc
      obtain ⟨ys, n', _, _, _, hyl, hff⟩ := DataW.trod_struct Try.underlying84 ht'
      have g : ∀ (j : Nat) (fd : Field), (#[({ name := "Pluck", type := 3, offset := 0, embedded := false, tag := "", pkgPath := "", byteOffset := 0 } : Field), { name := "Return", type := 3, offset := 1, embedded := false, tag := "", pkgPath := "", byteOffset := 8 }, { name := "Damp", type := 3, offset := 2, embedded := false, tag := "", pkgPath := "", byteOffset := 16 }, { name := "On", type := 4, offset := 3, embedded := false, tag := "", pkgPath := "", byteOffset := 24 }])[j]? = some fd → fd.type = 3 → fd.offset = j → j < 4 → ∃ x : Int, cs'[j]? = some (.int .i64 x) := by
        intro j fd hj h3 h4 h5
        have h6 := hff j fd hj
        rw [h3, h4, cells3] at h6
        have h7 : ∃ y, ys[j]? = some y := ⟨ys[j]'(by rw [hyl]; exact h5), List.getElem?_eq_getElem _⟩
        obtain ⟨y, hy⟩ := h7
        rw [hy] at h6
        obtain ⟨x, hx, _⟩ := field_int h6 (by omega)
        exact ⟨x, hx⟩
      have gb : ∀ (j : Nat) (fd : Field), (#[({ name := "Pluck", type := 3, offset := 0, embedded := false, tag := "", pkgPath := "", byteOffset := 0 } : Field), { name := "Return", type := 3, offset := 1, embedded := false, tag := "", pkgPath := "", byteOffset := 8 }, { name := "Damp", type := 3, offset := 2, embedded := false, tag := "", pkgPath := "", byteOffset := 16 }, { name := "On", type := 4, offset := 3, embedded := false, tag := "", pkgPath := "", byteOffset := 24 }])[j]? = some fd → fd.type = 4 → fd.offset = j → j < 4 → ∃ x : Bool, cs'[j]? = some (.bool x) := by
        intro j fd hj h3 h4 h5
        have h6 := hff j fd hj
        rw [h3, h4, cells4] at h6
        have h7 : ∃ y, ys[j]? = some y := ⟨ys[j]'(by rw [hyl]; exact h5), List.getElem?_eq_getElem _⟩
        obtain ⟨y, hy⟩ := h7
        rw [hy] at h6
        exact field_bool h6 (by omega)
      obtain ⟨x0, e0⟩ := g 0 _ rfl rfl rfl (by omega)
      obtain ⟨x1, e1⟩ := g 1 _ rfl rfl rfl (by omega)
      obtain ⟨x2, e2⟩ := g 2 _ rfl rfl rfl (by omega)
      obtain ⟨x3, e3⟩ := gb 3 _ rfl rfl rfl (by omega)
      refine ⟨⟨x0, x1, x2, x3⟩, fun j hj => ?_⟩
      rw [hat j hj]
      match j, hj with
      | 0, _ => exact e0
      | 1, _ => exact e1
      | 2, _ => exact e2
      | 3, _ => exact e3
    obtain ⟨l, h1, h2⟩ := key
    exact ⟨some a, len, cap, hcs, l, h1, h2, hl, (by intro e; cases e), hm⟩
end
set_option maxRecDepth 100000 in
theorem open_setup {H : Type} {enc : TypeId × Value → H} {W : World} {v : Value} {d : DataW H} {ps : List MemPlace} (hval : Value.okWide Try.prog W .any 0 42 v) (hd : DataW.Trod enc Try.prog W 0 (fun _ => true) true 42 v d ps) :
    ∃ (k sp : Int) (a : Option Addr) (len cap : Nat) (l : List Rg), v = .agg #[.int .i64 k, .int .i64 sp, .slice a len cap] ∧ RegsArg W a len cap l ∧ (Lit.int .i64 k).wf = true ∧ (Lit.int .i64 sp).wf = true := by
  obtain ⟨cs, rfl, hsz⟩ := okWide_struct Try.underlying42 hval
  have h2 : cs.size = 3 := hsz.trans (by kernel_rfl)
  obtain ⟨c0, c1, c2, rfl⟩ : ∃ c0 c1 c2, cs = #[c0, c1, c2] := by
    obtain ⟨l⟩ := cs
    match l, h2 with
    | [c0, c1, c2], _ => exact ⟨c0, c1, c2, rfl⟩
  obtain ⟨fuel, hf⟩ := hd
  cases fuel with
  | zero => simp [DataW.trod] at hf
  | succ n =>
    rw [DataW.trod_step] at hf
    unfold DataW.trodStep at hf
    simp only [Try.underlying42, Value.cells] at hf
    rw [if_pos (by kernel_rfl)] at hf
    simp only [Option.map_eq_some_iff] at hf
    obtain ⟨xs, hx, _⟩ := hf
    simp only [List.mapM_cons, List.mapM_nil, bind, Option.bind_eq_some_iff, pure, Option.some.injEq] at hx
    obtain ⟨y0, h0, _, ⟨y1, h1, _, ⟨y2, h2, _, rfl, rfl⟩, rfl⟩, rfl⟩ := hx
    have c3 : Try.prog.cellsOf 3 = 1 := by kernel_rfl
    have c40 : Try.prog.cellsOf 40 = 1 := by kernel_rfl
    rw [c3] at h0 h1
    rw [c40] at h2
    simp only [List.drop_zero, List.drop_succ_cons, List.take_succ_cons, List.take_zero] at h0 h1 h2
    obtain ⟨m0, e0, _, f0⟩ := DataW.trod_int Try.underlying3 h0
    obtain ⟨m1, e1, _, f1⟩ := DataW.trod_int Try.underlying3 h1
    obtain ⟨a, len, cap, hcs, l, hl⟩ := open_regs h2
    simp at e0 e1 hcs
    exact ⟨m0, m1, a, len, cap, l, by rw [e0, e1, hcs], hl, f0, f1⟩
end Go.Proofs.Ytpaemlkikkcjiaa
