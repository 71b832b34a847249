/- What the frame tells of events and of a pair of integers. -/
import Derived.Test.YtpaemlkikkcjiaaShlB
import Derived.Test.YtpaemlkikkcjiaaTkS
import Derived.WideKeyPair
namespace Go.Proofs.Ytpaemlkikkcjiaa
open Go.ChangeShapes Go.WideShapes Go.ChangeAt Go.RowKit

def EvsArg (w : World) (a : Option Addr) (len cap : Nat) (l : List Mo) : Prop := Vals w a (evL l) ∧ len = l.length ∧ len ≤ cap ∧ (a = none → cap = 0) ∧ cap ≤ maxLen
theorem arr64 : Go.WideMaps.ArrKey Try.prog 64 3 2 := ⟨Try.underlying64, by kernel_rfl, by kernel_rfl, by kernel_rfl⟩
set_option maxRecDepth 100000 in
theorem open_a2 {H : Type} {enc : TypeId × Value → H} {W : World} {v : Value} {d : DataW H} {ps : List MemPlace} (hval : Value.okWide Try.prog W .any 0 64 v) (hd : DataW.Trod enc Try.prog W 0 (fun _ => true) true 64 v d ps) :
    ∃ x0 x1 : Int, v = .agg #[.int .i64 x0, .int .i64 x1] := by
  obtain ⟨x0, x1, h, _⟩ := Go.WideMaps.open_pair arr64 Try.underlying3 hval hd
  exact ⟨x0, x1, h⟩
section
variable {H : Type} {enc : TypeId × Value → H} {w : World} {base : Nat} {spare : Nat → Bool} {held : Bool}
theorem cells67 : Try.prog.cellsOf 67 = 4 := by kernel_rfl
set_option maxRecDepth 100000 in
theorem open_evs {fuel : Nat} {cs : List Value} {x : DataW H × List MemPlace} (h : DataW.trod enc Try.prog w base spare held fuel 55 cs = some x) :
    ∃ a len cap, cs = [.slice a len cap] ∧ len ≤ cap ∧ cap ≤ maxLen ∧ (a = none → cap = 0) ∧ ∃ ts : List Mo, Vals w a (evL ts) ∧ len = ts.length := by
  rcases Go.Deep.open_slice Try.underlying55 h with ⟨h0, _⟩ | ⟨a, len, cap, m, n, D, Pl, hcs, hb, hl, hm, hmm, _, hi⟩
  · exact ⟨none, 0, 0, h0, Nat.le_refl _, by unfold maxLen; omega, fun _ => rfl, [], Vals.nil, rfl⟩
  · refine ⟨some a, len, cap, hcs, hl, hm, (by intro e; cases e), ?_⟩
    refine recs (f := evC) (k := 4) (by omega) evC_len fun i hil => ?_
    obtain ⟨cs', hc, ht'⟩ := hi i (by rw [hmm]; split <;> omega)
    rw [cells67] at hc
    obtain ⟨_, hcl, hat⟩ := World.cells?_some hc
    obtain ⟨ys, n', _, _, _, hyl, hff⟩ := DataW.trod_struct Try.underlying67 ht'
    have g : ∀ (j : Nat) (fd : Field), (#[{ name := "Tick", type := 3, offset := 0, embedded := false, tag := "", pkgPath := "", byteOffset := 0 }, { name := "Kind", type := 3, offset := 1, embedded := false, tag := "", pkgPath := "", byteOffset := 8 }, { name := "Key", type := 3, offset := 2, embedded := false, tag := "", pkgPath := "", byteOffset := 16 }, { name := "Reg", type := 3, offset := 3, embedded := false, tag := "", pkgPath := "", byteOffset := 24 }] : Array Field)[j]? = some fd → fd.type = 3 → fd.offset = j → j < 4 → ∃ x : Int, cs'[j]? = some (.int .i64 x) := by
      intro j fd hj h3 h4 h5
      have h6 := hff j fd hj
      rw [h3, h4, cells3] at h6
      have h7 : ∃ y, ys[j]? = some y := ⟨ys[j]'(by rw [hyl]; exact h5), List.getElem?_eq_getElem _⟩
      obtain ⟨y, hy⟩ := h7
      rw [hy] at h6
      obtain ⟨x, hx, _⟩ := field_int h6 (by omega)
      exact ⟨x, hx⟩
    obtain ⟨x0, e0⟩ := g 0 _ rfl rfl rfl (by omega)
    obtain ⟨x1, e1⟩ := g 1 _ rfl rfl rfl (by omega)
    obtain ⟨x2, e2⟩ := g 2 _ rfl rfl rfl (by omega)
    obtain ⟨x3, e3⟩ := g 3 _ rfl rfl rfl (by omega)
    refine ⟨⟨x0, x1, x2, x3, 0, 0⟩, fun j hj => ?_⟩
    rw [hat j hj]
    match j, hj with
    | 0, _ => exact e0
    | 1, _ => exact e1
    | 2, _ => exact e2
    | 3, _ => exact e3
end
end Go.Proofs.Ytpaemlkikkcjiaa
