/- What stands while a tick is done. -/
import Derived.Test.YtpaemlkikkcjiaaTick
namespace Go.Proofs.Ytpaemlkikkcjiaa
open Go.RowKit

/-- The machine, the variables that were made (a block of one cell each), the moments so far. -/
structure TkS (w0 w : World) (bs : List (Nat × Value)) (b3 p gl cl gr cr : Nat) (m : Mk) (S : Ms) (v : Value) (ms : List Mo) : Prop where
  mac : MacM w p gl cl gr cr m S
  old : p < w0.heap.size ∧ gl < w0.heap.size ∧ gr < w0.heap.size
  box : ∀ x, x ∈ bs → w.cell? ⟨x.1, 0, none⟩ = some x.2 ∧ w.frozen? ⟨x.1, 0, none⟩ = false ∧ w0.heap.size ≤ x.1 ∧ x.1 < w.heap.size ∧ x.1 ≠ b3 ∧ v.ownBlock ≠ some x.1
  c3 : w.cell? ⟨b3, 0, none⟩ = some v
  f3 : w.frozen? ⟨b3, 0, none⟩ = false
  l3 : w0.heap.size ≤ b3 ∧ b3 < w.heap.size ∧ v.ownBlock ≠ some b3
  own : w.ownsRow w0.heap.size 137 6 v ms.length (moL ms)
  chg : Chg [p, gl] w0 w
section
variable {w0 w w' : World} {bs bs' : List (Nat × Value)} {b3 p gl cl gr cr : Nat} {m : Mk} {S S' : Ms} {v v' : Value} {ms ms' : List Mo}
theorem TkS.size (h : TkS w0 w bs b3 p gl cl gr cr m S v ms) : w0.heap.size ≤ w.heap.size := h.chg.size
theorem TkS.sub (h : TkS w0 w bs b3 p gl cl gr cr m S v ms) (hs : ∀ x, x ∈ bs' → x ∈ bs) : TkS w0 w bs' b3 p gl cl gr cr m S v ms := ⟨h.mac, h.old, fun x hx => h.box x (hs x hx), h.c3, h.f3, h.l3, h.own, h.chg⟩
theorem TkS.step (h : TkS w0 w bs b3 p gl cl gr cr m S v ms) (c : Chg (p :: gl :: b3 :: v.ownBlock.toList) w w') (hm : MacM w' p gl cl gr cr m S') (c3 : w'.cell? ⟨b3, 0, none⟩ = some v') (f3 : w'.frozen? ⟨b3, 0, none⟩ = false)
    (ho : w'.ownsRow w0.heap.size 137 6 v' ms'.length (moL ms')) (hb : ∀ b, v'.ownBlock = some b → v.ownBlock = some b ∨ w.heap.size ≤ b) : TkS w0 w' bs b3 p gl cl gr cr m S' v' ms' := by
  obtain ⟨o1, o2, o3⟩ := h.old
  refine ⟨hm, h.old, fun x hx => ?_, c3, f3, ⟨h.l3.1, Nat.lt_of_lt_of_le h.l3.2.1 c.size, fun e => ?_⟩, ho, ?_⟩
  · obtain ⟨e1, e2, e3, e4, e5, e6⟩ := h.box x hx
    have hn : x.1 ∉ p :: gl :: b3 :: v.ownBlock.toList := by
      intro hm
      simp at hm
      rcases hm with h1 | h1 | h1 | h1
      · omega
      · omega
      · exact e5 h1
      · exact e6 h1
    refine ⟨(c.cell e4 hn).trans e1, (c.frozen e4 hn).trans e2, e3, Nat.lt_of_lt_of_le e4 c.size, e5, fun e => ?_⟩
    rcases hb _ e with h1 | h1
    · exact e6 h1
    · omega
  · rcases hb _ e with h1 | h1
    · exact h.l3.2.2 h1
    · have := h.l3.2.1; omega
  · refine h.chg.after c fun x hx => ?_
    simp at hx
    rcases hx with rfl | rfl | rfl | h1
    · left; simp
    · left; simp
    · exact .inr h.l3.1
    · exact .inr (own_lt h.own x h1).1
theorem TkS.keep (h : TkS w0 w bs b3 p gl cl gr cr m S v ms) (hb : Below w.heap.size w w') : TkS w0 w' bs b3 p gl cl gr cr m S v ms := by
  have c : Chg (p :: gl :: b3 :: v.ownBlock.toList) w w' := Chg.of_below hb
  have c0 : Chg [] w w' := Chg.of_below hb
  exact h.step c (h.mac.keep hb) ((c0.cell h.l3.2.1 (by simp)).trans h.c3) ((c0.frozen h.l3.2.1 (by simp)).trans h.f3) (c0.own h.own (fun _ _ => by simp)) (fun b hb => .inl hb)
/-- A further variable. -/
theorem TkS.var (h : TkS w0 w bs b3 p gl cl gr cr m S v ms) (x : Value) (T : TypeId) : TkS w0 (w.alloc (.cells #[x] T)) ((w.heap.size, x) :: bs) b3 p gl cl gr cr m S v ms := by
  have h1 := h.keep (below_new w (.cells #[x] T))
  have hq : Blk T (w.alloc (.cells #[x] T)) w.heap.size [x] := Blk.new w T [x]
  refine ⟨h1.mac, h1.old, fun y hy => ?_, h1.c3, h1.f3, h1.l3, h1.own, h1.chg⟩
  rcases List.mem_cons.1 hy with rfl | h2
  · refine ⟨hq.cell 0, hq.frozen 0, h.size, hq.lt, ?_, fun e => ?_⟩
    · have := h.l3.2.1; simp only; omega
    · have := (own_lt h.own _ e).2; simp only at this; omega
  · exact h1.box y h2
/-- A cell of the machine turns. -/
theorem TkS.turn (h : TkS w0 w bs b3 p gl cl gr cr m S v ms) {g i : Nat} {x : Value} (hg : g = p ∨ g = gl) (hm : MacM (w.setCell ⟨g, i, none⟩ x) p gl cl gr cr m S') : TkS w0 (w.setCell ⟨g, i, none⟩ x) bs b3 p gl cl gr cr m S' v ms := by
  have hL : g ∈ p :: gl :: b3 :: v.ownBlock.toList := by rcases hg with rfl | rfl <;> simp
  have c : Chg (p :: gl :: b3 :: v.ownBlock.toList) w (w.setCell ⟨g, i, none⟩ x) := (Chg.refl _ w).set (.inl hL) x
  have c1 : Chg [g] w (w.setCell ⟨g, i, none⟩ x) := (Chg.refl _ w).set (.inl (by simp)) x
  obtain ⟨o1, o2, o3⟩ := h.old
  have hg0 : g < w0.heap.size := by rcases hg with rfl | rfl <;> assumption
  have h3 : b3 ∉ [g] := by have := h.l3.1; simp; omega
  exact h.step c hm ((c1.cell h.l3.2.1 h3).trans h.c3) ((c1.frozen h.l3.2.1 h3).trans h.f3) (c1.own h.own (fun b hb hm => by have := (own_lt h.own b hb).1; simp at hm; omega)) (fun b hb => .inl hb)
theorem TkS.drewN (h : TkS w0 w bs b3 p gl cl gr cr m S v ms) (n : Nat) : TkS w0 (w.drewN n) bs b3 p gl cl gr cr m S v ms := h.keep (below_drewN (Below.refl _ _) n)
theorem TkS.drew (h : TkS w0 w bs b3 p gl cl gr cr m S v ms) : TkS w0 w.drew bs b3 p gl cl gr cr m S v ms := h.keep (Below.refl _ _).drew
theorem TkS.note {b1 b4 b7 b6 b5 k : Nat} {key reg frm : Int} (h : TkS w0 w bs b3 p gl cl gr cr m S v ms) (hk : k < m.K) (h1 : (b1, .pointer (some ⟨p, 0, none⟩)) ∈ bs) (h4 : (b4, .int .i64 key) ∈ bs) (h7 : (b7, .int .i64 reg) ∈ bs)
    (h6 : (b6, .int .i64 frm) ∈ bs) (h5 : (b5, .pointer (some ⟨gl, k * 14, none⟩)) ∈ bs) : NoteM w0.heap.size w b1 b4 b7 b3 b6 b5 p gl gr k S.tk key reg frm (S.ht k) v ms := by
  obtain ⟨o1, o2, o3⟩ := h.old
  have e1 := h.box _ h1
  have e4 := h.box _ h4
  have e7 := h.box _ h7
  have e6 := h.box _ h6
  have e5 := h.box _ h5
  simp only at e1 e4 e7 e6 e5
  have hsz := h.size
  refine ⟨e1.1, h.mac.b0, e4.1, e7.1, e6.1, e5.1, h.mac.ht hk, h.c3, h.f3, h.own, ?_, ?_, ?_, ?_⟩
  · intro b hb hm
    have hlt := own_lt h.own b hb
    simp at hm
    rcases hm with rfl | rfl | rfl | rfl | rfl | rfl | rfl | rfl | rfl
    · exact e1.2.2.2.2.2 hb
    · exact e4.2.2.2.2.2 hb
    · exact e7.2.2.2.2.2 hb
    · exact h.l3.2.2 hb
    · exact e6.2.2.2.2.2 hb
    · exact e5.2.2.2.2.2 hb
    · omega
    · omega
    · omega
  · intro hm
    have := h.l3.1
    simp at hm
    rcases hm with h | h | h | h | h | h | h | h
    · exact e1.2.2.2.2.1 h.symm
    · exact e4.2.2.2.2.1 h.symm
    · exact e7.2.2.2.2.1 h.symm
    · exact e6.2.2.2.2.1 h.symm
    · exact e5.2.2.2.2.1 h.symm
    · omega
    · omega
    · omega
  · intro b hb
    have : w0.heap.size ≤ b := by
      simp at hb
      rcases hb with rfl | rfl | rfl | rfl | rfl | rfl
      · exact e1.2.2.1
      · exact e4.2.2.1
      · exact e7.2.2.1
      · exact h.l3.1
      · exact e6.2.2.1
      · exact e5.2.2.1
    omega
  · intro b hb
    simp at hb
    rcases hb with rfl | rfl | rfl | rfl | rfl | rfl | rfl | rfl | rfl
    · exact e1.2.2.2.1
    · exact e4.2.2.2.1
    · exact e7.2.2.2.1
    · exact h.l3.2.1
    · exact e6.2.2.2.1
    · exact e5.2.2.2.1
    · omega
    · omega
    · omega
end

/-! The order of a tick's moments. -/
def lessM (x y : Mo) : Bool := decide (x.num * y.den < y.num * x.den)
def insM (x : Mo) : List Mo → List Mo
  | [] => [x]
  | y :: l => if lessM x y = true then x :: y :: l else y :: insM x l
def srtM (ms : List Mo) : List Mo := ms.foldl (fun l x => insM x l) []
def evC (x : Mo) : List Value := [.int .i64 x.tk, .int .i64 x.kind, .int .i64 x.key, .int .i64 x.reg]
def evL (l : List Mo) : List Value := l.flatMap evC
theorem evC_len (x : Mo) : (evC x).length = 4 := rfl
/-- inOrder, for at most K moments. -/
def OrderK (K : Nat) : Prop := ∀ (B : Nat) (w : World) (v : Value) (ms : List Mo), ms.length ≤ K → w.ownsRow B 137 6 v ms.length (moL ms) → B ≤ w.heap.size →
  (∀ x, x ∈ ms → 0 ≤ x.num ∧ x.num ≤ 100000 ∧ 0 ≤ x.den ∧ x.den ≤ 100000) →
  Calls Try.prog 91 #[v] w fun e w' => ∃ v', e = .returned v' ∧ OwnR w.heap.size 67 4 w' v' ms.length (evL (srtM ms)) ∧ Chg v.ownBlock.toList w w'
end Go.Proofs.Ytpaemlkikkcjiaa
