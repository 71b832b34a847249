/- distance; note (the closure of runTick): one moment more. -/
import Derived.Test.YtpaemlkikkcjiaaMac
import Derived.Deep.AppendLies
import Derived.Deep.RegionHeldLaw
import Derived.BigRegion
import Derived.Laws.EntriesVeiled
namespace Go.Proofs.Ytpaemlkikkcjiaa
open Go.RowKit

structure Mo where
  tk : Int
  kind : Int
  key : Int
  reg : Int
  num : Int
  den : Int
def moC (x : Mo) : List Value := [.int .i64 x.tk, .int .i64 x.kind, .int .i64 x.key, .int .i64 x.reg, .int .i64 x.num, .int .i64 x.den]
def moL (l : List Mo) : List Value := l.flatMap moC
theorem moC_len (x : Mo) : (moC x).length = 6 := rfl
theorem moL_len (l : List Mo) : (moL l).length = l.length * 6 := flat_len moC_len l
theorem moL_snoc (l : List Mo) (x : Mo) : moL (l ++ [x]) = moL l ++ moC x := by simp [moL]
theorem moL_one (l : List Mo) : ∀ v ∈ moL l, v.oneCell' = true := by
  intro v hv
  simp only [moL, List.mem_flatMap, moC, List.mem_cons, List.not_mem_nil, or_false] at hv
  obtain ⟨t, _, rfl | rfl | rfl | rfl | rfl | rfl⟩ := hv <;> rfl
theorem ret_i {k : IntKind} {a b : Int} (h : a = b) : Ending.returned (.int k a) = .returned (.int k b) := by rw [h]
def dist (a b : Int) : Int := max (a - b) (b - a)
theorem dist_any (a b : Int) (h : -100000 ≤ a ∧ a ≤ 100000 ∧ -100000 ≤ b ∧ b ≤ 100000) (w : World) : Calls Try.prog 89 #[.int .i64 a, .int .i64 b] w fun e w' => e = .returned (.int .i64 (dist a b)) ∧ w = w' := by
  have h1 : IntKind.i64.wrap (a - b) = a - b := wrapI (by omega) (by omega)
  have h2 : IntKind.i64.wrap (b - a) = b - a := wrapI (by omega) (by omega)
  go_enter Try.func89, Try.ntmps89
  go_wp2
  all_goals
    go_ret
    refine ⟨ret_i ?_, rfl⟩
    unfold dist
    omega

/-- What note finds in its boxes. -/
structure NoteM (B : Nat) (w : World) (b1 b4 b7 b3 b6 b5 p gl gr k : Nat) (tk key reg frm to : Int) (v : Value) (ms : List Mo) : Prop where
  c1 : w.cell? ⟨b1, 0, none⟩ = some (.pointer (some ⟨p, 0, none⟩))
  cp : w.cell? ⟨p, 0, none⟩ = some (.int .i64 tk)
  c4 : w.cell? ⟨b4, 0, none⟩ = some (.int .i64 key)
  c7 : w.cell? ⟨b7, 0, none⟩ = some (.int .i64 reg)
  c6 : w.cell? ⟨b6, 0, none⟩ = some (.int .i64 frm)
  c5 : w.cell? ⟨b5, 0, none⟩ = some (.pointer (some ⟨gl, k * 14, none⟩))
  ch : w.cell? ⟨gl, k * 14, none⟩ = some (.int .i64 to)
  c3 : w.cell? ⟨b3, 0, none⟩ = some v
  f3 : w.frozen? ⟨b3, 0, none⟩ = false
  own : w.ownsRow B 137 6 v ms.length (moL ms)
  apart : ∀ b, v.ownBlock = some b → b ∉ [b1, b4, b7, b3, b6, b5, p, gl, gr]
  ne : b3 ∉ [b1, b4, b7, b6, b5, p, gl, gr]
  nb : ∀ b, b ∈ [b1, b4, b7, b3, b6, b5] → b ≠ p ∧ b ≠ gl ∧ b ≠ gr
  lt : ∀ b, b ∈ [b1, b4, b7, b3, b6, b5, p, gl, gr] → b < w.heap.size
theorem NoteM.keep {B : Nat} {w w' : World} {b1 b4 b7 b3 b6 b5 p gl gr k : Nat} {tk key reg frm to : Int} {v : Value} {ms : List Mo} (h : NoteM B w b1 b4 b7 b3 b6 b5 p gl gr k tk key reg frm to v ms) (hb : Below w.heap.size w w') : NoteM B w' b1 b4 b7 b3 b6 b5 p gl gr k tk key reg frm to v ms := by
  have c : Chg [] w w' := Chg.of_below hb
  have e : ∀ b, b ∈ [b1, b4, b7, b3, b6, b5, p, gl, gr] → ∀ i, w'.cell? ⟨b, i, none⟩ = w.cell? ⟨b, i, none⟩ := fun b hb i => c.cell (h.lt b hb) (by simp)
  exact ⟨(e _ (by simp) _).trans h.c1, (e _ (by simp) _).trans h.cp, (e _ (by simp) _).trans h.c4, (e _ (by simp) _).trans h.c7, (e _ (by simp) _).trans h.c6, (e _ (by simp) _).trans h.c5, (e _ (by simp) _).trans h.ch, (e _ (by simp) _).trans h.c3,
    (c.frozen (h.lt _ (by simp)) (by simp)).trans h.f3, c.own h.own (fun b _ => by simp), h.apart, h.ne, h.nb, fun b hb' => Nat.lt_of_lt_of_le (h.lt b hb') hb.size⟩
def mo (tk kind key reg frm to height : Int) : Mo := ⟨tk, kind, key, reg, dist frm height, dist frm to⟩
/-- The append of note, as one step of its region. -/
theorem note_append {ops : Array Oper} {o : Oper} {a : Act} {K : Act → World → Prop} {Q : Exit → Act → World → Prop} {E : Prop} (B : Nat) (W W0 : World) (v : Value) (n : Nat) (vs : List Value) (x : Mo) (i0 : TypeInfo)
    (hi : Try.prog.info? 137 = some i0) (hz0 : i0.zero = some zMom) (hz1 : i0.size = 6) (hz2 : i0.bytes = 48) (hn : n ≤ 100000)
    (hw : W0 = (W.alloc (.cells #[.int .i64 x.tk, .int .i64 x.kind, .int .i64 x.key, .int .i64 x.reg, .int .i64 x.num, .int .i64 x.den] 137)).drew)
    (hown : W.ownsRow B 137 6 v n vs) (hB : B ≤ W.heap.size) (hgd : o.guard = none) (s y : Operand)
    (ho : o.op = .call { callee := .builtin .append, args := #[s, y], argTypes := #[134, 134] }) (hs : a.eval s = v) (hx : a.eval y = .slice (some ⟨W.heap.size, 0, none⟩) 1 1)
    (h : ∀ g cap w', w'.ownsRow B 137 6 (.slice (some ⟨g, 0, none⟩) (n + 1) cap) (n + 1) (vs ++ moC x) → W.grownBy w' v.ownBlock → (v.ownBlock = some g ∨ W.heap.size ≤ g) → K (a.put o.dst (.slice (some ⟨g, 0, none⟩) (n + 1) cap)) w') :
    if Region.wanted o (yielded ops a.tmps) = true then Oper.wp Try.prog o a W0 K Q else E := by
  subst hw
  have hb := (below_new W (.cells #[.int .i64 x.tk, .int .i64 x.kind, .int .i64 x.key, .int .i64 x.reg, .int .i64 x.num, .int .i64 x.den] 137)).drew
  have hsz := hb.size
  have hown2 := (Chg.of_below (L := []) hb).own hown (fun b _ => by simp)
  have hnews : ∀ (j : Nat) (u : Value), (moC x)[j]? = some u → (W.alloc (.cells #[.int .i64 x.tk, .int .i64 x.kind, .int .i64 x.key, .int .i64 x.reg, .int .i64 x.num, .int .i64 x.den] 137)).drew.cell? ((⟨W.heap.size, 0, none⟩ : Addr).add j) = some u :=
    vals_cells (Vals.drew (Blk.new W 137 (moC x)).vals0)
  refine step_append_lies _ hgd s y 134 ho B 137 i0 zMom 6 48 Try.underlying134 hi hz0 hz1 hz2 rfl (by decide) v n vs hs hown2 ⟨W.heap.size, 0, none⟩ 1 1 (moC x) hx rfl hnews
    (fun u hu => moL_one [x] u (by simpa [moL] using hu)) Nat.one_pos (by unfold maxLen; omega) (by omega) (by omega) _ rfl ?_
  intro g cap w1 h1 h2 h3 h4
  refine h g cap w1 h1 ?_ ?_
  · exact ⟨h2.os.trans hb.os, h2.tape.trans hb.tape, h2.output.trans hb.output, Nat.le_trans hsz h2.size, fun k hk hn => (h2.block k (by omega) hn).trans (hb.block k hk)⟩
  · rcases h3 with h3 | h3
    · exact .inl h3
    · right; omega
theorem note_end {B : Nat} {w W w1 : World} {b1 b4 b7 b3 b6 b5 p gl gr k : Nat} {tk key reg frm to : Int} {v : Value} {ms : List Mo} {x : Mo} {g cap : Nat} (hn : NoteM B W b1 b4 b7 b3 b6 b5 p gl gr k tk key reg frm to v ms) (hch : Chg (b3 :: v.ownBlock.toList) w W)
    (hown : w1.ownsRow B 137 6 (.slice (some ⟨g, 0, none⟩) (ms.length + 1) cap) (ms.length + 1) (moL ms ++ moC x)) (hgrow : W.grownBy w1 v.ownBlock) (hat : v.ownBlock = some g ∨ W.heap.size ≤ g) {y : Value} :
    (∃ z, Ending.returned y = .returned z) ∧ ∃ v', NoteM B (w1.setCell ⟨b3, 0, none⟩ (.slice (some ⟨g, 0, none⟩) (ms.length + 1) cap)) b1 b4 b7 b3 b6 b5 p gl gr k tk key reg frm to v' (ms ++ [x]) ∧
      Chg (b3 :: v.ownBlock.toList) w (w1.setCell ⟨b3, 0, none⟩ (.slice (some ⟨g, 0, none⟩) (ms.length + 1) cap)) ∧ (∀ b, v'.ownBlock = some b → v.ownBlock = some b ∨ w.heap.size ≤ b) := by
  refine ⟨⟨_, rfl⟩, .slice (some ⟨g, 0, none⟩) (ms.length + 1) cap, ?_, ?_, ?_⟩
  · have c0 : Chg v.ownBlock.toList W w1 := (Chg.refl v.ownBlock.toList W).grown hgrow (fun b hb => .inl (by rw [hb]; simp))
    have c1 := (c0.mono (M := b3 :: v.ownBlock.toList) (fun x hx => by simp at hx ⊢; exact .inr hx)).set (g := b3) (i := 0) (.inl (by simp)) (.slice (some ⟨g, 0, none⟩) (ms.length + 1) cap)
    have hne : ∀ b, b ∈ [b1, b4, b7, b3, b6, b5, p, gl, gr] → b ∉ v.ownBlock.toList := fun b hb hm => hn.apart b (by simpa using hm) hb
    have hne2 : ∀ b, b ∈ [b1, b4, b7, b6, b5, p, gl, gr] → b ∉ b3 :: v.ownBlock.toList := fun b hb hm => by
      rcases List.mem_cons.1 hm with rfl | h1
      · exact hn.ne hb
      · refine hne b ?_ h1
        simp at hb ⊢
        rcases hb with h | h | h | h | h | h | h | h <;> simp [h]
    have e : ∀ b, b ∈ [b1, b4, b7, b6, b5, p, gl, gr] → ∀ i, (w1.setCell ⟨b3, 0, none⟩ (.slice (some ⟨g, 0, none⟩) (ms.length + 1) cap)).cell? ⟨b, i, none⟩ = W.cell? ⟨b, i, none⟩ := fun b hb i =>
      c1.cell (hn.lt b (by simp at hb ⊢; rcases hb with h | h | h | h | h | h | h | h <;> simp [h])) (hne2 b hb)
    have l3 := hn.lt b3 (by simp)
    have f3 : w1.frozen? ⟨b3, 0, none⟩ = false := (c0.frozen l3 (hne b3 (by simp))).trans hn.f3
    have c3 : w1.cell? ⟨b3, 0, none⟩ = some v := (c0.cell l3 (hne b3 (by simp))).trans hn.c3
    have hg3 : g ≠ b3 := by
      rintro rfl
      rcases hat with h1 | h1
      · exact hn.apart g h1 (by simp)
      · omega
    have hown2 : (w1.setCell ⟨b3, 0, none⟩ (.slice (some ⟨g, 0, none⟩) (ms.length + 1) cap)).ownsRow B 137 6 (.slice (some ⟨g, 0, none⟩) (ms.length + 1) cap) (ms.length + 1) (moL ms ++ moC x) :=
      ((Chg.refl [b3] w1).set (g := b3) (i := 0) (.inl (by simp)) (.slice (some ⟨g, 0, none⟩) (ms.length + 1) cap)).own hown (fun b hb => by simp [Value.ownBlock] at hb; subst hb; simpa using hg3)
    refine ⟨(e _ (by simp) _).trans hn.c1, (e _ (by simp) _).trans hn.cp, (e _ (by simp) _).trans hn.c4, (e _ (by simp) _).trans hn.c7, (e _ (by simp) _).trans hn.c6, (e _ (by simp) _).trans hn.c5, (e _ (by simp) _).trans hn.ch, ?_, ?_, ?_, ?_, hn.ne, hn.nb, ?_⟩
    · exact World.cell?_setCell_same _ _ _ c3
    · rw [World.frozen?_setCell]; exact f3
    · rw [moL_snoc, List.length_append]; exact hown2
    · intro b hb
      simp [Value.ownBlock] at hb
      subst hb
      intro hm
      rcases hat with h1 | h1
      · exact hn.apart g h1 hm
      · have := hn.lt g hm; omega
    · intro b hb
      exact Nat.lt_of_lt_of_le (hn.lt b hb) c1.size
  · exact (hch.grown hgrow (fun b hb => .inl (by rw [hb]; simp))).set (.inl (by simp)) _
  · intro b hb
    simp [Value.ownBlock] at hb
    subst hb
    rcases hat with h1 | h1
    · exact .inl h1
    · right; have := hch.size; omega
set_option maxHeartbeats 2000000 in
set_option maxRecDepth 100000 in
theorem note_any (B : Nat) (w : World) (b1 b4 b7 b3 b6 b5 p gl gr k : Nat) (tk key reg frm to kind height : Int) (v : Value) (ms : List Mo) (h : NoteM B w b1 b4 b7 b3 b6 b5 p gl gr k tk key reg frm to v ms)
    (hB : B ≤ w.heap.size) (hms : ms.length ≤ 100000) (hr : -100000 ≤ frm ∧ frm ≤ 100000 ∧ -100000 ≤ to ∧ to ≤ 100000 ∧ -100000 ≤ height ∧ height ≤ 100000) :
    Calls Try.prog 88 #[.int .i64 kind, .int .i64 height, .pointer (some ⟨b1, 0, none⟩), .pointer (some ⟨b4, 0, none⟩), .pointer (some ⟨b7, 0, none⟩), .pointer (some ⟨b3, 0, none⟩), .pointer (some ⟨b6, 0, none⟩), .pointer (some ⟨b5, 0, none⟩)] w
      fun e w' => (∃ x, e = .returned x) ∧ ∃ v', NoteM B w' b1 b4 b7 b3 b6 b5 p gl gr k tk key reg frm to v' (ms ++ [mo tk kind key reg frm to height]) ∧ Chg (b3 :: v.ownBlock.toList) w w' ∧ (∀ b, v'.ownBlock = some b → v.ownBlock = some b ∨ w.heap.size ≤ b) := by
  have d1 := fun W => dist_any frm height (by omega) W
  have d2 := fun W => dist_any frm to (by omega) W
  obtain ⟨i0, hi, hz0, hz1, hz2⟩ := info_parts infoMom
  have H := Lib.hid h
  have D1 := Lib.hid d1
  have D2 := Lib.hid d2
  have c1 := h.c1
  have cp := h.cp
  have c4 := h.c4
  have c7 := h.c7
  have l1 : b1 < w.heap.size := h.lt _ (by simp)
  have l2 : p < w.heap.size := h.lt _ (by simp)
  have l3 : b4 < w.heap.size := h.lt _ (by simp)
  have l4 : b7 < w.heap.size := h.lt _ (by simp)
  clear h d1 d2 hr
  go_enter Try.func88, Try.ntmps88
  go_wp2_with (fail)
  go_region_held (fun w' => w'.cell? ⟨b1, 0, none⟩ = some (.pointer (some ⟨p, 0, none⟩)) ∧ w'.cell? ⟨p, 0, none⟩ = some (.int .i64 tk) ∧ w'.cell? ⟨b4, 0, none⟩ = some (.int .i64 key) ∧ w'.cell? ⟨b7, 0, none⟩ = some (.int .i64 reg)) (go_keep) (fail)
  go_wp2_with (fail)
  have hq : Blk 67 (w.alloc (.cells #[.int .i64 tk, .int .i64 kind, .int .i64 key, .int .i64 reg] 67)).drew w.heap.size [.int .i64 tk, .int .i64 kind, .int .i64 key, .int .i64 reg] := (Blk.new w 67 _).drew
  have hb := (below_new w (.cells #[.int .i64 tk, .int .i64 kind, .int .i64 key, .int .i64 reg] 67)).drew
  have hqs : (w.alloc (.cells #[.int .i64 tk, .int .i64 kind, .int .i64 key, .int .i64 reg] 67)).drew.heap.size = w.heap.size + 1 := by simp
  have hn := (H.out).keep hb
  have hap : ∀ b, v.ownBlock = some b → b ≠ w.heap.size := fun b hb' => by have := (own_lt H.out.own b hb').2; omega
  have hb3 : b3 ≠ w.heap.size := by have := H.out.lt b3 (by simp); omega
  have hch := Chg.of_below (L := b3 :: v.ownBlock.toList) hb
  clear c1 cp c4 c7 l1 l2 l3 l4
  generalize (w.alloc (.cells #[.int .i64 tk, .int .i64 kind, .int .i64 key, .int .i64 reg] 67)).drew = W at *
  generalize w.heap.size = q at *
  have c3 := hn.c3
  have c6 := hn.c6
  have c5 := hn.c5
  have ch := hn.ch
  have f3 := hn.f3
  have l3 : b3 < W.heap.size := hn.lt _ (by simp)
  have l6 : b6 < W.heap.size := hn.lt _ (by simp)
  have l5 : b5 < W.heap.size := hn.lt _ (by simp)
  have ll : gl < W.heap.size := hn.lt _ (by simp)
  have lq : q < W.heap.size := by omega
  have e0 := hq.cell 0
  have e1 := hq.cell 1
  have e2 := hq.cell 2
  have e3 := hq.cell 3
  simp only [List.getElem?_cons_zero, List.getElem?_cons_succ] at e0 e1 e2 e3
  have hown := hn.own
  have hBW : B ≤ W.heap.size := by omega
  have hgr : ∀ (W1 W2 : World) (hg : W.grownBy W2 v.ownBlock),
      W2.cell? ⟨q, 0, none⟩ = some (.int .i64 tk) ∧ W2.cell? ⟨q, 1, none⟩ = some (.int .i64 kind) ∧ W2.cell? ⟨q, 2, none⟩ = some (.int .i64 key) ∧ W2.cell? ⟨q, 3, none⟩ = some (.int .i64 reg) ∧
      W2.cell? ⟨b6, 0, none⟩ = some (.int .i64 frm) ∧ W2.cell? ⟨b5, 0, none⟩ = some (.pointer (some ⟨gl, k * 14, none⟩)) ∧ W2.cell? ⟨gl, k * 14, none⟩ = some (.int .i64 to) ∧ W2.cell? ⟨b3, 0, none⟩ = some v ∧ W2.frozen? ⟨b3, 0, none⟩ = false := by
    intro W1 W2 hg
    have c0 : Chg v.ownBlock.toList W W2 := (Chg.refl v.ownBlock.toList W).grown hg (fun b hb => .inl (by rw [hb]; simp))
    have ne : ∀ b, (b = q ∨ b ∈ [b1, b4, b7, b3, b6, b5, p, gl, gr]) → b ∉ v.ownBlock.toList := by
      intro b hb hm
      have hm' : v.ownBlock = some b := by simpa using hm
      rcases hb with h1 | h1
      · exact hap b hm' h1
      · exact hn.apart b hm' h1
    exact ⟨(c0.cell lq (ne _ (.inl rfl))).trans e0, (c0.cell lq (ne _ (.inl rfl))).trans e1, (c0.cell lq (ne _ (.inl rfl))).trans e2, (c0.cell lq (ne _ (.inl rfl))).trans e3, (c0.cell l6 (ne _ (.inr (by simp)))).trans c6,
      (c0.cell l5 (ne _ (.inr (by simp)))).trans c5, (c0.cell ll (ne _ (.inr (by simp)))).trans ch, (c0.cell l3 (ne _ (.inr (by simp)))).trans c3, (c0.frozen l3 (ne _ (.inr (by simp)))).trans f3⟩
  have HGR := Lib.hid (hgr W)
  clear hgr
  have n6 : b6 ≠ b3 := fun e => hn.ne (by simp [e])
  have n5 : b5 ≠ b3 := fun e => hn.ne (by simp [e])
  have nl : gl ≠ b3 := fun e => hn.ne (by simp [e])
  have nq : q ≠ b3 := Ne.symm hb3
  have n6' := Ne.symm n6
  have n5' := Ne.symm n5
  have nl' := Ne.symm nl
  have HN := Lib.hid hn
  have HCH := Lib.hid hch
  clear hch
  have HOW := Lib.hid hown
  have HQ := Lib.hid hq
  have HQS := Lib.hid hqs
  clear hn hown hq hqs
  refine wp_region_held_drew (S := (fun w' => w'.cell? ⟨q, 0, none⟩ = some (.int .i64 tk) ∧ w'.cell? ⟨q, 1, none⟩ = some (.int .i64 kind) ∧ w'.cell? ⟨q, 2, none⟩ = some (.int .i64 key) ∧ w'.cell? ⟨q, 3, none⟩ = some (.int .i64 reg) ∧ w'.cell? ⟨b6, 0, none⟩ = some (.int .i64 frm) ∧ w'.cell? ⟨b5, 0, none⟩ = some (.pointer (some ⟨gl, k * 14, none⟩)) ∧ w'.cell? ⟨gl, k * 14, none⟩ = some (.int .i64 to))) (by kernel_rfl) ?_ (fun hHeld => ?_)
  · (try dsimp only); go_keep
  refine wpAnyH_take (i := 1) (oi := { dst := some 21, op := Op.load 67 (Operand.tmp 10), type := 67, pos := "ticks.go:45", after := #[], guard := none }) (v := ?vt0) rfl (by kernel_rfl) (by kernel_rfl) (by kernel_rfl) (fun _ _ _ h => h) (Or.inl ⟨by rfl, ?yt0⟩) (by assumption) ?rt0
  case yt0 => (intro w hSw; (try dsimp only at hSw); go_simp; (try with_reducible rfl))
  try simp only [Act.put, List.setIfInBounds_toArray, List.set_cons_zero, List.set_cons_succ]
  refine wpAnyH_take (i := 2) (oi := { dst := some 22, op := Op.load 3 (Operand.tmp 6), type := 3, pos := "ticks.go:45", after := #[], guard := none }) (v := ?vt1) rfl (by kernel_rfl) (by kernel_rfl) (by kernel_rfl) (fun _ _ _ h => h) (Or.inl ⟨by rfl, ?yt1⟩) (by assumption) ?rt1
  case yt1 => (intro w hSw; (try dsimp only at hSw); go_simp; (try with_reducible rfl))
  try simp only [Act.put, List.setIfInBounds_toArray, List.set_cons_zero, List.set_cons_succ]
  refine wpAnyH_take (i := 3) (oi := { dst := some 23, op := Op.move (Operand.tmp 1), type := 3, pos := "ticks.go:45", after := #[], guard := none }) (v := ?vt2) rfl (by kernel_rfl) (by kernel_rfl) (by kernel_rfl) (fun _ _ _ h => h) (Or.inl ⟨by rfl, ?yt2⟩) (by assumption) ?rt2
  case yt2 => (intro w hSw; (try dsimp only at hSw); go_simp; (try with_reducible rfl))
  try simp only [Act.put, List.setIfInBounds_toArray, List.set_cons_zero, List.set_cons_succ]
  refine wpAnyH_take (i := 5) (oi := { dst := some 25, op := Op.load 3 (Operand.tmp 6), type := 3, pos := "ticks.go:45", after := #[], guard := none }) (v := ?vt3) rfl (by kernel_rfl) (by kernel_rfl) (by kernel_rfl) (fun _ _ _ h => h) (Or.inl ⟨by rfl, ?yt3⟩) (by assumption) ?rt3
  case yt3 => (intro w hSw; (try dsimp only at hSw); go_simp; (try with_reducible rfl))
  try simp only [Act.put, List.setIfInBounds_toArray, List.set_cons_zero, List.set_cons_succ]
  refine wpAnyH_take (i := 6) (oi := { dst := some 26, op := Op.load 125 (Operand.tmp 7), type := 125, pos := "ticks.go:45", after := #[], guard := none }) (v := ?vt4) rfl (by kernel_rfl) (by kernel_rfl) (by kernel_rfl) (fun _ _ _ h => h) (Or.inl ⟨by rfl, ?yt4⟩) (by assumption) ?rt4
  case yt4 => (intro w hSw; (try dsimp only at hSw); go_simp; (try with_reducible rfl))
  try simp only [Act.put, List.setIfInBounds_toArray, List.set_cons_zero, List.set_cons_succ]
  refine wpAnyH_take (i := 7) (oi := { dst := some 27, op := Op.nilCheck (Operand.tmp 26), type := 0, pos := "ticks.go:45", after := #[{ on := 6, ground := Ground.data }], guard := none }) (v := ?vt5) rfl (by kernel_rfl) (by kernel_rfl) (by kernel_rfl) (fun _ _ _ h => h) (Or.inl ⟨by rfl, ?yt5⟩) (by assumption) ?rt5
  case yt5 => (intro w hSw; (try dsimp only at hSw); go_simp; (try with_reducible rfl))
  try simp only [Act.put, List.setIfInBounds_toArray, List.set_cons_zero, List.set_cons_succ]
  refine wpAnyH_take (i := 8) (oi := { dst := some 28, op := Op.fieldAddr 112 (Operand.tmp 27) 0, type := 0, pos := "ticks.go:45", after := #[{ on := 7, ground := Ground.data }], guard := none }) (v := ?vt6) rfl (by kernel_rfl) (by kernel_rfl) (by kernel_rfl) (fun _ _ _ h => h) (Or.inl ⟨by rfl, ?yt6⟩) (by assumption) ?rt6
  case yt6 => (intro w hSw; (try dsimp only at hSw); go_simp; (try with_reducible rfl))
  try simp only [Act.put, List.setIfInBounds_toArray, List.set_cons_zero, List.set_cons_succ]
  refine wpAnyH_take (i := 9) (oi := { dst := some 29, op := Op.load 3 (Operand.tmp 28), type := 3, pos := "ticks.go:45", after := #[{ on := 8, ground := Ground.data }], guard := none }) (v := ?vt7) rfl (by kernel_rfl) (by kernel_rfl) (by kernel_rfl) (fun _ _ _ h => h) (Or.inl ⟨by rfl, ?yt7⟩) (by assumption) ?rt7
  case yt7 => (intro w hSw; (try dsimp only at hSw); go_simp; (try with_reducible rfl))
  try simp only [Act.put, List.setIfInBounds_toArray, List.set_cons_zero, List.set_cons_succ]
  refine wpAnyH_ready (rs := [0, 4]) (by kernel_rfl) (by simp) ?_
  refine AllReadyH.cons rfl (fun K hK => ?_) ?_
  · go_simp
    refine hK.out _ _ ?_ (fun hHeld => ?_)
    · (try dsimp only); go_keep
    clear hK K
    refine wpAnyH_ready (rs := [4]) (by kernel_rfl) (by simp) ?_
    refine AllReadyH.cons rfl (fun K hK => ?_) ?_
    · (go_simp; go_wp2_with (go_at_call 89; (with_reducible refine (D1.out _).mono ?_); rintro e w1 ⟨rfl, rfl⟩))
      refine hK.out _ _ ?_ (fun hHeld => ?_)
      · (try dsimp only); go_keep
      clear hK K
      refine wpAnyH_ready (rs := [10]) (by kernel_rfl) (by simp) ?_
      refine AllReadyH.cons rfl (fun K hK => ?_) ?_
      · (go_simp; go_wp2_with (go_at_call 89; (with_reducible refine (D2.out _).mono ?_); rintro e w1 ⟨rfl, rfl⟩))
        refine hK.out _ _ ?_ (fun hHeld => ?_)
        · (try dsimp only); go_keep
        clear hK K
        refine wpAnyH_take (i := 11) (oi := { dst := some 31, op := Op.build 137 #[(0, Operand.tmp 21), (1, Operand.tmp 24), (2, Operand.tmp 30)], type := 137, pos := "ticks.go:45", after := #[{ on := 1, ground := Ground.data }, { on := 4, ground := Ground.data }, { on := 10, ground := Ground.data }], guard := none }) (v := ?vb1) rfl (by kernel_rfl) (by kernel_rfl) (by kernel_rfl) (fun _ _ _ h => h) (Or.inl ⟨by rfl, ?yb1⟩) (by assumption) ?rb1
        case yb1 => (intro w hSw; (try dsimp only at hSw); go_simp; (try with_reducible rfl))
        try simp only [Act.put, List.setIfInBounds_toArray, List.set_cons_zero, List.set_cons_succ]
        refine wpAnyH_ready (rs := [12]) (by kernel_rfl) (by simp) ?_
        refine AllReadyH.cons rfl (fun K hK => ?_) ?_
        · go_simp
          refine hK.out _ _ ?_ (fun hHeld => ?_)
          · (try dsimp only); go_keep
          clear hK K
          refine wpAnyH_ready (rs := [13]) (by kernel_rfl) (by simp) ?_
          refine AllReadyH.cons rfl (fun K hK => ?_) ?_
          · (refine note_append B W _ v ms.length (moL ms) (mo tk kind key reg frm to height) i0 hi hz0 hz1 hz2 hms rfl HOW.out hBW rfl _ _ rfl rfl rfl ?_; intro g cap w1 hown hgrow hat; obtain ⟨g1, g2, g3, g4, g5, g6, g7, g8, g9⟩ := HGR.out _ hgrow)
            refine hK.out _ _ ?_ (fun hHeld => ?_)
            · (try dsimp only); go_keep
            clear hK K
            refine wpAnyH_ready (rs := [14]) (by kernel_rfl) (by simp) ?_
            refine AllReadyH.cons rfl (fun K hK => ?_) ?_
            · go_simp
              refine hK.out _ _ ?_ (fun hHeld => ?_)
              · (try dsimp only); go_keep
              clear hK K
              refine wpAnyH_done (by kernel_rfl) ?_ _
              refine bodyPost_end (results_none rfl _ _ _) rfl ?_
              exact note_end HN.out HCH.out hown hgrow hat
            exact AllReadyH.nil
          exact AllReadyH.nil
        exact AllReadyH.nil
      exact AllReadyH.nil
    exact AllReadyH.nil
  refine AllReadyH.cons rfl (fun K hK => ?_) ?_
  · (go_simp; go_wp2_with (go_at_call 89; (with_reducible refine (D1.out _).mono ?_); rintro e w1 ⟨rfl, rfl⟩))
    refine hK.out _ _ ?_ (fun hHeld => ?_)
    · (try dsimp only); go_keep
    clear hK K
    refine wpAnyH_ready (rs := [0, 10]) (by kernel_rfl) (by simp) ?_
    refine AllReadyH.cons rfl (fun K hK => ?_) ?_
    · go_simp
      refine hK.out _ _ ?_ (fun hHeld => ?_)
      · (try dsimp only); go_keep
      clear hK K
      refine wpAnyH_ready (rs := [10]) (by kernel_rfl) (by simp) ?_
      refine AllReadyH.cons rfl (fun K hK => ?_) ?_
      · (go_simp; go_wp2_with (go_at_call 89; (with_reducible refine (D2.out _).mono ?_); rintro e w1 ⟨rfl, rfl⟩))
        refine hK.out _ _ ?_ (fun hHeld => ?_)
        · (try dsimp only); go_keep
        clear hK K
        refine wpAnyH_take (i := 11) (oi := { dst := some 31, op := Op.build 137 #[(0, Operand.tmp 21), (1, Operand.tmp 24), (2, Operand.tmp 30)], type := 137, pos := "ticks.go:45", after := #[{ on := 1, ground := Ground.data }, { on := 4, ground := Ground.data }, { on := 10, ground := Ground.data }], guard := none }) (v := ?vb2) rfl (by kernel_rfl) (by kernel_rfl) (by kernel_rfl) (fun _ _ _ h => h) (Or.inl ⟨by rfl, ?yb2⟩) (by assumption) ?rb2
        case yb2 => (intro w hSw; (try dsimp only at hSw); go_simp; (try with_reducible rfl))
        try simp only [Act.put, List.setIfInBounds_toArray, List.set_cons_zero, List.set_cons_succ]
        refine wpAnyH_ready (rs := [12]) (by kernel_rfl) (by simp) ?_
        refine AllReadyH.cons rfl (fun K hK => ?_) ?_
        · go_simp
          refine hK.out _ _ ?_ (fun hHeld => ?_)
          · (try dsimp only); go_keep
          clear hK K
          refine wpAnyH_ready (rs := [13]) (by kernel_rfl) (by simp) ?_
          refine AllReadyH.cons rfl (fun K hK => ?_) ?_
          · (refine note_append B W _ v ms.length (moL ms) (mo tk kind key reg frm to height) i0 hi hz0 hz1 hz2 hms rfl HOW.out hBW rfl _ _ rfl rfl rfl ?_; intro g cap w1 hown hgrow hat; obtain ⟨g1, g2, g3, g4, g5, g6, g7, g8, g9⟩ := HGR.out _ hgrow)
            refine hK.out _ _ ?_ (fun hHeld => ?_)
            · (try dsimp only); go_keep
            clear hK K
            refine wpAnyH_ready (rs := [14]) (by kernel_rfl) (by simp) ?_
            refine AllReadyH.cons rfl (fun K hK => ?_) ?_
            · go_simp
              refine hK.out _ _ ?_ (fun hHeld => ?_)
              · (try dsimp only); go_keep
              clear hK K
              refine wpAnyH_done (by kernel_rfl) ?_ _
              refine bodyPost_end (results_none rfl _ _ _) rfl ?_
              exact note_end HN.out HCH.out hown hgrow hat
            exact AllReadyH.nil
          exact AllReadyH.nil
        exact AllReadyH.nil
      exact AllReadyH.nil
    refine AllReadyH.cons rfl (fun K hK => ?_) ?_
    · (go_simp; go_wp2_with (go_at_call 89; (with_reducible refine (D2.out _).mono ?_); rintro e w1 ⟨rfl, rfl⟩))
      refine hK.out _ _ ?_ (fun hHeld => ?_)
      · (try dsimp only); go_keep
      clear hK K
      refine wpAnyH_take (i := 11) (oi := { dst := some 31, op := Op.build 137 #[(0, Operand.tmp 21), (1, Operand.tmp 24), (2, Operand.tmp 30)], type := 137, pos := "ticks.go:45", after := #[{ on := 1, ground := Ground.data }, { on := 4, ground := Ground.data }, { on := 10, ground := Ground.data }], guard := none }) (v := ?vb3) rfl (by kernel_rfl) (by kernel_rfl) (by kernel_rfl) (fun _ _ _ h => h) (Or.inl ⟨by rfl, ?yb3⟩) (by assumption) ?rb3
      case yb3 => (intro w hSw; (try dsimp only at hSw); go_simp; (try with_reducible rfl))
      try simp only [Act.put, List.setIfInBounds_toArray, List.set_cons_zero, List.set_cons_succ]
      refine wpAnyH_ready (rs := [0, 12]) (by kernel_rfl) (by simp) ?_
      refine AllReadyH.cons rfl (fun K hK => ?_) ?_
      · go_simp
        refine hK.out _ _ ?_ (fun hHeld => ?_)
        · (try dsimp only); go_keep
        clear hK K
        refine wpAnyH_ready (rs := [12]) (by kernel_rfl) (by simp) ?_
        refine AllReadyH.cons rfl (fun K hK => ?_) ?_
        · go_simp
          refine hK.out _ _ ?_ (fun hHeld => ?_)
          · (try dsimp only); go_keep
          clear hK K
          refine wpAnyH_ready (rs := [13]) (by kernel_rfl) (by simp) ?_
          refine AllReadyH.cons rfl (fun K hK => ?_) ?_
          · (refine note_append B W _ v ms.length (moL ms) (mo tk kind key reg frm to height) i0 hi hz0 hz1 hz2 hms rfl HOW.out hBW rfl _ _ rfl rfl rfl ?_; intro g cap w1 hown hgrow hat; obtain ⟨g1, g2, g3, g4, g5, g6, g7, g8, g9⟩ := HGR.out _ hgrow)
            refine hK.out _ _ ?_ (fun hHeld => ?_)
            · (try dsimp only); go_keep
            clear hK K
            refine wpAnyH_ready (rs := [14]) (by kernel_rfl) (by simp) ?_
            refine AllReadyH.cons rfl (fun K hK => ?_) ?_
            · go_simp
              refine hK.out _ _ ?_ (fun hHeld => ?_)
              · (try dsimp only); go_keep
              clear hK K
              refine wpAnyH_done (by kernel_rfl) ?_ _
              refine bodyPost_end (results_none rfl _ _ _) rfl ?_
              exact note_end HN.out HCH.out hown hgrow hat
            exact AllReadyH.nil
          exact AllReadyH.nil
        exact AllReadyH.nil
      refine AllReadyH.cons rfl (fun K hK => ?_) ?_
      · go_simp
        refine hK.out _ _ ?_ (fun hHeld => ?_)
        · (try dsimp only); go_keep
        clear hK K
        refine wpAnyH_ready (rs := [0]) (by kernel_rfl) (by simp) ?_
        refine AllReadyH.cons rfl (fun K hK => ?_) ?_
        · go_simp
          refine hK.out _ _ ?_ (fun hHeld => ?_)
          · (try dsimp only); go_keep
          clear hK K
          refine wpAnyH_ready (rs := [13]) (by kernel_rfl) (by simp) ?_
          refine AllReadyH.cons rfl (fun K hK => ?_) ?_
          · (refine note_append B W _ v ms.length (moL ms) (mo tk kind key reg frm to height) i0 hi hz0 hz1 hz2 hms rfl HOW.out hBW rfl _ _ rfl rfl rfl ?_; intro g cap w1 hown hgrow hat; obtain ⟨g1, g2, g3, g4, g5, g6, g7, g8, g9⟩ := HGR.out _ hgrow)
            refine hK.out _ _ ?_ (fun hHeld => ?_)
            · (try dsimp only); go_keep
            clear hK K
            refine wpAnyH_ready (rs := [14]) (by kernel_rfl) (by simp) ?_
            refine AllReadyH.cons rfl (fun K hK => ?_) ?_
            · go_simp
              refine hK.out _ _ ?_ (fun hHeld => ?_)
              · (try dsimp only); go_keep
              clear hK K
              refine wpAnyH_done (by kernel_rfl) ?_ _
              refine bodyPost_end (results_none rfl _ _ _) rfl ?_
              exact note_end HN.out HCH.out hown hgrow hat
            exact AllReadyH.nil
          exact AllReadyH.nil
        exact AllReadyH.nil
      exact AllReadyH.nil
    exact AllReadyH.nil
  exact AllReadyH.nil
end Go.Proofs.Ytpaemlkikkcjiaa
