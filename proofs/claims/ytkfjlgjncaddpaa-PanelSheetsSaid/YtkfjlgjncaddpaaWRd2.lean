/- The reader of plans: a shape by its number; a piece is added. -/
import Derived.Test.YtkfjlgjncaddpaaWRd1
import Derived.BigRegion
import Derived.Deep.Cut
import Derived.Test.YtkfjlgjncaddpaaHeldP
namespace Go.Proofs.Ytkfjlgjncaddpaa
open Go.RowKit

set_option maxHeartbeats 1000000 in
theorem shape_bad {p : Nat} {w0 w : World} {K : Int} {A : Option Addr} {L cp : Nat} {rest : List Cu} {vp : Value} {ps : List Pc} (h : RdM p w0 w K A L cp rest vp ps) (hL : L ≤ 1000000) (n : Int) (hn : inB n 0 ((L : Int) - 1) = false) :
    Calls Try.prog 60 #[.pointer (some ⟨p, 0, none⟩), .int .i64 n] w fun e w' => e = .panicked pnc ∧ Below w.heap.size w w' := by
  have hb := below_new w (.cells #[.int .i64 0, .int .i64 0, .int .i64 0, .bool false] 65)
  obtain ⟨A', c', hx, _⟩ := (h.keep hb).bx
  have f1 := hx.cell 1
  simp only [List.getElem?_cons_zero, List.getElem?_cons_succ] at f1
  have hw : IntKind.i64.wrap ((L : Int) - 1) = (L : Int) - 1 := wrapI (by omega) (by omega)
  have hwi := fun W => within_any n 0 ((L : Int) - 1) W
  rw [hn] at hwi
  go_enter Try.func60, Try.ntmps60
  go_wp2_with (first | (go_at_call 42; refine (hwi _).mono ?_; rintro e w1 ⟨rfl, rfl⟩) | (go_at_call 48; refine (demand_f _).mono ?_; rintro e w1 ⟨rfl, rfl⟩))
  exact ⟨rfl, rfl, hb⟩
set_option maxHeartbeats 1000000 in
theorem shape_ok {p : Nat} {w0 w : World} {K : Int} {A : Option Addr} {L cp : Nat} {rest : List Cu} {vp : Value} {ps : List Pc} {ss : List Sh} (h : RdM p w0 w K A L cp rest vp ps) (hA : ShAt w0 A ss) (hLs : L = ss.length) (hL : L ≤ 1000000) (n : Nat) (hn : n < L) :
    Calls Try.prog 60 #[.pointer (some ⟨p, 0, none⟩), .int .i64 (n : Int)] w fun e w' => e = .returned (shV (ss.getD n sh0)) ∧ Below w.heap.size w w' := by
  have hb := below_new w (.cells #[.int .i64 0, .int .i64 0, .int .i64 0, .bool false] 65)
  have hh := h.keep hb
  have hsz := h.siz
  obtain ⟨A', c', hx, _⟩ := hh.bx
  have f1 := hx.cell 1
  simp only [List.getElem?_cons_zero, List.getElem?_cons_succ] at f1
  have hw : IntKind.i64.wrap ((L : Int) - 1) = (L : Int) - 1 := wrapI (by omega) (by omega)
  have hwi := fun W => within_any (n : Int) 0 ((L : Int) - 1) W
  rw [show inB (n : Int) 0 ((L : Int) - 1) = true by unfold inB; simp; omega] at hwi
  obtain ⟨g, off, rfl, hg, d0, d1, d2, d3⟩ := ShAt.at_ hA (i := n) (by omega)
  have c0 := (hh.bel.cell (p := ⟨g, off + n * 4, none⟩) (by show g < p; omega)).trans d0
  have c1 := (hh.bel.cell (p := ⟨g, off + n * 4 + 1, none⟩) (by show g < p; omega)).trans d1
  have c2 := (hh.bel.cell (p := ⟨g, off + n * 4 + 2, none⟩) (by show g < p; omega)).trans d2
  have c3 := (hh.bel.cell (p := ⟨g, off + n * 4 + 3, none⟩) (by show g < p; omega)).trans d3
  have hlt : (n : Int) < (L : Int) := by omega
  generalize ss.getD n sh0 = s at *
  obtain ⟨sw, sh, sv, st⟩ := s
  simp only at c0 c1 c2 c3
  have H3 : Hid (Blk 65 (w.alloc (.cells #[.int .i64 sw, .int .i64 sh, .int .i64 sv, .bool st] 65)) w.heap.size [.int .i64 sw, .int .i64 sh, .int .i64 sv, .bool st]) := Lib.hid (Blk.new w 65 [.int .i64 sw, .int .i64 sh, .int .i64 sv, .bool st])
  have HB := Lib.hid (below_new w (.cells #[.int .i64 sw, .int .i64 sh, .int .i64 sv, .bool st] 65))
  clear d0 d1 d2 d3 hh h hx hA hsz hLs hb
  go_enter Try.func60, Try.ntmps60
  go_wp2_with (first | (go_at_call 42; refine (hwi _).mono ?_; rintro e w1 ⟨rfl, rfl⟩) | (go_at_call 48; refine (demand_t _).mono ?_; rintro e w1 ⟨rfl, rfl⟩))
  exact bodyPost_ret (results_cell1 rfl _ _ _ _ _ rfl H3.out und65 size65) rfl ⟨rfl, HB.out⟩
theorem step_lies {P : Program} {ops : Array Oper} {o : Oper} {a : Act} {w : World} {K : Act → World → Prop} {Q : Exit → Act → World → Prop} {E : Prop} (hw : Region.wanted o (yielded ops a.tmps) = true) (s x : Operand) (t : TypeId)
    (ho : o.op = .call { callee := .builtin .append, args := #[s, x], argTypes := #[t, t] })
    (base : Nat) (e : TypeId) (i : TypeInfo) (z : Value) (size bytes : Nat) (ht : P.underlying t = some (.slice e)) (hi : P.info? e = some i) (hz : i.zero = some z)
    (hsize : i.size = size) (hby : i.bytes = bytes) (hzs : z.cells.size = size) (hsz : 0 < size)
    (v : Value) (n : Nat) (xs : List Value) (hs : a.eval s = v) (hown : w.ownsRow base e size v n xs)
    (ad : Addr) (m c : Nat) (news : List Value) (hx : a.eval x = .slice (some ad) m c) (hl : news.length = m * size) (hnews : ∀ j u, news[j]? = some u → w.cell? (ad.add j) = some u) (h1 : ∀ u ∈ news, u.oneCell' = true)
    (hm : 0 < m) (h63 : n + m ≤ maxLen) (hbytes : (n + m) * bytes ≤ 140737488355328) (hbase : base ≤ w.heap.size) (H : Nat) (hH : w.heap.size = H)
    (h : ∀ g cap w', w'.ownsRow base e size (.slice (some ⟨g, 0, none⟩) (n + m) cap) (n + m) (xs ++ news) → w.grownBy w' v.ownBlock → (v.ownBlock = some g ∨ g = H) → g < w'.heap.size → K (a.put o.dst (.slice (some ⟨g, 0, none⟩) (n + m) cap)) w') :
    if Region.wanted o (yielded ops a.tmps) = true then Oper.wp P o a w K Q else E := by
  rw [if_pos hw]
  exact wp_append_lies w s x t ho base e i z size bytes ht hi hz hsize hby hzs hsz v n xs hs hown ad m c news hx hl hnews h1 hm h63 hbytes hbase H hH h
set_option maxHeartbeats 2000000 in
set_option maxRecDepth 100000 in
theorem add_any {p : Nat} {w0 w : World} {K : Int} {A : Option Addr} {L cp : Nat} {rest : List Cu} {vp : Value} {ps : List Pc} (h : RdM p w0 w K A L cp rest vp ps) (hps : ps.length ≤ 100000) (x y a b n : Int) :
    Calls Try.prog 61 #[.pointer (some ⟨p, 0, none⟩), rcV x y a b, .int .i64 n] w fun e w' => e = .returned (.tuple #[]) ∧ ∃ vp', RdM p w0 w' K A L cp rest vp' (ps ++ [⟨x, y, a, b, n⟩]) ∧ GrP p vp vp' w w' ∧ Below p w w' := by
  obtain ⟨i0, hi0, hz0, hz1, hz2⟩ := info_parts infoPc
  have hb1 := below_new w (.cells #[.int .i64 x, .int .i64 y, .int .i64 a, .int .i64 b] 89)
  have hq := Blk.new w 89 [.int .i64 x, .int .i64 y, .int .i64 a, .int .i64 b]
  have hh := h.keep hb1
  have hpl := h.lt
  have hvl : ∀ g, vp.ownBlock = some g → g < w.heap.size := own_ltS h.own
  have HG1 : Hid (GrP p vp vp w _) := Lib.hid (GrP.of_below hb1)
  have HB1 : Hid (Below p w _) := Lib.hid (hb1.mono (Nat.le_of_lt hpl))
  have HH := Lib.hid hh
  have HQ := Lib.hid hq
  obtain ⟨q, hqe⟩ : ∃ q, q = w.heap.size := ⟨_, rfl⟩
  have HVL := Lib.hid hvl
  rw [← hqe] at HQ HVL hpl
  clear h hh hq hb1 hvl
  unfold rcV
  go_enter Try.func61, Try.ntmps61
  go_upto_region 1 with (fail)
  rw [← hqe]
  clear hqe
  generalize w.alloc (.cells #[.int .i64 x, .int .i64 y, .int .i64 a, .int .i64 b] 89) = W at *
  obtain ⟨A', c', hx, hy⟩ := HH.out.bx
  have f3 : W.drew.cell? ⟨p, 3, none⟩ = some vp := hx.cell 3
  have r0 : W.drew.cell? ⟨q, 0, none⟩ = some (.int .i64 x) := HQ.out.cell 0
  have r1 : W.drew.cell? ⟨q, 1, none⟩ = some (.int .i64 y) := HQ.out.cell 1
  have r2 : W.drew.cell? ⟨q, 2, none⟩ = some (.int .i64 a) := HQ.out.cell 2
  have r3 : W.drew.cell? ⟨q, 3, none⟩ = some (.int .i64 b) := HQ.out.cell 3
  have hb2 : Below W.heap.size W (W.alloc (.cells #[.int .i64 x, .int .i64 y, .int .i64 a, .int .i64 b, .int .i64 n] 53)).drew := ((Below.refl _ _).alloc (Nat.le_refl _) _).drew
  have HX := Lib.hid hx
  have HY := Lib.hid hy
  have HO2 := Lib.hid (own_keep HH.out.own hb2)
  have HN2 : Hid (Blk 53 (W.alloc (.cells #[.int .i64 x, .int .i64 y, .int .i64 a, .int .i64 b, .int .i64 n] 53)).drew W.heap.size (pcC ⟨x, y, a, b, n⟩)) := Lib.hid (Blk.new W 53 (pcC ⟨x, y, a, b, n⟩)).drew
  have HX2 := Lib.hid (hx.keep hb2)
  have HQ2 := Lib.hid (HQ.out.keep hb2)
  have hON : Hid (∀ u ∈ pcC ⟨x, y, a, b, n⟩, u.oneCell' = true) := Lib.hid (by have := pcs_one [⟨x, y, a, b, n⟩]; simpa [pcs] using this)
  have hmx : ps.length + 1 ≤ maxLen := by unfold maxLen; omega
  have hby : (ps.length + 1) * 40 ≤ 140737488355328 := by omega
  have hB2 : p + 1 ≤ (W.alloc (.cells #[.int .i64 x, .int .i64 y, .int .i64 a, .int .i64 b, .int .i64 n] 53)).drew.heap.size := by have := HH.out.lt; simp; omega
  have hnp : some p ≠ vp.ownBlock := fun e => by have := own_ge HH.out.own p e.symm; omega
  have hnq : some q ≠ vp.ownBlock := fun e => by have := HVL.out q e.symm; omega
  have HNP := Lib.hid hnp
  have HNQ := Lib.hid hnq
  have s2 : (W.alloc (.cells #[.int .i64 x, .int .i64 y, .int .i64 a, .int .i64 b, .int .i64 n] 53)).drew.cell? ⟨p, 3, none⟩ = some vp ∧ _ ∧ _ ∧ _ ∧ _ := ⟨HX2.out.cell 3, HQ2.out.cell 0, HQ2.out.cell 1, HQ2.out.cell 2, HQ2.out.cell 3⟩
  clear hx hy hb2 hnp hnq
  have s1 : W.drew.cell? ⟨p, 3, none⟩ = some vp ∧ W.drew.cell? ⟨q, 0, none⟩ = some (.int .i64 x) ∧ W.drew.cell? ⟨q, 1, none⟩ = some (.int .i64 y) ∧ W.drew.cell? ⟨q, 2, none⟩ = some (.int .i64 a) ∧ W.drew.cell? ⟨q, 3, none⟩ = some (.int .i64 b) := ⟨f3, r0, r1, r2, r3⟩
  refine wp_region_heldE 15 19 (fun w' => w'.cell? ⟨p, 3, none⟩ = some vp ∧ w'.cell? ⟨q, 0, none⟩ = some (.int .i64 x) ∧ w'.cell? ⟨q, 1, none⟩ = some (.int .i64 y) ∧ w'.cell? ⟨q, 2, none⟩ = some (.int .i64 a) ∧ w'.cell? ⟨q, 3, none⟩ = some (.int .i64 b)) (by kernel_rfl) (by kernel_rfl) (by decide) (by kernel_rfl) (fun _ _ dst _ _ h => by cases dst <;> exact h) s1 ?_
  simp only [List.take_succ_cons, List.take_zero, List.drop_succ_cons, List.drop_zero]
  refine heads_cons (.pointer (some ⟨p, 0, none⟩)) (by rfl) (fun w' ⟨z3, y0, y1, y2, y3⟩ => by go_simp) ?_
  refine heads_cons (.pointer (some ⟨p, 0, none⟩)) (by rfl) (fun w' ⟨z3, y0, y1, y2, y3⟩ => by go_simp) ?_
  refine heads_cons (.pointer (some ⟨p, 0, none⟩)) (by rfl) (fun w' ⟨z3, y0, y1, y2, y3⟩ => by go_simp) ?_
  refine heads_cons (.pointer (some ⟨p, 3, none⟩)) (by rfl) (fun w' ⟨z3, y0, y1, y2, y3⟩ => by go_simp) ?_
  refine heads_cons (vp) (by rfl) (fun w' ⟨z3, y0, y1, y2, y3⟩ => by go_simp) ?_
  refine heads_cons (.pointer (some ⟨q, 0, none⟩)) (by rfl) (fun w' ⟨z3, y0, y1, y2, y3⟩ => by go_simp) ?_
  refine heads_cons (.int .i64 x) (by rfl) (fun w' ⟨z3, y0, y1, y2, y3⟩ => by go_simp) ?_
  refine heads_cons (.pointer (some ⟨q, 1, none⟩)) (by rfl) (fun w' ⟨z3, y0, y1, y2, y3⟩ => by go_simp) ?_
  refine heads_cons (.int .i64 y) (by rfl) (fun w' ⟨z3, y0, y1, y2, y3⟩ => by go_simp) ?_
  refine heads_cons (.pointer (some ⟨q, 2, none⟩)) (by rfl) (fun w' ⟨z3, y0, y1, y2, y3⟩ => by go_simp) ?_
  refine heads_cons (.int .i64 a) (by rfl) (fun w' ⟨z3, y0, y1, y2, y3⟩ => by go_simp) ?_
  refine heads_cons (.pointer (some ⟨q, 3, none⟩)) (by rfl) (fun w' ⟨z3, y0, y1, y2, y3⟩ => by go_simp) ?_
  refine heads_cons (.int .i64 b) (by rfl) (fun w' ⟨z3, y0, y1, y2, y3⟩ => by go_simp) ?_
  refine heads_cons (.int .i64 n) (by rfl) (fun w' ⟨z3, y0, y1, y2, y3⟩ => by go_simp) ?_
  refine heads_cons (.agg #[.int .i64 x, .int .i64 y, .int .i64 a, .int .i64 b, .int .i64 n]) (by rfl) (fun w' ⟨z3, y0, y1, y2, y3⟩ => by go_simp) ?_
  refine heads_nil ?_
  refine tailE_cons (by rfl) (fun K hK => ?_)
  go_simp
  refine hK _ _ (.inr s2) ?_
  clear hK K
  refine tailE_cons (by rfl) (fun K hK => ?_)
  refine wp_append_lies _ (.tmp 10) (.tmp 21) 45 rfl (p + 1) 53 i0 zPc 5 40 Try.underlying45 hi0 hz0 hz1 hz2 rfl (by decide) vp ps.length (pcs ps) rfl HO2.out ⟨W.heap.size, 0, none⟩ 1 1 (pcC ⟨x, y, a, b, n⟩) rfl rfl (vals_cells HN2.out.vals0) hON.out (by decide) hmx hby hB2 _ rfl ?_
  intro g5 cap5 w5 hown5 hgr5 hat5 hlt5
  have kx5 := HX2.out.grown hgr5 HNP.out
  have kq5 := HQ2.out.grown hgr5 HNQ.out
  have f5 := kx5.cell 3
  have ff5 := kx5.frozen 3
  refine hK _ _ (.inr ⟨f5, kq5.cell 0, kq5.cell 1, kq5.cell 2, kq5.cell 3⟩) ?_
  clear hK K
  refine tailE_cons (by rfl) (fun K hK => ?_)
  go_simp
  refine hK _ _ (.inr ⟨f5, kq5.cell 0, kq5.cell 1, kq5.cell 2, kq5.cell 3⟩) ?_
  clear hK K
  refine tailE_cons (by rfl) (fun K hK => ?_)
  go_simp
  refine hK _ _ (.inr ⟨f5, kq5.cell 0, kq5.cell 1, kq5.cell 2, kq5.cell 3⟩) ?_
  clear hK K
  refine tailE_cons (by rfl) (fun K hK => ?_)
  go_simp
  refine hK _ _ (.inl rfl) ?_
  clear hK K
  refine tailE_nil ?_
  have hbl2 : Below p W (W.alloc (.cells #[.int .i64 x, .int .i64 y, .int .i64 a, .int .i64 b, .int .i64 n] 53)).drew := (((Below.refl W.heap.size W).alloc (Nat.le_refl _) _).drew).mono (Nat.le_of_lt HH.out.lt)
  have hbl5 : Below p W w5 := hbl2.grown hgr5 (Nat.le_of_succ_le hB2) (fun g e => Nat.le_of_succ_le (own_ge HH.out.own g e))
  have hbl6 := below_set (i := 3) hbl5 (Nat.le_refl p) (.slice (some ⟨g5, 0, none⟩) (ps.length + 1) cap5)
  have hge := own_ge hown5 g5 rfl
  obtain ⟨g6, cap6, e6, h61, h63, h64, h65, h66⟩ := own_hd hown5 (by intro e; injection e with e; cases e)
  have hw6 : (w5.setCell ⟨p, 3, none⟩ (.slice (some ⟨g5, 0, none⟩) (ps.length + 1) cap5)).ownsRow (p + 1) 53 5 (.slice (some ⟨g5, 0, none⟩) (ps.length + 1) cap5) (ps.length + 1) (pcs ps ++ pcC ⟨x, y, a, b, n⟩) :=
    hd_own ⟨g6, cap6, e6, h61, h63, h64, h65, h66.setOther (a := ⟨p, 3, none⟩) (by injection e6 with e6; injection e6 with e6; injection e6 with e6; show g6 ≠ p; omega) _⟩
  have hps2 : pcs ps ++ pcC ⟨x, y, a, b, n⟩ = pcs (ps ++ [⟨x, y, a, b, n⟩]) := by rw [pcs_append]; simp [pcs]
  rw [hps2] at hw6
  have hx6 := kx5.set 3 (.slice (some ⟨g5, 0, none⟩) (ps.length + 1) cap5)
  have hgr : GrP p vp (.slice (some ⟨g5, 0, none⟩) (ps.length + 1) cap5) w (w5.setCell ⟨p, 3, none⟩ (.slice (some ⟨g5, 0, none⟩) (ps.length + 1) cap5)) := by
    refine (HG1.out.trans (GrP.of_below (((Below.refl W.heap.size W).alloc (Nat.le_refl _) (.cells #[.int .i64 x, .int .i64 y, .int .i64 a, .int .i64 b, .int .i64 n] 53)).drew))).trans ⟨?_, fun i hi hp hne => ?_, ?_⟩
    · have := hgr5.size
      simpa using this
    · rw [heap_setCell_other w5 ⟨p, 3, none⟩ i _ hp]
      exact hgr5.block i hi hne
    · rcases hat5 with e | e
      · exact .inl e.symm
      · exact .inr fun g hg => by simp only [Value.ownBlock, Option.some.injEq] at hg; omega
  have fin : RdM p w0 (w5.setCell ⟨p, 3, none⟩ (.slice (some ⟨g5, 0, none⟩) (ps.length + 1) cap5)) K A L cp rest (.slice (some ⟨g5, 0, none⟩) (ps.length + 1) cap5) (ps ++ [⟨x, y, a, b, n⟩]) :=
    ⟨⟨A', c', by simpa using hx6, HY.out⟩, by rw [List.length_append]; exact hw6, HH.out.bel.trans hbl6, HH.out.siz⟩
  have hbel := HB1.out.trans hbl6
  go_end0
  exact ⟨rfl, _, fin, hgr, hbel⟩
end Go.Proofs.Ytkfjlgjncaddpaa
