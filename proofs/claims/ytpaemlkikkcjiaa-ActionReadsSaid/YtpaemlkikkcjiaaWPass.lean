/- pass: a jack whose key moves. -/
import Derived.Test.YtpaemlkikkcjiaaWNote
import Derived.Deep.Cut
namespace Go.Proofs.Ytpaemlkikkcjiaa
open Go.RowKit

/-- The three things that can happen to a jack. -/
def cP (frm to pl : Int) (j : Jk) : Bool := (decide (frm < pl) && decide (pl ≤ to)) && !j.ab
def cR (frm to re : Int) (j : Jk) : Bool := (decide (re < frm) && decide (to ≤ re)) && j.ab
def cD (frm to da : Int) (j : Jk) : Bool := (decide (da < frm) && decide (to ≤ da)) && j.so
def j1 (tk frm to pl : Int) (j : Jk) : Jk := if cP frm to pl j = true then ⟨true, true, tk⟩ else j
def j2 (frm to re : Int) (j : Jk) : Jk := if cR frm to re j = true then { j with ab := false } else j
def j3 (frm to da : Int) (j : Jk) : Jk := if cD frm to da j = true then { j with so := false } else j
/-- What becomes of a jack. -/
def passJ (tk frm to pl re da : Int) (j : Jk) : Jk := j3 frm to da (j2 frm to re (j1 tk frm to pl j))
def n1 (tk key reg frm to pl : Int) (j : Jk) : List Mo := if cP frm to pl j = true then [mo tk 1 key reg frm to pl] else []
def n2 (tk key reg frm to re : Int) (j : Jk) : List Mo := if cR frm to re j = true then [mo tk 2 key reg frm to re] else []
def n3 (tk key reg frm to da : Int) (j : Jk) : List Mo := if cD frm to da j = true then [mo tk 3 key reg frm to da] else []
/-- What is noted of it. -/
def passN (tk key reg frm to pl re da : Int) (j : Jk) : List Mo :=
  n1 tk key reg frm to pl j ++ n2 tk key reg frm to re (j1 tk frm to pl j) ++ n3 tk key reg frm to da (j2 frm to re (j1 tk frm to pl j))
theorem n_len (tk key reg frm to pl re da : Int) (j : Jk) : (passN tk key reg frm to pl re da j).length ≤ 3 := by
  unfold passN n1 n2 n3
  simp only [List.length_append]
  split <;> split <;> split <;> simp

theorem Chg.after {L M : List Nat} {w w1 w2 : World} (h : Chg L w w1) (g : Chg M w1 w2) (hs : ∀ x, x ∈ M → x ∈ L ∨ w.heap.size ≤ x) : Chg L w w2 :=
  ⟨g.os.trans h.os, g.tape.trans h.tape, g.output.trans h.output, Nat.le_trans h.size g.size, fun k hk hn => by
    rw [g.block k (Nat.lt_of_lt_of_le hk h.size) (fun hm => by rcases hs k hm with h1 | h1; exact hn h1; omega)]
    exact h.block k hk hn⟩

/-- What stands while a jack is passed. -/
structure PaS (B : Nat) (w0 w : World) (b1 b4 b7 b3 b6 b5 p gl cl gr cr k q : Nat) (m : Mk) (key reg frm to pl re da : Int) (on : Bool) (S : Ms) (v0 v : Value) (ms : List Mo) : Prop where
  mac : MacM w p gl cl gr cr m S
  note : NoteM B w b1 b4 b7 b3 b6 b5 p gl gr k S.tk key reg frm to v ms
  chg : Chg (gl :: b3 :: v0.ownBlock.toList) w0 w
  own : ∀ b, v.ownBlock = some b → (v0.ownBlock = some b ∨ w0.heap.size ≤ b) ∧ b ≠ q
  box : Blk 84 w q [.int .i64 pl, .int .i64 re, .int .i64 da, .bool on]
  far : q ∉ [b1, b4, b7, b3, b6, b5, p, gl, gr] ∧ w0.heap.size ≤ q

section
variable {B : Nat} {w0 w : World} {b1 b4 b7 b3 b6 b5 p gl cl gr cr k q : Nat} {m : Mk} {key reg frm to pl re da : Int} {on : Bool} {S : Ms} {v0 v : Value} {ms : List Mo}
theorem PaS.call (h : PaS B w0 w b1 b4 b7 b3 b6 b5 p gl cl gr cr k q m key reg frm to pl re da on S v0 v ms) (kind height : Int) (hB : B ≤ w.heap.size) (hms : ms.length ≤ 100000)
    (hr : -100000 ≤ frm ∧ frm ≤ 100000 ∧ -100000 ≤ to ∧ to ≤ 100000 ∧ -100000 ≤ height ∧ height ≤ 100000) :
    Calls Try.prog 88 #[.int .i64 kind, .int .i64 height, .pointer (some ⟨b1, 0, none⟩), .pointer (some ⟨b4, 0, none⟩), .pointer (some ⟨b7, 0, none⟩), .pointer (some ⟨b3, 0, none⟩), .pointer (some ⟨b6, 0, none⟩), .pointer (some ⟨b5, 0, none⟩)] w
      fun e w' => (∃ x, e = .returned x) ∧ ∃ v', PaS B w0 w' b1 b4 b7 b3 b6 b5 p gl cl gr cr k q m key reg frm to pl re da on S v0 v' (ms ++ [mo S.tk kind key reg frm to height]) := by
  refine (note_any B w b1 b4 b7 b3 b6 b5 p gl gr k S.tk key reg frm to kind height v ms h.note hB hms hr).mono ?_
  rintro e w' ⟨hx, v', hn, hc, ho⟩
  refine ⟨hx, v', ⟨?_, hn, ?_, ?_, ?_, h.far⟩⟩
  · refine h.mac.chg hc ⟨?_, ?_, ?_⟩ <;>
    · intro hm
      rcases List.mem_cons.1 hm with h1 | h1
      · exact h.note.ne (by simp [← h1])
      · exact h.note.apart _ (by simpa using h1) (by simp)
  · refine h.chg.after hc fun x hx => ?_
    rcases List.mem_cons.1 hx with rfl | h1
    · left; simp
    · rcases (h.own x (by simpa using h1)).1 with h2 | h2
      · left; simp [h2]
      · exact .inr h2
  · intro b hb
    rcases ho b hb with h1 | h1
    · exact h.own b h1
    · have := h.chg.size
      have := h.box.lt
      exact ⟨.inr (by omega), by omega⟩
  · refine hc.blk h.box ?_
    intro hm
    rcases List.mem_cons.1 hm with h1 | h1
    · exact h.far.1 (by simp [h1])
    · exact (h.own q (by simpa using h1)).2 rfl
theorem PaS.set (h : PaS B w0 w b1 b4 b7 b3 b6 b5 p gl cl gr cr k q m key reg frm to pl re da on S v0 v ms) {i : Nat} {x : Value} {S' : Ms} (hi : i ≠ k * 14) (hm : MacM (w.setCell ⟨gl, i, none⟩ x) p gl cl gr cr m S') (htk : S'.tk = S.tk) :
    PaS B w0 (w.setCell ⟨gl, i, none⟩ x) b1 b4 b7 b3 b6 b5 p gl cl gr cr k q m key reg frm to pl re da on S' v0 v ms := by
  have c1 : Chg [gl] w (w.setCell ⟨gl, i, none⟩ x) := (Chg.refl [gl] w).set (.inl (by simp)) x
  have hn := h.note
  have e : ∀ b, b ∈ [b1, b4, b7, b3, b6, b5, p, gl, gr] → ∀ j, (b ≠ gl ∨ j = k * 14) → (w.setCell ⟨gl, i, none⟩ x).cell? ⟨b, j, none⟩ = w.cell? ⟨b, j, none⟩ := fun b hb j hj => by
    refine World.cell?_setCell_other _ _ _ _ ?_
    intro e
    injection e with e1 e2
    rcases hj with h1 | h1
    · exact h1 e1.symm
    · exact hi (by omega)
  have hne : ∀ b, b ∈ [b1, b4, b7, b3, b6, b5] → b ≠ gl := fun b hb => (hn.nb b hb).2.1
  refine ⟨hm, ?_, ?_, h.own, ?_, h.far⟩
  · rw [htk]
    exact ⟨(e _ (by simp) _ (.inl (hne _ (by simp)))).trans hn.c1, (e _ (by simp) _ (.inl h.mac.ne.1)).trans hn.cp, (e _ (by simp) _ (.inl (hne _ (by simp)))).trans hn.c4, (e _ (by simp) _ (.inl (hne _ (by simp)))).trans hn.c7,
      (e _ (by simp) _ (.inl (hne _ (by simp)))).trans hn.c6, (e _ (by simp) _ (.inl (hne _ (by simp)))).trans hn.c5, (e _ (by simp) _ (.inr rfl)).trans hn.ch, (e _ (by simp) _ (.inl (hne _ (by simp)))).trans hn.c3,
      by rw [World.frozen?_setCell]; exact hn.f3, c1.own hn.own (fun b hb hm => hn.apart b hb (by simp at hm; simp [hm])), hn.apart, hn.ne, hn.nb, fun b hb => Nat.lt_of_lt_of_le (hn.lt b hb) c1.size⟩
  · exact h.chg.set (.inl (by simp)) x
  · exact h.box.setOther (a := ⟨gl, i, none⟩) (fun e => h.far.1 (by simp [e])) x
end

theorem setJ_same (S : Ms) (k r : Nat) : setJ S k r (S.jk k r) = S := by
  unfold setJ
  cases S
  congr 1
  funext x y
  by_cases h : x = k ∧ y = r
  · rw [if_pos h, h.1, h.2]
  · rw [if_neg h]

set_option maxHeartbeats 4000000 in
set_option maxRecDepth 100000 in
theorem pass_any (B : Nat) (w : World) (b1 b4 b7 b3 b6 b5 p gl cl gr cr k r J : Nat) (m : Mk) (key reg frm to : Int) (on : Bool) (pl re da : Int) (S : Ms) (v : Value) (ms : List Mo)
    (hm : MacM w p gl cl gr cr m S) (hn : NoteM B w b1 b4 b7 b3 b6 b5 p gl gr k S.tk key reg frm to v ms) (hk : k < m.K) (hr : r < 4) (hJ : J = k * 14 + 2 + r * 3)
    (hB : B ≤ w.heap.size) (hms : ms.length ≤ 10000) (hrg : -100000 ≤ frm ∧ frm ≤ 100000 ∧ -100000 ≤ to ∧ to ≤ 100000) (hpl : -100000 ≤ pl ∧ pl ≤ 100000) (hre : -100000 ≤ re ∧ re ≤ 100000) (hda : -100000 ≤ da ∧ da ≤ 100000) :
    Calls Try.prog 90 #[.pointer (some ⟨p, 0, none⟩), .pointer (some ⟨gl, J, none⟩), .agg #[.int .i64 pl, .int .i64 re, .int .i64 da, .bool on], .int .i64 frm, .int .i64 to,
        .func (.func 88) #[] #[.pointer (some ⟨b1, 0, none⟩), .pointer (some ⟨b4, 0, none⟩), .pointer (some ⟨b7, 0, none⟩), .pointer (some ⟨b3, 0, none⟩), .pointer (some ⟨b6, 0, none⟩), .pointer (some ⟨b5, 0, none⟩)]] w
      fun e w' => (∃ x, e = .returned x) ∧ ∃ v', MacM w' p gl cl gr cr m (setJ S k r (passJ S.tk frm to pl re da (S.jk k r))) ∧
        NoteM B w' b1 b4 b7 b3 b6 b5 p gl gr k S.tk key reg frm to v' (ms ++ passN S.tk key reg frm to pl re da (S.jk k r)) ∧
        Chg (gl :: b3 :: v.ownBlock.toList) w w' ∧ (∀ b, v'.ownBlock = some b → v.ownBlock = some b ∨ w.heap.size ≤ b) := by
  obtain ⟨q, hq⟩ : ∃ q, q = w.heap.size := ⟨_, rfl⟩
  have hP : PaS B w (w.alloc (.cells #[.int .i64 pl, .int .i64 re, .int .i64 da, .bool on] 84)) b1 b4 b7 b3 b6 b5 p gl cl gr cr k q m key reg frm to pl re da on S v v ms := by
    have hb := below_new w (.cells #[.int .i64 pl, .int .i64 re, .int .i64 da, .bool on] 84)
    refine ⟨hm.keep hb, hn.keep hb, Chg.of_below hb, fun b hb => ⟨.inl hb, ?_⟩, ?_, ?_, by omega⟩
    · have := (own_lt hn.own b hb).2; omega
    · rw [hq]; exact Blk.new w 84 [_, _, _, _]
    · intro hx
      have := hn.lt q hx
      omega
  have hB1 : B ≤ (w.alloc (.cells #[.int .i64 pl, .int .i64 re, .int .i64 da, .bool on] 84)).heap.size := by simp; omega
  have HP := Lib.hid hP
  have HB := Lib.hid hB
  have HQ := Lib.hid hq
  have HJ := Lib.hid hJ
  clear hP hm hn hJ
  go_enter Try.func90, Try.ntmps90
  have hfr : ∀ (a : Jk) (W : World) (v' : Value) (l : List Mo), PaS B w W b1 b4 b7 b3 b6 b5 p gl cl gr cr k q m key reg frm to pl re da on (setJ S k r a) v v' l → W.cell? ⟨q, 0, none⟩ = some (.int .i64 pl) ∧ W.cell? ⟨q, 1, none⟩ = some (.int .i64 re) ∧ W.cell? ⟨q, 2, none⟩ = some (.int .i64 da) ∧
      W.cell? ⟨gl, J, none⟩ = some (.bool a.ab) ∧ W.cell? ⟨gl, J + 1, none⟩ = some (.bool a.so) ∧ W.cell? ⟨gl, J + 2, none⟩ = some (.int .i64 a.si) ∧ W.cell? ⟨p, 0, none⟩ = some (.int .i64 S.tk) ∧ (∀ i, W.frozen? ⟨gl, i, none⟩ = false) ∧ B ≤ W.heap.size ∧ q ≠ gl ∧ gl ≠ q := by
    intro a W v' l h
    have e1 := h.mac.ab hk hr
    have e2 := h.mac.so hk hr
    have e3 := h.mac.si hk hr
    rw [setJ_at] at e1 e2 e3
    have k1 : k * 14 + (2 + r * 3) = J := by have := HJ.out; omega
    have k2 : k * 14 + (3 + r * 3) = J + 1 := by have := HJ.out; omega
    have k3 : k * 14 + (4 + r * 3) = J + 2 := by have := HJ.out; omega
    rw [k1] at e1; rw [k2] at e2; rw [k3] at e3
    exact ⟨h.box.cell 0, h.box.cell 1, h.box.cell 2, e1, e2, e3, h.mac.b0, h.mac.fl', by have := h.chg.size; omega, fun e => h.far.1 (by simp [e]), fun e => h.far.1 (by simp [e])⟩
  have hset : ∀ (a : Jk) (W : World) (v' : Value) (l : List Mo), PaS B w W b1 b4 b7 b3 b6 b5 p gl cl gr cr k q m key reg frm to pl re da on (setJ S k r a) v v' l →
      (∀ x, PaS B w (W.setCell ⟨gl, J, none⟩ (.bool x)) b1 b4 b7 b3 b6 b5 p gl cl gr cr k q m key reg frm to pl re da on (setJ S k r { a with ab := x }) v v' l) ∧
      (∀ x, PaS B w (W.setCell ⟨gl, J + 1, none⟩ (.bool x)) b1 b4 b7 b3 b6 b5 p gl cl gr cr k q m key reg frm to pl re da on (setJ S k r { a with so := x }) v v' l) ∧
      (∀ x, PaS B w (W.setCell ⟨gl, J + 2, none⟩ (.int .i64 x)) b1 b4 b7 b3 b6 b5 p gl cl gr cr k q m key reg frm to pl re da on (setJ S k r { a with si := x }) v v' l) := by
    intro a W v' l h
    have k1 : k * 14 + (2 + r * 3) = J := by have := HJ.out; omega
    have k2 : k * 14 + (3 + r * 3) = J + 1 := by have := HJ.out; omega
    have k3 : k * 14 + (4 + r * 3) = J + 2 := by have := HJ.out; omega
    refine ⟨fun x => ?_, fun x => ?_, fun x => ?_⟩
    · have := h.mac.setAb hk hr x
      rw [k1, setJ_at, setJ_setJ] at this
      exact h.set (by omega) this rfl
    · have := h.mac.setSo hk hr x
      rw [k2, setJ_at, setJ_setJ] at this
      exact h.set (by omega) this rfl
    · have := h.mac.setSi hk hr x
      rw [k3, setJ_at, setJ_setJ] at this
      exact h.set (by omega) this rfl
  have hcall : ∀ (kind height : Int) (a : Jk) (W : World) (v' : Value) (l : List Mo), PaS B w W b1 b4 b7 b3 b6 b5 p gl cl gr cr k q m key reg frm to pl re da on (setJ S k r a) v v' l → l.length ≤ 10010 → -100000 ≤ height ∧ height ≤ 100000 → B ≤ W.heap.size →
      Calls Try.prog 88 #[.int .i64 kind, .int .i64 height, .pointer (some ⟨b1, 0, none⟩), .pointer (some ⟨b4, 0, none⟩), .pointer (some ⟨b7, 0, none⟩), .pointer (some ⟨b3, 0, none⟩), .pointer (some ⟨b6, 0, none⟩), .pointer (some ⟨b5, 0, none⟩)] W
      fun e w' => (∃ x, e = .returned x) ∧ ∃ v'', PaS B w w' b1 b4 b7 b3 b6 b5 p gl cl gr cr k q m key reg frm to pl re da on (setJ S k r a) v v'' (l ++ [mo S.tk kind key reg frm to height]) := fun kind height a W v' l h hl hh hB' => h.call kind height hB' (by omega) (by omega)
  obtain ⟨a0, ha0⟩ : ∃ a0, a0 = S.jk k r := ⟨_, rfl⟩
  have HP0 : Hid (PaS B w (w.alloc (.cells #[.int .i64 pl, .int .i64 re, .int .i64 da, .bool on] 84)) b1 b4 b7 b3 b6 b5 p gl cl gr cr k q m key reg frm to pl re da on (setJ S k r a0) v v ms) := Lib.hid (by rw [ha0, setJ_same]; exact HP.out)
  rw [← ha0]
  have HA0 := Lib.hid ha0
  have HFR := Lib.hid hfr
  have HSE := Lib.hid hset
  have HCA := Lib.hid hcall
  clear hfr hset hcall ha0 HP hB1 hrg
  go_upto_region 1 with (fail)
  rw [← hq]
  clear hq
  generalize w.alloc (.cells #[.int .i64 pl, .int .i64 re, .int .i64 da, .bool on] 84) = W0 at *
  obtain ⟨q0, q1, q2, z0, z1, z2, zt, zf, hBW, qg, qg'⟩ := HFR.out a0 W0 v ms HP0.out
  obtain ⟨c1, hc1⟩ : ∃ c, c = cP frm to pl a0 := ⟨_, rfl⟩
  have HC1 := Lib.hid hc1
  clear hc1
  go_cut [28] from 12 (fun s ww => s = .bool c1 ∧ ww = W0)
  case first =>
    cases hx1 : decide (frm < pl) with
    | false =>
      have he : c1 = false := by rw [HC1.out]; unfold cP; rw [hx1]; rfl
      have HE := Lib.hid he
      clear he
      go_wp2_with (fail)
      go_meet
      case rel => exact ⟨by first | (rw [HE.out]; done) | (rw [HE.out]; rfl) | (rw [HE.out]; simp), rfl⟩
    | true =>
      cases hx2 : decide (pl ≤ to) with
      | false =>
        have he : c1 = false := by rw [HC1.out]; unfold cP; rw [hx1, hx2]; rfl
        have HE := Lib.hid he
        clear he
        go_wp2_with (fail)
        go_meet
        case rel => exact ⟨by first | (rw [HE.out]; done) | (rw [HE.out]; rfl) | (rw [HE.out]; simp), rfl⟩
      | true =>
        have he : c1 = (!a0.ab) := by rw [HC1.out]; unfold cP; rw [hx1, hx2]; rfl
        have HE := Lib.hid he
        clear he
        go_wp2_with (fail)
        go_meet
        case rel => exact ⟨by first | (rw [HE.out]; done) | (rw [HE.out]; rfl) | (rw [HE.out]; simp), rfl⟩
  case rest =>
  obtain ⟨rfl, rfl⟩ := hcut
  go_upto_if 28 with (fail)
  go_cut [] from 12 (fun ww => ∃ v', PaS B w ww b1 b4 b7 b3 b6 b5 p gl cl gr cr k q m key reg frm to pl re da on (setJ S k r (j1 S.tk frm to pl a0)) v v' (ms ++ n1 S.tk key reg frm to pl a0))
  case first =>
    cases hcv : c1 with
    | true =>
      have ej : j1 S.tk frm to pl a0 = ⟨true, true, S.tk⟩ := by unfold j1; rw [if_pos (by rw [← HC1.out]; exact hcv)]
      have el : n1 S.tk key reg frm to pl a0 = [mo S.tk 1 key reg frm to pl] := by unfold n1; rw [if_pos (by rw [← HC1.out]; exact hcv)]
      have HEJ := Lib.hid ej
      have HEL := Lib.hid el
      clear ej el
      have s1 := (HSE.out a0 wc v ms HP0.out).1 true
      have s2 := (HSE.out _ _ _ _ s1).2.1 true
      have s3 := (HSE.out _ _ _ _ s2).2.2 S.tk
      have hca := HCA.out 1 pl _ _ _ _ s3 (by omega) hpl (HFR.out _ _ _ _ s3).2.2.2.2.2.2.2.2.1
      have HCC := Lib.hid hca
      clear s3 hca
      go_wp2_with (go_at_call 88; refine (HCC.out).mono ?_; rintro e w1 ⟨⟨x, rfl⟩, v1, hp1⟩)
      go_meet
      case rel => exact ⟨v1, by rw [HEJ.out, HEL.out]; exact hp1⟩
    | false =>
      have ej : j1 S.tk frm to pl a0 = a0 := by unfold j1; rw [if_neg (by rw [← HC1.out, hcv]; simp)]
      have el : n1 S.tk key reg frm to pl a0 = [] := by unfold n1; rw [if_neg (by rw [← HC1.out, hcv]; simp)]
      have HEJ := Lib.hid ej
      have HEL := Lib.hid el
      clear ej el
      go_wp2_with (fail)
      go_meet
      case rel => exact ⟨v, by rw [HEJ.out, HEL.out, List.append_nil]; exact HP0.out⟩
  case rest =>
  obtain ⟨v1, hp1⟩ := hcut
  have HP1 := Lib.hid hp1
  clear hp1 q0 q1 q2 z0 z1 z2 zt zf hBW qg qg'
  go_upto_region 4 with (fail)
  obtain ⟨q0, q1, q2, z0, z1, z2, zt, zf, hBW, qg, qg'⟩ := HFR.out (j1 S.tk frm to pl a0) wc v1 (ms ++ n1 S.tk key reg frm to pl a0) HP1.out
  obtain ⟨c2, hc2⟩ : ∃ c, c = cR frm to re (j1 S.tk frm to pl a0) := ⟨_, rfl⟩
  have HC2 := Lib.hid hc2
  clear hc2
  go_cut [56] from 12 (fun s ww => s = .bool c2 ∧ ww = wc)
  case first =>
    cases hx1 : decide (re < frm) with
    | false =>
      have he : c2 = false := by rw [HC2.out]; unfold cR; rw [hx1]; rfl
      have HE := Lib.hid he
      clear he
      go_wp2_with (fail)
      go_meet
      case rel => exact ⟨by first | (rw [HE.out]; done) | (rw [HE.out]; rfl) | (rw [HE.out]; simp), rfl⟩
    | true =>
      cases hx2 : decide (to ≤ re) with
      | false =>
        have he : c2 = false := by rw [HC2.out]; unfold cR; rw [hx1, hx2]; rfl
        have HE := Lib.hid he
        clear he
        go_wp2_with (fail)
        go_meet
        case rel => exact ⟨by first | (rw [HE.out]; done) | (rw [HE.out]; rfl) | (rw [HE.out]; simp), rfl⟩
      | true =>
        have he : c2 = (j1 S.tk frm to pl a0).ab := by rw [HC2.out]; unfold cR; rw [hx1, hx2]; rfl
        have HE := Lib.hid he
        clear he
        go_wp2_with (fail)
        go_meet
        case rel => exact ⟨by first | (rw [HE.out]; done) | (rw [HE.out]; rfl) | (rw [HE.out]; simp), rfl⟩
  case rest =>
  obtain ⟨rfl, rfl⟩ := hcut
  go_upto_if 56 with (fail)
  go_cut [] from 12 (fun ww => ∃ v', PaS B w ww b1 b4 b7 b3 b6 b5 p gl cl gr cr k q m key reg frm to pl re da on (setJ S k r (j2 frm to re (j1 S.tk frm to pl a0))) v v' ((ms ++ n1 S.tk key reg frm to pl a0) ++ n2 S.tk key reg frm to re (j1 S.tk frm to pl a0)))
  case first =>
    cases hcv : c2 with
    | true =>
      have ej : j2 frm to re (j1 S.tk frm to pl a0) = { (j1 S.tk frm to pl a0) with ab := false } := by unfold j2; rw [if_pos (by rw [← HC2.out]; exact hcv)]
      have el : n2 S.tk key reg frm to re (j1 S.tk frm to pl a0) = [mo S.tk 2 key reg frm to re] := by unfold n2; rw [if_pos (by rw [← HC2.out]; exact hcv)]
      have HEJ := Lib.hid ej
      have HEL := Lib.hid el
      clear ej el
      have s3 := (HSE.out (j1 S.tk frm to pl a0) wc v1 (ms ++ n1 S.tk key reg frm to pl a0) HP1.out).1 false
      have hca := HCA.out 2 re _ _ _ _ s3 (by rw [List.length_append]; unfold n1; split <;> simp <;> omega) hre (HFR.out _ _ _ _ s3).2.2.2.2.2.2.2.2.1
      have HCC := Lib.hid hca
      clear s3 hca
      go_wp2_with (go_at_call 88; refine (HCC.out).mono ?_; rintro e w1 ⟨⟨x, rfl⟩, v1, hp1⟩)
      go_meet
      case rel => exact ⟨v1, by rw [HEJ.out, HEL.out]; exact hp1⟩
    | false =>
      have ej : j2 frm to re (j1 S.tk frm to pl a0) = (j1 S.tk frm to pl a0) := by unfold j2; rw [if_neg (by rw [← HC2.out, hcv]; simp)]
      have el : n2 S.tk key reg frm to re (j1 S.tk frm to pl a0) = [] := by unfold n2; rw [if_neg (by rw [← HC2.out, hcv]; simp)]
      have HEJ := Lib.hid ej
      have HEL := Lib.hid el
      clear ej el
      go_wp2_with (fail)
      go_meet
      case rel => exact ⟨v1, by rw [HEJ.out, HEL.out, List.append_nil]; exact HP1.out⟩
  case rest =>
  obtain ⟨v2, hp2⟩ := hcut
  have HP2 := Lib.hid hp2
  clear hp2 q0 q1 q2 z0 z1 z2 zt zf hBW qg qg'
  go_upto_region 7 with (fail)
  obtain ⟨q0, q1, q2, z0, z1, z2, zt, zf, hBW, qg, qg'⟩ := HFR.out (j2 frm to re (j1 S.tk frm to pl a0)) wc v2 ((ms ++ n1 S.tk key reg frm to pl a0) ++ n2 S.tk key reg frm to re (j1 S.tk frm to pl a0)) HP2.out
  obtain ⟨c3, hc3⟩ : ∃ c, c = cD frm to da (j2 frm to re (j1 S.tk frm to pl a0)) := ⟨_, rfl⟩
  have HC3 := Lib.hid hc3
  clear hc3
  go_cut [79] from 12 (fun s ww => s = .bool c3 ∧ ww = wc)
  case first =>
    cases hx1 : decide (da < frm) with
    | false =>
      have he : c3 = false := by rw [HC3.out]; unfold cD; rw [hx1]; rfl
      have HE := Lib.hid he
      clear he
      go_wp2_with (fail)
      go_meet
      case rel => exact ⟨by first | (rw [HE.out]; done) | (rw [HE.out]; rfl) | (rw [HE.out]; simp), rfl⟩
    | true =>
      cases hx2 : decide (to ≤ da) with
      | false =>
        have he : c3 = false := by rw [HC3.out]; unfold cD; rw [hx1, hx2]; rfl
        have HE := Lib.hid he
        clear he
        go_wp2_with (fail)
        go_meet
        case rel => exact ⟨by first | (rw [HE.out]; done) | (rw [HE.out]; rfl) | (rw [HE.out]; simp), rfl⟩
      | true =>
        have he : c3 = (j2 frm to re (j1 S.tk frm to pl a0)).so := by rw [HC3.out]; unfold cD; rw [hx1, hx2]; rfl
        have HE := Lib.hid he
        clear he
        go_wp2_with (fail)
        go_meet
        case rel => exact ⟨by first | (rw [HE.out]; done) | (rw [HE.out]; rfl) | (rw [HE.out]; simp), rfl⟩
  case rest =>
  obtain ⟨rfl, rfl⟩ := hcut
  go_upto_if 79 with (fail)
  cases hcv : c3 with
  | true =>
    have ej : j3 frm to da (j2 frm to re (j1 S.tk frm to pl a0)) = { j2 frm to re (j1 S.tk frm to pl a0) with so := false } := by unfold j3; rw [if_pos (by rw [← HC3.out]; exact hcv)]
    have el : n3 S.tk key reg frm to da (j2 frm to re (j1 S.tk frm to pl a0)) = [mo S.tk 3 key reg frm to da] := by unfold n3; rw [if_pos (by rw [← HC3.out]; exact hcv)]
    have HEJ := Lib.hid ej
    have HEL := Lib.hid el
    clear ej el
    have s3 := (HSE.out (j2 frm to re (j1 S.tk frm to pl a0)) wc v2 ((ms ++ n1 S.tk key reg frm to pl a0) ++ n2 S.tk key reg frm to re (j1 S.tk frm to pl a0)) HP2.out).2.1 false
    have hca := HCA.out 3 da _ _ _ _ s3 (by simp only [List.length_append]; unfold n1 n2; split <;> split <;> simp <;> omega) hda (HFR.out _ _ _ _ s3).2.2.2.2.2.2.2.2.1
    have HCC := Lib.hid hca
    clear s3 hca
    go_wp2_with (go_at_call 88; refine (HCC.out).mono ?_; rintro e w1 ⟨⟨x, rfl⟩, v1, hp1⟩)
    refine bodyPost_end (results_none rfl _ _ _) rfl ?_
    refine ⟨⟨_, rfl⟩, v1, ?_, ?_, hp1.chg, fun b hb => (hp1.own b hb).1⟩
    · have h5 := hp1.mac
      rw [← HEJ.out] at h5
      exact h5
    · have h6 := hp1.note
      rw [← HEL.out] at h6
      unfold passN
      rw [← List.append_assoc, ← List.append_assoc]
      exact h6
  | false =>
    have ej : j3 frm to da (j2 frm to re (j1 S.tk frm to pl a0)) = j2 frm to re (j1 S.tk frm to pl a0) := by unfold j3; rw [if_neg (by rw [← HC3.out, hcv]; simp)]
    have el : n3 S.tk key reg frm to da (j2 frm to re (j1 S.tk frm to pl a0)) = [] := by unfold n3; rw [if_neg (by rw [← HC3.out, hcv]; simp)]
    have HEJ := Lib.hid ej
    have HEL := Lib.hid el
    clear ej el
    go_wp2_with (fail)
    refine bodyPost_end (results_none rfl _ _ _) rfl ?_
    have hp1 := HP2.out
    refine ⟨⟨_, rfl⟩, v2, ?_, ?_, hp1.chg, fun b hb => (hp1.own b hb).1⟩
    · have h5 := hp1.mac
      rw [← HEJ.out] at h5
      exact h5
    · have h6 := hp1.note
      unfold passN
      rw [HEL.out, List.append_nil, ← List.append_assoc]
      exact h6
end Go.Proofs.Ytpaemlkikkcjiaa
