/- Table: what every quill costs in every jack. -/
import Derived.Test.YtncmfjncdhhjoaaWPc1
import Derived.Test.YtncmfjncdhhjoaaWNew
import Derived.Test.YtncmfjncdhhjoaaWTab
import Derived.Deep.RegionHeld3
import Derived.Deep.Cut
namespace Go.Proofs.Ytncmfjncdhhjoaa
open Go.RowKit

theorem makeRowM (n : Nat) (hn : n ≤ 1000) (w : World) : (Instr.makeSlice 23 (.int .i64 (n : Int)) (.int .i64 (n : Int))).run Try.prog w = .ok (.slice (some ⟨w.heap.size, 0, none⟩) n n) (w.alloc (.cells (Array.replicate n (.int .i64 0)) 3)) :=
  run_make_same (P := Try.prog) 23 3 (.int .i64 0) (.int .i64 0) 1 8 Try.underlying23 infoI rfl (by decide) n n (by omega) (by omega) (by omega) w
theorem makeRowsM (n : Nat) (hn : n ≤ 1000) (w : World) : (Instr.makeSlice 22 (.int .i64 (n : Int)) (.int .i64 (n : Int))).run Try.prog w = .ok (.slice (some ⟨w.heap.size, 0, none⟩) n n) (w.alloc (.cells (Array.replicate n (.slice none 0 0)) 23)) :=
  run_make_same (P := Try.prog) 22 23 (.slice none 0 0) (.slice none 0 0) 1 24 Try.underlying22 info23 rfl (by decide) n n (by omega) (by omega) (by omega) w

/-- The rows of a table that are there: i of W. -/
def spine (W H i : Nat) (gs : Nat → Nat) : List Value := (List.range W).map fun r => if r < i then .slice (some ⟨gs r, 0, none⟩) H H else .slice none 0 0
theorem spine_len (W H i : Nat) (gs : Nat → Nat) : (spine W H i gs).length = W := by simp [spine]
theorem spine_at {W H i r : Nat} {gs : Nat → Nat} (hr : r < W) : (spine W H i gs)[r]? = some (if r < i then .slice (some ⟨gs r, 0, none⟩) H H else .slice none 0 0) := by simp [spine, hr]
theorem spine_start (W H : Nat) (gs : Nat → Nat) : spine W H 0 gs = List.replicate W (.slice none 0 0) := by
  apply List.ext_getElem?
  intro r
  by_cases h : r < W
  · rw [spine_at h, if_neg (by omega), List.getElem?_replicate, if_pos h]
  · rw [List.getElem?_eq_none (by rw [spine_len]; omega), List.getElem?_eq_none (by simp; omega)]
theorem spine_set {W H i g : Nat} {gs : Nat → Nat} (hi : i < W) : (spine W H i gs).set i (.slice (some ⟨g, 0, none⟩) H H) = spine W H (i + 1) (upd gs i g) := by
  apply List.ext_getElem?
  intro r
  rw [List.getElem?_set]
  by_cases hr : r < W
  · by_cases e : i = r
    · subst e
      rw [if_pos rfl, if_pos (by rw [spine_len]; omega), spine_at hr, if_pos (by omega), upd_at]
    · rw [if_neg e, spine_at hr, spine_at hr, upd_ne (fun h => e h.symm)]
      by_cases h : r < i
      · rw [if_pos h, if_pos (by omega)]
      · rw [if_neg h, if_neg (by omega)]
  · rw [List.getElem?_eq_none (l := spine W H (i + 1) (upd gs i g)) (by rw [spine_len]; omega)]
    split
    · rw [if_neg (by rw [spine_len]; omega)]
    · rw [List.getElem?_eq_none (by rw [spine_len]; omega)]
/-- A table whose first i rows are there: row r reads as C r. -/
structure TbM (B : Nat) (w : World) (g W H i : Nat) (gs : Nat → Nat) (C : Nat → Nat → Int) : Prop where
  sp : Blk 23 w g (spine W H i gs)
  row : ∀ r, r < i → Blk 3 w (gs r) (fl (C r) H)
  far : B ≤ g ∧ ∀ r, r < i → g < gs r
section
variable {B : Nat} {w w' : World} {g W H i : Nat} {gs : Nat → Nat} {C : Nat → Nat → Int}
theorem TbM.keep (h : TbM B w g W H i gs C) (hb : Below w.heap.size w w') : TbM B w' g W H i gs C := ⟨h.sp.keep hb, fun r hr => (h.row r hr).keep hb, h.far⟩
theorem TbM.drewN (h : TbM B w g W H i gs C) (z : Nat) : TbM B (w.drewN z) g W H i gs C := ⟨h.sp.drewN z, fun r hr => (h.row r hr).drewN z, h.far⟩
theorem TbM.rowCell (h : TbM B w g W H i gs C) {r : Nat} (hr : r < i) (hi : i ≤ W) : w.cell? ⟨g, r, none⟩ = some (.slice (some ⟨gs r, 0, none⟩) H H) := by
  rw [h.sp.cell, spine_at (by omega), if_pos hr]
theorem TbM.cell (h : TbM B w g W H i gs C) {r j : Nat} (hr : r < i) (hj : j < H) : w.cell? ⟨gs r, j, none⟩ = some (.int .i64 (C r j)) := by
  rw [(h.row r hr).cell, fl_at hj]
end
/-- The table while row m is filled: n of its values are there. -/
structure TbI (B : Nat) (w w' : World) (W H m n q : Nat) (gs : Nat → Nat) (C : Nat → Nat → Int) : Prop where
  sp : Blk 23 w' B (spine W H (m + 1) (upd gs m q))
  row : ∀ r, r < m → Blk 3 w' (gs r) (fl (C r) H)
  cur : Blk 3 w' q (fl (fun y => if y < n then C m y else 0) H)
  far : B < q ∧ ∀ r, r < m → B < gs r ∧ gs r < q
  bel : Below B w w'
theorem TbI.next {B : Nat} {w w' : World} {W H m n q : Nat} {gs : Nat → Nat} {C : Nat → Nat → Int} (h : TbI B w w' W H m n q gs C) : TbI B w (w'.setCell ⟨q, n, none⟩ (.int .i64 (C m n))) W H m (n + 1) q gs C := by
  refine ⟨h.sp.setOther (a := ⟨q, n, none⟩) (Nat.ne_of_lt h.far.1) _, fun r hr => (h.row r hr).setOther (a := ⟨q, n, none⟩) (Nat.ne_of_lt (h.far.2 r hr).2) _, ?_, h.far, below_set h.bel (Nat.le_of_lt h.far.1) _⟩
  have := h.cur.setI n (C m n)
  have e : upd (fun y => if y < n then C m y else 0) n (C m n) = fun y => if y < n + 1 then C m y else 0 := by
    funext y
    by_cases e : y = n
    · subst e; rw [upd_at, if_pos (by omega)]
    · rw [upd_ne e]
      by_cases h : y < n
      · rw [if_pos h, if_pos (by omega)]
      · rw [if_neg h, if_neg (by omega)]
  rwa [e] at this
theorem TbI.drewN {B : Nat} {w w' : World} {W H m n q : Nat} {gs : Nat → Nat} {C : Nat → Nat → Int} (h : TbI B w w' W H m n q gs C) (z : Nat) : TbI B w (w'.drewN z) W H m n q gs C := ⟨h.sp.drewN z, fun r hr => (h.row r hr).drewN z, h.cur.drewN z, h.far, below_drewN h.bel z⟩
theorem TbI.drew {B : Nat} {w w' : World} {W H m n q : Nat} {gs : Nat → Nat} {C : Nat → Nat → Int} (h : TbI B w w' W H m n q gs C) : TbI B w w'.drew W H m n q gs C := h.drewN 1
theorem TbI.done {B : Nat} {w w' : World} {W H m q : Nat} {gs : Nat → Nat} {C : Nat → Nat → Int} (h : TbI B w w' W H m H q gs C) : TbM B w' B W H (m + 1) (upd gs m q) C := by
  refine ⟨h.sp, fun r hr => ?_, Nat.le_refl _, fun r hr => ?_⟩
  · by_cases e : r = m
    · subst e
      rw [upd_at, fl_congr (f := C r) (g := fun y => if y < H then C r y else 0) (fun y hy => by rw [if_pos hy])]
      exact h.cur
    · rw [upd_ne e]; exact h.row r (by omega)
  · by_cases e : r = m
    · subst e; rw [upd_at]; exact h.far.1
    · rw [upd_ne e]; exact (h.far.2 r (by omega)).1
theorem TbI.start {B : Nat} {w wr : World} {W H m : Nat} {gs : Nat → Nat} {C : Nat → Nat → Int} (h : TbM B wr B W H m gs C) (hm : m < W) (hb : Below B w wr) :
    TbI B w ((wr.setCell ⟨B, m, none⟩ (.slice (some ⟨wr.heap.size, 0, none⟩) H H)).alloc (.cells (Array.replicate H (.int .i64 0)) 3)) W H m 0 wr.heap.size gs C := by
  have h1 := h.sp.set m (.slice (some ⟨wr.heap.size, 0, none⟩) H H)
  rw [spine_set hm] at h1
  have hq : Blk 3 ((wr.setCell ⟨B, m, none⟩ (.slice (some ⟨wr.heap.size, 0, none⟩) H H)).alloc (.cells (Array.replicate H (.int .i64 0)) 3)) wr.heap.size (List.replicate H (.int .i64 0)) := by
    have := Blk.new (wr.setCell ⟨B, m, none⟩ (.slice (some ⟨wr.heap.size, 0, none⟩) H H)) 3 (List.replicate H (.int .i64 0))
    simpa using this
  have hlt := h.sp.lt
  refine ⟨h1.alloc _, fun r hr => ((h.row r hr).setOther (a := ⟨B, m, none⟩) (Nat.ne_of_gt (h.far.2 r hr)) _).alloc _, ?_, ⟨hlt, fun r hr => ⟨h.far.2 r hr, (h.row r hr).lt⟩⟩, ?_⟩
  · have e : fl (fun y => if y < 0 then C m y else 0) H = List.replicate H (.int .i64 0) := by
      rw [← fl_const]
      exact fl_congr (fun y _ => by rw [if_neg (by omega)])
    rw [e]; exact hq
  · exact (below_set hb (Nat.le_refl B) _).alloc (by simpa using Nat.le_of_lt hlt) _

theorem fl_list {l : List Int} {m : Nat} (h : l.length = m) : fl (fun k => l.getD k 0) m = is l := by
  subst h
  apply List.ext_getElem?
  intro i
  by_cases hi : i < l.length
  · rw [fl_at hi, is_cell hi]
  · rw [List.getElem?_eq_none (by rw [fl_len]; omega), List.getElem?_eq_none (by rw [is_len]; omega)]
theorem TbM.tab {B : Nat} {w : World} {g n m : Nat} {gs : Nat → Nat} {ls : List (List Int)} (h : TbM B w g n m n gs (cst ls)) (G : Good n m ls) : Tab w.heap.size w (some ⟨g, 0, none⟩) ls := by
  refine ⟨spine n m n gs, by rw [spine_len, G.rows], VB.of_blk h.sp h.sp.lt, fun i l hl => ?_⟩
  have hi : i < n := by have := (List.getElem?_eq_some_iff.1 hl).1; rw [G.rows] at this; exact this
  have hm := G.cols i l hl
  refine ⟨some ⟨gs i, 0, none⟩, m, by rw [spine_at hi, if_pos hi, hm], ?_⟩
  have e : fl (cst ls i) m = is l := by
    rw [← fl_list hm]
    exact fl_congr fun k _ => cst_of hl
  have := h.row i hi
  rw [e] at this
  exact VB.of_blk this this.lt
def MTabPost (w : World) (js qs : List J2) (bend trim : Int) (n m : Nat) (e : Ending) (w' : World) : Prop :=
  Below w.heap.size w w' ∧ ((okS js qs bend trim = false ∧ e = .returned (.tuple #[.slice none 0 0, .int .i64 1])) ∨
    (okS js qs bend trim = true ∧ ∃ g gs, e = .returned (.tuple #[.slice (some ⟨g, 0, none⟩) n n, .int .i64 0]) ∧ TbM w.heap.size w' g n m n gs (cst (priL js qs bend trim))))

set_option maxHeartbeats 4000000 in
set_option maxRecDepth 100000 in
theorem mtable_bad (A A' : Option Addr) (c c' n m : Nat) (js qs : List J2) (bend trim : Int) (w : World) (hA : JAt w A js) (hA' : JAt w A' qs) (hn : n = js.length) (hm : m = qs.length) (hok : okS js qs bend trim = false) :
    Calls Try.prog 43 #[.slice A n c, .slice A' m c', .int .i64 bend, .int .i64 trim] w (MTabPost w js qs bend trim n m) := by
  have hres : ∀ w1, Below w.heap.size w w1 → MTabPost w js qs bend trim n m (.returned (.tuple #[.slice none 0 0, .int .i64 1])) w1 := fun w1 h => ⟨h, .inl ⟨hok, rfl⟩⟩
  have HR := Lib.hid hres
  have hw1 := fun W => within_any (n : Int) 1 64 W
  have hw2 := fun W => within_any (m : Int) (n : Int) 64 W
  have hw3 := fun W => within_any bend 0 100 W
  have hw4 := fun W => within_any trim 0 100 W
  unfold okS at hok
  rw [← hn, ← hm] at hok
  clear hres
  cases b1 : inB (n : Int) 1 64 with
  | false =>
    rw [b1] at hw1
    have HW1 := Lib.hid hw1
    clear hw1 hw2 hw3 hw4 hok hA hA' hn hm b1
    go_enter Try.func43, Try.ntmps43
    go_wp2_with (fail)
    refine (HW1.out _).mono ?_
    rintro e w1 ⟨rfl, rfl⟩
    go_wp2_with (fail)
    go_ret2
    exact HR.out _ (Below.refl _ _)
  | true =>
    rw [b1] at hw1
    cases b2 : inB (m : Int) (n : Int) 64 with
    | false =>
      rw [b2] at hw2
      have HW1 := Lib.hid hw1
      have HW2 := Lib.hid hw2
      clear hw1 hw2 hw3 hw4 hok hA hA' hn hm b1 b2
      go_enter Try.func43, Try.ntmps43
      go_wp2_with (fail)
      refine (HW1.out _).mono ?_
      rintro e w1 ⟨rfl, rfl⟩
      go_wp2_with (fail)
      refine (HW2.out _).mono ?_
      rintro e w1 ⟨rfl, rfl⟩
      go_wp2_with (fail)
      go_ret2
      exact HR.out _ (Below.refl _ _)
    | true =>
      rw [b2] at hw2
      cases b3 : inB bend 0 100 with
      | false =>
        rw [b3] at hw3
        have HW1 := Lib.hid hw1
        have HW2 := Lib.hid hw2
        have HW3 := Lib.hid hw3
        clear hw1 hw2 hw3 hw4 hok hA hA' hn hm b1 b2 b3
        go_enter Try.func43, Try.ntmps43
        go_wp2_with (fail)
        refine (HW1.out _).mono ?_
        rintro e w1 ⟨rfl, rfl⟩
        go_wp2_with (fail)
        refine (HW2.out _).mono ?_
        rintro e w1 ⟨rfl, rfl⟩
        go_wp2_with (fail)
        refine (HW3.out _).mono ?_
        rintro e w1 ⟨rfl, rfl⟩
        go_wp2_with (fail)
        go_ret2
        exact HR.out _ (Below.refl _ _)
      | true =>
        rw [b3] at hw3
        cases b4 : inB trim 0 100 with
        | false =>
          rw [b4] at hw4
          have HW1 := Lib.hid hw1
          have HW2 := Lib.hid hw2
          have HW3 := Lib.hid hw3
          have HW4 := Lib.hid hw4
          clear hw1 hw2 hw3 hw4 hok hA hA' hn hm b1 b2 b3 b4
          go_enter Try.func43, Try.ntmps43
          go_wp2_with (fail)
          refine (HW1.out _).mono ?_
          rintro e w1 ⟨rfl, rfl⟩
          go_wp2_with (fail)
          refine (HW2.out _).mono ?_
          rintro e w1 ⟨rfl, rfl⟩
          go_wp2_with (fail)
          refine (HW3.out _).mono ?_
          rintro e w1 ⟨rfl, rfl⟩
          go_wp2_with (fail)
          refine (HW4.out _).mono ?_
          rintro e w1 ⟨rfl, rfl⟩
          go_wp2_with (fail)
          go_ret2
          exact HR.out _ (Below.refl _ _)
        | true =>
          rw [b4] at hw4
          have t1 := inB_t b1
          have t2 := inB_t b2
          have hsz := haveSizes_any A A' c c' n m js qs w hA hA' hn hm (by omega) (by omega)
          have hoff : (js.all okJ && qs.all okJ) = false := by rw [b1, b2, b3, b4] at hok; simpa using hok
          rw [hoff] at hsz
          have HSZ := Lib.hid hsz
          have HW1 := Lib.hid hw1
          have HW2 := Lib.hid hw2
          have HW3 := Lib.hid hw3
          have HW4 := Lib.hid hw4
          clear hw1 hw2 hw3 hw4 hok hA hA' hn hm b1 b2 b3 b4 t1 t2 hoff hsz
          go_enter Try.func43, Try.ntmps43
          go_wp2_with (fail)
          refine (HW1.out _).mono ?_
          rintro e w1 ⟨rfl, rfl⟩
          go_wp2_with (fail)
          refine (HW2.out _).mono ?_
          rintro e w1 ⟨rfl, rfl⟩
          go_wp2_with (fail)
          refine (HW3.out _).mono ?_
          rintro e w1 ⟨rfl, rfl⟩
          go_wp2_with (fail)
          refine (HW4.out _).mono ?_
          rintro e w1 ⟨rfl, rfl⟩
          go_wp2_with (fail)
          refine (HSZ.out).mono ?_
          rintro e w1 ⟨rfl, hl1⟩
          go_wp2_with (fail)
          go_ret2
          exact HR.out _ hl1

set_option maxHeartbeats 8000000 in
set_option maxRecDepth 100000 in
theorem mtable_good (A A' : Option Addr) (c c' n m : Nat) (js qs : List J2) (bend trim : Int) (w : World) (hA : JAt w A js) (hA' : JAt w A' qs) (hn : n = js.length) (hm : m = qs.length) (hok : okS js qs bend trim = true) :
    Calls Try.prog 43 #[.slice A n c, .slice A' m c', .int .i64 bend, .int .i64 trim] w (MTabPost w js qs bend trim n m) := by
  obtain ⟨⟨d1, d2, d3⟩, hb, ht, hj, hq⟩ := okS_t hok
  have hsz := haveSizes_any A A' c c' n m js qs w hA hA' hn hm (by omega) (by omega)
  rw [List.all_eq_true.2 hj, List.all_eq_true.2 hq] at hsz
  have hw1 := fun W => within_any (n : Int) 1 64 W
  have hw2 := fun W => within_any (m : Int) (n : Int) 64 W
  have hw3 := fun W => within_any bend 0 100 W
  have hw4 := fun W => within_any trim 0 100 W
  rw [inB_of (by omega)] at hw1 hw2
  rw [inB_of hb] at hw3
  rw [inB_of ht] at hw4
  have hkp := fun W (h : Below w.heap.size w W) => (⟨Vals.keep hA h, Vals.keep hA' h⟩ : JAt W A js ∧ JAt W A' qs)
  have HKP := Lib.hid hkp
  have HN := Lib.hid hn
  have HM := Lib.hid hm
  have HOK := Lib.hid hok
  have HSZ := Lib.hid hsz
  have HW1 := Lib.hid hw1
  have HW2 := Lib.hid hw2
  have HW3 := Lib.hid hw3
  have HW4 := Lib.hid hw4
  have HJ := Lib.hid hj
  have HQ := Lib.hid hq
  have hn64 : n ≤ 64 := by omega
  have hm64 : m ≤ 64 := by omega
  have HMR := makeRowM m (by omega)
  have HMS := makeRowsM n (by omega)
  clear hkp hA hA' hn hm hok hsz hw1 hw2 hw3 hw4 hj hq d1 d2 d3
  go_enter Try.func43, Try.ntmps43
  go_wp2_with (fail)
  refine (HW1.out _).mono ?_
  rintro e w1 ⟨rfl, rfl⟩
  go_wp2_with (fail)
  refine (HW2.out _).mono ?_
  rintro e w1 ⟨rfl, rfl⟩
  go_wp2_with (fail)
  refine (HW3.out _).mono ?_
  rintro e w1 ⟨rfl, rfl⟩
  go_wp2_with (fail)
  refine (HW4.out _).mono ?_
  rintro e w1 ⟨rfl, rfl⟩
  go_wp2_with (fail)
  refine (HSZ.out).mono ?_
  rintro e w2 ⟨rfl, hl2⟩
  have hbn := below_new w2 (.cells (Array.replicate n (.slice none 0 0)) 23)
  have hsp : Blk 23 (w2.alloc (.cells (Array.replicate n (.slice none 0 0)) 23)) w2.heap.size (spine n m 0 (fun _ => 0)) := by
    have := Blk.new w2 23 (List.replicate n (.slice none 0 0))
    rw [spine_start]
    simpa using this
  have HT0 : Hid (TbM w2.heap.size (w2.alloc (.cells (Array.replicate n (.slice none 0 0)) 23)) w2.heap.size n m 0 (fun _ => 0) (cst (priL js qs bend trim))) := Lib.hid ⟨hsp, fun r hr => by omega, Nat.le_refl _, fun r hr => by omega⟩
  have HBW := Lib.hid hl2
  have HBN := Lib.hid hbn
  have hwB : w.heap.size ≤ w2.heap.size := hl2.size
  clear hl2 hbn hsp HSZ HW1 HW2 HW3 HW4
  go_upto_region 4 with (fail)
  obtain ⟨B, hB⟩ : ∃ B, B = w2.heap.size := ⟨_, rfl⟩
  rw [← hB] at HT0 HBN hwB ⊢
  clear hB
  generalize w2.alloc (.cells (Array.replicate n (.slice none 0 0)) 23) = W3 at *
  go_wp2_with (fail)
  go_loopw [48, 11, 12, 13, 14] (fun t _ _ _ _ wr => ∃ (i : Nat) (gs : Nat → Nat), i ≤ n ∧ t = .int .i64 (i : Int) ∧ Hid (TbM B wr B n m i gs (cst (priL js qs bend trim))) ∧ Below B w2 wr) (fun t _ _ _ _ _ => n - (intOf t).toNat)
  case atStart => exact ⟨0, _, Nat.zero_le _, rfl, HT0, HBN.out⟩
  case round =>
    clear HT0 HBN
    obtain ⟨i, gs, hin, rfl, HT, hbel⟩ := hrel
    have hbw : Below w.heap.size w wr := HBW.out.trans (hbel.mono hwB)
    by_cases hlt : i < n
    · have hlt2 : (i : Int) < (n : Int) := by omega
      obtain ⟨g, off, x, rfl, hg, hx, hc0, hc1⟩ := JAt.at_ (HKP.out wr hbw).1 (i := i) (by have := HN.out; omega)
      have hokx := HJ.out x (List.mem_of_getElem? hx)
      obtain ⟨ja, jb⟩ := x
      simp only at hc0 hc1
      have HX := Lib.hid hx
      have hbox : Blk 68 (wr.alloc (.cells #[.int .i64 ja, .int .i64 jb] 68)) wr.heap.size [.int .i64 ja, .int .i64 jb] := Blk.new wr 68 _
      have hlB : B < wr.heap.size := HT.out.sp.lt
      have HT1 := Lib.hid (HT.out.keep (below_new wr (.cells #[.int .i64 ja, .int .i64 jb] 68)))
      have hbel1 := hbel.alloc (Nat.le_of_lt hlB) (.cells #[.int .i64 ja, .int .i64 jb] 68)
      have HBX := Lib.hid hbox
      have HOX := Lib.hid hokx
      clear hx hokx hbox hbel HT hbw
      go_upto_region 7 with (fail)
      obtain ⟨jq, hjq⟩ : ∃ q, q = wr.heap.size := ⟨_, rfl⟩
      rw [← hjq] at HBX hlB ⊢
      clear hjq hc0 hc1
      generalize wr.alloc (.cells #[.int .i64 ja, .int .i64 jb] 68) = W5 at *
      have s0 : W5.cell? ⟨B, i, none⟩ = some (.slice none 0 0) := by rw [HT1.out.sp.cell, spine_at hlt, if_neg (by omega)]
      have sf := HT1.out.sp.frozen
      have lB : B < W5.heap.size := HT1.out.sp.lt
      have nB : ¬ B = W5.heap.size := Nat.ne_of_lt lB
      have HI0 := Lib.hid (TbI.start HT1.out hlt hbel1)
      have HBX1 : Hid (Blk 68 ((W5.setCell ⟨B, i, none⟩ (.slice (some ⟨W5.heap.size, 0, none⟩) m m)).alloc (.cells (Array.replicate m (.int .i64 0)) 3)) jq [.int .i64 ja, .int .i64 jb]) := Lib.hid ((HBX.out.setOther (a := ⟨B, i, none⟩) (Nat.ne_of_gt hlB) _).alloc _)
      have hjl : jq < W5.heap.size := HBX.out.lt
      clear hbel1 HT1 HBX
      go_upto_region 8 with (fail)
      obtain ⟨q, hq⟩ : ∃ q, q = W5.heap.size := ⟨_, rfl⟩
      rw [← hq] at HI0 HBX1 hjl ⊢
      clear hq s0 sf lB nB
      generalize (W5.setCell ⟨B, i, none⟩ (.slice (some ⟨q, 0, none⟩) m m)).alloc (.cells (Array.replicate m (.int .i64 0)) 3) = W4 at *
      go_wp2_with (fail)
      go_loopw [61, 13, 14] (fun t _ _ wr => ∃ k : Nat, k ≤ m ∧ t = .int .i64 (k : Int) ∧ Hid (TbI B w2 wr n m i k q gs (cst (priL js qs bend trim))) ∧ Hid (Blk 68 wr jq [.int .i64 ja, .int .i64 jb])) (fun t _ _ _ => m - (intOf t).toNat)
      case atStart => exact ⟨0, Nat.zero_le _, rfl, HI0, HBX1⟩
      case round =>
        clear HI0 HBX1
        obtain ⟨k, hk, rfl, HI, HBX⟩ := hrel
        by_cases hlt3 : k < m
        · have hlt4 : (k : Int) < (m : Int) := by omega
          have hbw : Below w.heap.size w wr := HBW.out.trans (HI.out.bel.mono hwB)
          obtain ⟨g2, off2, y, rfl, hg2, hy, hc2, hc3⟩ := JAt.at_ (HKP.out wr hbw).2 (i := k) (by have := HM.out; omega)
          have hoky := HQ.out y (List.mem_of_getElem? hy)
          obtain ⟨qa, qb⟩ := y
          simp only at hc2 hc3
          have hval : priF bend trim ⟨ja, jb⟩ ⟨qa, qb⟩ = cst (priL js qs bend trim) i k := (pri_at HX.out hy).symm
          have hpr := fun W => price_any ja jb qa qb bend trim hb ht HOX.out hoky W
          have hqbx : Blk 66 (wr.alloc (.cells #[.int .i64 qa, .int .i64 qb] 66)) wr.heap.size [.int .i64 qa, .int .i64 qb] := Blk.new wr 66 _
          have hq0 : q < wr.heap.size := HI.out.cur.lt
          have hI1 : TbI B w2 (wr.alloc (.cells #[.int .i64 qa, .int .i64 qb] 66)) n m i k q gs (cst (priL js qs bend trim)) := by
            have h := HI.out
            exact ⟨h.sp.alloc _, fun r hr => (h.row r hr).alloc _, h.cur.alloc _, h.far, h.bel.alloc (Nat.le_of_lt h.sp.lt) _⟩
          have hjx := HBX.out.alloc (.cells #[.int .i64 qa, .int .i64 qb] 66)
          rw [hval] at hpr
          have HPR := Lib.hid hpr
          have HI1 := Lib.hid hI1
          have HJX := Lib.hid hjx
          have HQX := Lib.hid hqbx
          clear hy hoky hval hpr hI1 hjx hqbx HI HBX hbw
          go_upto_region 11 with (fail)
          obtain ⟨qx, hqx⟩ : ∃ q, q = wr.heap.size := ⟨_, rfl⟩
          rw [← hqx] at HQX hq0 ⊢
          clear hqx hc2 hc3
          generalize wr.alloc (.cells #[.int .i64 qa, .int .i64 qb] 66) = V at *
          obtain ⟨z, hz⟩ : ∃ z, z = cst (priL js qs bend trim) i k := ⟨_, rfl⟩
          rw [← hz] at HPR
          have HZ := Lib.hid hz
          have hrow : ∀ W, Below V.heap.size V W → TbI B w2 W n m i k q gs (cst (priL js qs bend trim)) ∧ Blk 68 W jq [.int .i64 ja, .int .i64 jb] ∧ Blk 66 W qx [.int .i64 qa, .int .i64 qb] := fun W h => by
            have h1 := HI1.out
            exact ⟨⟨h1.sp.keep h, fun r hr => (h1.row r hr).keep h, h1.cur.keep h, h1.far, h1.bel.trans (h.mono (Nat.le_of_lt h1.sp.lt))⟩, HJX.out.keep h, HQX.out.keep h⟩
          have hcells : ∀ W, Below V.heap.size V W → W.cell? ⟨B, i, none⟩ = some (.slice (some ⟨q, 0, none⟩) m m) ∧ W.cell? ⟨jq, 0, none⟩ = some (.int .i64 ja) ∧ W.cell? ⟨jq, 1, none⟩ = some (.int .i64 jb) ∧ W.cell? ⟨qx, 0, none⟩ = some (.int .i64 qa) ∧ W.cell? ⟨qx, 1, none⟩ = some (.int .i64 qb) := fun W h => by
            obtain ⟨h1, h2, h3⟩ := hrow W h
            exact ⟨by rw [h1.sp.cell, spine_at hlt, if_pos (by omega), upd_at], h2.cell 0, h2.cell 1, h3.cell 0, h3.cell 1⟩
          have hBq : B < q := HI1.out.far.1
          have HROW := Lib.hid hrow
          have HCE := Lib.hid hcells
          obtain ⟨x0, x1, x2, x3, x4⟩ := hcells V (Below.refl _ _)
          have hwd : Below V.heap.size V V.drew := (Below.refl _ _).drew
          have n1 : B ≠ q := Nat.ne_of_lt hBq
          have n2 : jq ≠ q := by omega
          have n3 : qx ≠ q := by omega
          clear hrow hcells HI1 HJX HQX hz
          go_region_held3 (fun w' => w'.cell? ⟨B, i, none⟩ = some (.slice (some ⟨q, 0, none⟩) m m) ∧ w'.cell? ⟨jq, 0, none⟩ = some (.int .i64 ja) ∧ w'.cell? ⟨jq, 1, none⟩ = some (.int .i64 jb) ∧ w'.cell? ⟨qx, 0, none⟩ = some (.int .i64 qa) ∧ w'.cell? ⟨qx, 1, none⟩ = some (.int .i64 qb))
            (first | exact ⟨x0, x1, x2, x3, x4⟩ | exact ⟨j0, j1, j2, j3, j4⟩ | exact hst | go_keep)
            ((go_at_call 67; (with_reducible refine (HPR.out _).mono ?_); rintro e w7 ⟨rfl, hl7⟩
              have hl7' := hwd.trans hl7
              obtain ⟨j0, j1, j2, j3, j4⟩ := HCE.out w7 hl7'
              obtain ⟨hI7, hJ7, hQ7⟩ := HROW.out w7 hl7'
              have c0 : w7.cell? ⟨q, k, none⟩ = some (.int .i64 0) := by rw [hI7.cur.cell, fl_at hlt3, if_neg (by omega)]
              have cf := hI7.cur.frozen
              have hst : (w7.setCell ⟨q, k, none⟩ (.int .i64 z)).cell? ⟨B, i, none⟩ = some (.slice (some ⟨q, 0, none⟩) m m) ∧ (w7.setCell ⟨q, k, none⟩ (.int .i64 z)).cell? ⟨jq, 0, none⟩ = some (.int .i64 ja) ∧ (w7.setCell ⟨q, k, none⟩ (.int .i64 z)).cell? ⟨jq, 1, none⟩ = some (.int .i64 jb) ∧ (w7.setCell ⟨q, k, none⟩ (.int .i64 z)).cell? ⟨qx, 0, none⟩ = some (.int .i64 qa) ∧ (w7.setCell ⟨q, k, none⟩ (.int .i64 z)).cell? ⟨qx, 1, none⟩ = some (.int .i64 qb) := by
                have a1 := hJ7.setOther (a := ⟨q, k, none⟩) n2 (.int .i64 z)
                have a2 := hQ7.setOther (a := ⟨q, k, none⟩) n3 (.int .i64 z)
                have a3 := hI7.sp.setOther (a := ⟨q, k, none⟩) n1 (.int .i64 z)
                exact ⟨(by rw [a3.cell, spine_at hlt, if_pos (by omega), upd_at]), a1.cell 0, a1.cell 1, a2.cell 0, a2.cell 1⟩
              have HN7 : Hid (TbI B w2 (w7.setCell ⟨q, k, none⟩ (.int .i64 z)) n m i (k + 1) q gs (cst (priL js qs bend trim))) := Lib.hid (by rw [HZ.out]; exact hI7.next)
              have HJ7' : Hid (Blk 68 (w7.setCell ⟨q, k, none⟩ (.int .i64 z)) jq [.int .i64 ja, .int .i64 jb]) := Lib.hid (hJ7.setOther (a := ⟨q, k, none⟩) n2 _)
              clear hI7 hJ7 hQ7))
          go_wp2_with (fail)
          go_roundw
          case rel => exact ⟨k + 1, by omega, by go_num, HN7, HJ7'⟩
          case measure => simp [intOf]; omega
        · obtain rfl : k = m := by omega
          have HD := Lib.hid HI.out.done
          have HBL := Lib.hid HI.out.bel
          clear HI
          go_wp2_with (fail)
          go_roundw
          case rel => exact ⟨i + 1, upd gs i q, by omega, by go_num, HD, HBL.out⟩
          case measure => simp [intOf]; omega
    · obtain rfl : i = n := by omega
      have hf : MTabPost w js qs bend trim i m (.returned (.tuple #[.slice (some ⟨B, 0, none⟩) i i, .int .i64 0])) wr :=
        ⟨hbw, .inr ⟨HOK.out, B, gs, rfl, ⟨HT.out.sp, HT.out.row, hwB, HT.out.far.2⟩⟩⟩
      have HF := Lib.hid hf
      clear hf
      go_wp2
      go_ret2
      exact HF.out
theorem mtable_any (A A' : Option Addr) (c c' n m : Nat) (js qs : List J2) (bend trim : Int) (w : World) (hA : JAt w A js) (hA' : JAt w A' qs) (hn : n = js.length) (hm : m = qs.length) :
    Calls Try.prog 43 #[.slice A n c, .slice A' m c', .int .i64 bend, .int .i64 trim] w (MTabPost w js qs bend trim n m) := by
  cases h : okS js qs bend trim with
  | false => exact mtable_bad A A' c c' n m js qs bend trim w hA hA' hn hm h
  | true => exact mtable_good A A' c c' n m js qs bend trim w hA hA' hn hm h
end Go.Proofs.Ytncmfjncdhhjoaa
