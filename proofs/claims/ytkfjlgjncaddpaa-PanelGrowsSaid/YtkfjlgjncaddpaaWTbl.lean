/- Table: the greatest values of all rectangles. -/
import Derived.Test.YtkfjlgjncaddpaaWSaw
import Derived.Test.YtkfjlgjncaddpaaGr
import Derived.BigRegion
namespace Go.Proofs.Ytkfjlgjncaddpaa
open Go.RowKit

theorem infoRow3 : (Try.prog.info? 34).map (fun i => (i.zero, i.size, i.bytes)) = some (some zRow, 1, 24) := by kernel_rfl
theorem makeRow (n : Nat) (hn : n ≤ 1000) (w : World) : (Instr.makeSlice 34 (.int .i64 (n : Int)) (.int .i64 (n : Int))).run Try.prog w = .ok (.slice (some ⟨w.heap.size, 0, none⟩) n n) (w.alloc (.cells (Array.replicate n (.int .i64 0)) 3)) :=
  run_make_same (P := Try.prog) 34 3 zInt (.int .i64 0) 1 8 Try.underlying34 infoInt rfl (by decide) n n (by omega) (by omega) (by omega) w
theorem makeRows (n : Nat) (hn : n ≤ 1000) (w : World) : (Instr.makeSlice 28 (.int .i64 (n : Int)) (.int .i64 (n : Int))).run Try.prog w = .ok (.slice (some ⟨w.heap.size, 0, none⟩) n n) (w.alloc (.cells (Array.replicate n (.slice none 0 0)) 34)) :=
  run_make_same (P := Try.prog) 28 34 zRow (.slice none 0 0) 1 24 Try.underlying28 infoRow rfl (by decide) n n (by omega) (by omega) (by omega) w

/-- The rows of a table that are there: i of W. -/
def spine (W H i : Nat) (gs : Nat → Nat) : List Value := (List.range W).map fun r => if r < i then .slice (some ⟨gs r, 0, none⟩) H H else .slice none 0 0
theorem spine_len (W H i : Nat) (gs : Nat → Nat) : (spine W H i gs).length = W := by simp [spine]
theorem spine_at {W H i r : Nat} {gs : Nat → Nat} (hr : r < W) : (spine W H i gs)[r]? = some (if r < i then .slice (some ⟨gs r, 0, none⟩) H H else .slice none 0 0) := by simp [spine, hr]
theorem spine_start (W H : Nat) (gs : Nat → Nat) : spine W H 0 gs = List.replicate W (.slice none 0 0) := by
  apply List.ext_getElem?
  intro r
  by_cases h : r < W
  · rw [spine_at h, if_neg (by omega), List.getElem?_replicate, if_pos h]
  · rw [List.getElem?_eq_none (by rw [spine_len]; omega), List.getElem?_eq_none (by simp; omega)]
theorem spine_set {W H i g : Nat} {gs : Nat → Nat} (hi : i < W) : (spine W H i gs).set i (.slice (some ⟨g, 0, none⟩) H H) = spine W H (i + 1) (upd gs i g) := by
  apply List.ext_getElem?
  intro r
  rw [List.getElem?_set]
  by_cases hr : r < W
  · by_cases e : i = r
    · subst e
      rw [if_pos rfl, if_pos (by rw [spine_len]; omega), spine_at hr, if_pos (by omega), upd_at]
    · rw [if_neg e, spine_at hr, spine_at hr, upd_ne (fun h => e h.symm)]
      by_cases h : r < i
      · rw [if_pos h, if_pos (by omega)]
      · rw [if_neg h, if_neg (by omega)]
  · rw [List.getElem?_eq_none (l := spine W H (i + 1) (upd gs i g)) (by rw [spine_len]; omega)]
    split
    · rw [if_neg (by rw [spine_len]; omega)]
    · rw [List.getElem?_eq_none (by rw [spine_len]; omega)]
/-- A table whose first i rows are there: row r reads as C r. -/
structure TbM (B : Nat) (w : World) (g W H i : Nat) (gs : Nat → Nat) (C : Nat → Nat → Int) : Prop where
  sp : Blk 34 w g (spine W H i gs)
  row : ∀ r, r < i → Blk 3 w (gs r) (fl (C r) H)
  far : B ≤ g ∧ ∀ r, r < i → g < gs r
section
variable {B : Nat} {w w' : World} {g W H i : Nat} {gs : Nat → Nat} {C : Nat → Nat → Int}
theorem TbM.keep (h : TbM B w g W H i gs C) (hb : Below w.heap.size w w') : TbM B w' g W H i gs C := ⟨h.sp.keep hb, fun r hr => (h.row r hr).keep hb, h.far⟩
theorem TbM.drewN (h : TbM B w g W H i gs C) (z : Nat) : TbM B (w.drewN z) g W H i gs C := ⟨h.sp.drewN z, fun r hr => (h.row r hr).drewN z, h.far⟩
theorem TbM.rowCell (h : TbM B w g W H i gs C) {r : Nat} (hr : r < i) (hi : i ≤ W) : w.cell? ⟨g, r, none⟩ = some (.slice (some ⟨gs r, 0, none⟩) H H) := by
  rw [h.sp.cell, spine_at (by omega), if_pos hr]
theorem TbM.cell (h : TbM B w g W H i gs C) {r j : Nat} (hr : r < i) (hj : j < H) : w.cell? ⟨gs r, j, none⟩ = some (.int .i64 (C r j)) := by
  rw [(h.row r hr).cell, fl_at hj]
end
/-- The table while row m is filled: n of its values are there. -/
structure TbI (B : Nat) (w w' : World) (W H m n q : Nat) (gs : Nat → Nat) (C : Nat → Nat → Int) : Prop where
  sp : Blk 34 w' B (spine W H (m + 1) (upd gs m q))
  row : ∀ r, r < m → Blk 3 w' (gs r) (fl (C r) H)
  cur : Blk 3 w' q (fl (fun y => if y < n then C m y else 0) H)
  far : B < q ∧ ∀ r, r < m → B < gs r ∧ gs r < q
  bel : Below B w w'
theorem TbI.next {B : Nat} {w w' : World} {W H m n q : Nat} {gs : Nat → Nat} {C : Nat → Nat → Int} (h : TbI B w w' W H m n q gs C) : TbI B w (w'.setCell ⟨q, n, none⟩ (.int .i64 (C m n))) W H m (n + 1) q gs C := by
  refine ⟨h.sp.setOther (a := ⟨q, n, none⟩) (Nat.ne_of_lt h.far.1) _, fun r hr => (h.row r hr).setOther (a := ⟨q, n, none⟩) (Nat.ne_of_lt (h.far.2 r hr).2) _, ?_, h.far, below_set h.bel (Nat.le_of_lt h.far.1) _⟩
  have := h.cur.setI n (C m n)
  have e : upd (fun y => if y < n then C m y else 0) n (C m n) = fun y => if y < n + 1 then C m y else 0 := by
    funext y
    by_cases e : y = n
    · subst e; rw [upd_at, if_pos (by omega)]
    · rw [upd_ne e]
      by_cases h : y < n
      · rw [if_pos h, if_pos (by omega)]
      · rw [if_neg h, if_neg (by omega)]
  rwa [e] at this
theorem TbI.drewN {B : Nat} {w w' : World} {W H m n q : Nat} {gs : Nat → Nat} {C : Nat → Nat → Int} (h : TbI B w w' W H m n q gs C) (z : Nat) : TbI B w (w'.drewN z) W H m n q gs C := ⟨h.sp.drewN z, fun r hr => (h.row r hr).drewN z, h.cur.drewN z, h.far, below_drewN h.bel z⟩
theorem TbI.drew {B : Nat} {w w' : World} {W H m n q : Nat} {gs : Nat → Nat} {C : Nat → Nat → Int} (h : TbI B w w' W H m n q gs C) : TbI B w w'.drew W H m n q gs C := h.drewN 1
theorem TbI.done {B : Nat} {w w' : World} {W H m q : Nat} {gs : Nat → Nat} {C : Nat → Nat → Int} (h : TbI B w w' W H m H q gs C) : TbM B w' B W H (m + 1) (upd gs m q) C := by
  refine ⟨h.sp, fun r hr => ?_, Nat.le_refl _, fun r hr => ?_⟩
  · by_cases e : r = m
    · subst e
      rw [upd_at, fl_congr (f := C r) (g := fun y => if y < H then C r y else 0) (fun y hy => by rw [if_pos hy])]
      exact h.cur
    · rw [upd_ne e]; exact h.row r (by omega)
  · by_cases e : r = m
    · subst e; rw [upd_at]; exact h.far.1
    · rw [upd_ne e]; exact (h.far.2 r (by omega)).1
theorem TbI.start {B : Nat} {w wr : World} {W H m : Nat} {gs : Nat → Nat} {C : Nat → Nat → Int} (h : TbM B wr B W H m gs C) (hm : m < W) (hb : Below B w wr) :
    TbI B w ((wr.setCell ⟨B, m, none⟩ (.slice (some ⟨wr.heap.size, 0, none⟩) H H)).alloc (.cells (Array.replicate H (.int .i64 0)) 3)) W H m 0 wr.heap.size gs C := by
  have h1 := h.sp.set m (.slice (some ⟨wr.heap.size, 0, none⟩) H H)
  rw [spine_set hm] at h1
  have hq : Blk 3 ((wr.setCell ⟨B, m, none⟩ (.slice (some ⟨wr.heap.size, 0, none⟩) H H)).alloc (.cells (Array.replicate H (.int .i64 0)) 3)) wr.heap.size (List.replicate H (.int .i64 0)) := by
    have := Blk.new (wr.setCell ⟨B, m, none⟩ (.slice (some ⟨wr.heap.size, 0, none⟩) H H)) 3 (List.replicate H (.int .i64 0))
    simpa using this
  have hlt := h.sp.lt
  refine ⟨h1.alloc _, fun r hr => ((h.row r hr).setOther (a := ⟨B, m, none⟩) (Nat.ne_of_gt (h.far.2 r hr)) _).alloc _, ?_, ⟨hlt, fun r hr => ⟨h.far.2 r hr, (h.row r hr).lt⟩⟩, ?_⟩
  · have e : fl (fun y => if y < 0 then C m y else 0) H = List.replicate H (.int .i64 0) := by
      rw [← fl_const]
      exact fl_congr (fun y _ => by rw [if_neg (by omega)])
    rw [e]; exact hq
  · exact (below_set hb (Nat.le_refl B) _).alloc (by simpa using Nat.le_of_lt hlt) _
theorem fl_const0 (n : Nat) : fl (fun _ => 0) n = List.replicate n (.int .i64 0) := fl_const 0 n

def TblPost (W H K : Int) (ss : List Sh) (w : World) (e : Ending) (w' : World) : Prop :=
  Below w.heap.size w w' ∧ ((okP W H K ss = false ∧ e = .returned (.tuple #[.slice none 0 0, .int .i64 1])) ∨
    ∃ i j k : Nat, W = (i : Int) ∧ H = (j : Int) ∧ K = (k : Int) ∧ okP W H K ss = true ∧ ∃ g gs, e = .returned (.tuple #[.slice (some ⟨g, 0, none⟩) i i, .int .i64 0]) ∧ TbM w.heap.size w' g i j i gs (fun a b => (best k ss (a + 1) (b + 1)).v))
set_option maxHeartbeats 4000000 in
set_option maxRecDepth 100000 in
theorem table_any (W H K : Int) (A : Option Addr) (c L : Nat) (ss : List Sh) (w : World) (hA : ShAt w A ss) (hL : L = ss.length) (hLs : L ≤ 1000000) :
    Calls Try.prog 18 #[.int .i64 W, .int .i64 H, .int .i64 K, .slice A L c] w (TblPost W H K ss w) := by
  have hck := check_any W H K A c L ss w hA hL hLs
  cases hok : okP W H K ss with
  | false =>
    have e : ckE W H K ss = 1 := by unfold ckE; rw [hok]; rfl
    rw [e] at hck
    have HCK := Lib.hid hck
    have HOK := Lib.hid hok
    clear hck hok e hA hL
    go_enter Try.func18, Try.ntmps18
    go_wp2_with (go_at_call 19; refine (HCK.out).mono ?_; rintro e w1 ⟨rfl, hb1⟩)
    go_ret2
    exact ⟨hb1, .inl ⟨HOK.out, rfl⟩⟩
  | true =>
    have e : ckE W H K ss = 0 := by unfold ckE; rw [hok]; rfl
    rw [e] at hck
    obtain ⟨i, j, k, rfl, rfl, rfl, hi1, hi, hj1, hj, hk, hlen, hoks⟩ := okP_ok hok
    have hns := fun w1 (hb : Below w.heap.size w w1) => newSaw_any i j k A L c ss w1 (hA.keep hb) hL (by omega) hoks hi hj hk
    have HCK := Lib.hid hck
    have HOK := Lib.hid hok
    have HNS := Lib.hid hns
    have HMR := makeRow j (by omega)
    have HMS := makeRows i (by omega)
    clear hck hok e hA hL hns hoks hlen
    go_enter Try.func18, Try.ntmps18
    go_upto_region 5 with (first | (go_at_call 19; refine (HCK.out).mono ?_; rintro e w1 ⟨rfl, hb1⟩) | (go_at_call 40; refine (HNS.out _ hb1).mono ?_; rintro e w2 ⟨p, rfl, hp, hm, hb2⟩))
    have hbw := below_on hb1 hb1.size hb2
    have HSW := Lib.hid hm
    have hlp : p < w2.heap.size := hm.lt
    have hbn := below_new w2 (.cells (Array.replicate i (.slice none 0 0)) 34)
    have hsp : Blk 34 (w2.alloc (.cells (Array.replicate i (.slice none 0 0)) 34)) w2.heap.size (spine i j 0 (fun _ => 0)) := by
      have := Blk.new w2 34 (List.replicate i (.slice none 0 0))
      rw [spine_start]
      simpa using this
    have HT0 : Hid (TbM w2.heap.size (w2.alloc (.cells (Array.replicate i (.slice none 0 0)) 34)) w2.heap.size i j 0 (fun _ => 0) (fun a b => (best k ss (a + 1) (b + 1)).v)) := Lib.hid ⟨hsp, fun r hr => by omega, Nat.le_refl _, fun r hr => by omega⟩
    have HBW := Lib.hid hbw
    have HBN := Lib.hid hbn
    clear hm hp hb1 hb2 hbw hbn hsp HCK HNS
    go_upto_region 6 with (fail)
    obtain ⟨B, hB⟩ : ∃ B, B = w2.heap.size := ⟨_, rfl⟩
    rw [← hB] at HT0 HBN hlp ⊢
    have HB := Lib.hid hB
    clear hB
    go_upto_region 7 with (fail)
    generalize w2.alloc (.cells (Array.replicate i (.slice none 0 0)) 34) = W3 at *
    go_loopw [32, 13, 14] (fun t _ _ wr => ∃ (m : Nat) (gs : Nat → Nat), m ≤ i ∧ t = .int .i64 (m : Int) ∧ Hid (TbM B wr B i j m gs (fun a b => (best k ss (a + 1) (b + 1)).v)) ∧ Below B w2 wr) (fun t _ _ _ => i - (intOf t).toNat)
    case atStart => exact ⟨0, _, Nat.zero_le _, rfl, HT0, HBN.out⟩
    case round =>
      clear HT0 HBN
      obtain ⟨m, gs, hmi, rfl, HT, hbel⟩ := hrel
      by_cases hlt : m < i
      · have hlt2 : (m : Int) < (i : Int) := by omega
        have s0 : wr.cell? ⟨B, m, none⟩ = some (.slice none 0 0) := by rw [HT.out.sp.cell, spine_at hlt, if_neg (by omega)]
        have sf := HT.out.sp.frozen
        have lB : B < wr.heap.size := HT.out.sp.lt
        have nB : ¬ B = wr.heap.size := Nat.ne_of_lt lB
        have HI0 := Lib.hid (TbI.start HT.out hlt hbel)
        clear hbel
        go_upto_region 11 with (fail)
        obtain ⟨q, hq⟩ : ∃ q, q = wr.heap.size := ⟨_, rfl⟩
        rw [← hq] at HI0 ⊢
        clear hq s0 sf lB nB HT
        generalize (wr.setCell ⟨B, m, none⟩ (.slice (some ⟨q, 0, none⟩) j j)).alloc (.cells (Array.replicate j (.int .i64 0)) 3) = W4 at *
        go_loopw [45, 14] (fun t _ wr => ∃ n : Nat, n ≤ j ∧ t = .int .i64 (n : Int) ∧ Hid (TbI B w2 wr i j m n q gs (fun a b => (best k ss (a + 1) (b + 1)).v))) (fun t _ _ => j - (intOf t).toNat)
        case atStart => exact ⟨0, Nat.zero_le _, rfl, HI0⟩
        case round =>
          clear HI0
          obtain ⟨n, hn, rfl, HI⟩ := hrel
          by_cases hlt3 : n < j
          · have hlt4 : (n : Int) < (j : Int) := by omega
            have s0 : wr.cell? ⟨B, m, none⟩ = some (.slice (some ⟨q, 0, none⟩) j j) := by rw [HI.out.sp.cell, spine_at hlt, if_pos (by omega), upd_at]
            have s1 : wr.cell? ⟨q, n, none⟩ = some (.int .i64 0) := by rw [HI.out.cur.cell, fl_at hlt3, if_neg (by omega)]
            have sf := HI.out.cur.frozen
            have k2 := (HSW.out.belowB HI.out.bel hlp).tv (m + 1) (n + 1) (by omega) (by omega)
            rw [filT_at _ _ _ _ _ _ _ (by omega)] at k2
            have HN := Lib.hid HI.out.next.drew
            have m65 : (m : Int) + 1 < 65 := by omega
            have n65 : (n : Int) + 1 < 65 := by omega
            obtain ⟨bv, hbv⟩ : ∃ bv, bv = (best k ss (m + 1) (n + 1)).v := ⟨_, rfl⟩
            rw [← hbv] at k2
            replace HN : Hid (TbI B w2 (wr.setCell ⟨q, n, none⟩ (.int .i64 bv)).drew i j m (n + 1) q gs (fun a b => (best k ss (a + 1) (b + 1)).v)) := Lib.hid (by rw [hbv]; exact HN.out)
            clear hbv
            go_upto_region 13 with (fail)
            go_region
            clear s0 s1 sf k2
            go_wp2_with (fail)
            go_roundw
            case rel => exact ⟨n + 1, by omega, by go_num, HN⟩
            case measure => simp [intOf]; omega
          · obtain rfl : n = j := by omega
            have HD := Lib.hid HI.out.done
            have HBL := Lib.hid HI.out.bel
            have hlt4 : ¬ (n : Int) < (n : Int) := by omega
            clear HI
            go_wp2_with (fail)
            go_roundw
            case rel => exact ⟨m + 1, upd gs m q, by omega, by go_num, HD, HBL.out⟩
            case measure => simp [intOf]; omega
      · obtain rfl : m = i := by omega
        have hlt2 : ¬ (m : Int) < (m : Int) := by omega
        have HBL := Lib.hid hbel
        have hws : w.heap.size ≤ B := by rw [HB.out]; exact HBW.out.size
        clear hbel
        go_wp2
        go_ret2
        refine ⟨HBW.out.trans (HBL.out.mono hws), .inr ⟨m, j, k, rfl, rfl, rfl, HOK.out, B, gs, rfl, HT.out.sp, HT.out.row, hws, HT.out.far.2⟩⟩
end Go.Proofs.Ytkfjlgjncaddpaa
