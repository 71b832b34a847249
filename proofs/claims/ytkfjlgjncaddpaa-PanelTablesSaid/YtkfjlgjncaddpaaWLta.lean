/- PanelTables. -/
import Derived.Test.YtkfjlgjncaddpaaPn
import Derived.Test.YtkfjlgjncaddpaaWRtb
import Derived.Test.YtkfjlgjncaddpaaWRck
import Derived.Test.YtkfjlgjncaddpaaWEq
import Derived.Deep.Cut
import Derived.Deep.CutRange
import Derived.Deep.RegionHeld3
namespace Go.Proofs.Ytkfjlgjncaddpaa
open Go.RowKit

theorem row_ints {w : World} {g H : Nat} {f : Nat → Int} (h : Blk 3 w g (fl f H)) : Ints w (some ⟨g, 0, none⟩) ((List.range H).map f) := by
  have := h.vals0
  rw [fl_is] at this
  exact this
theorem tb_eq (k : Nat) (ss : List Sh) (i j a : Nat) (ha : a < i) : (List.range j).map (fun b => (best k ss (a + 1) (b + 1)).v) = (List.range j).map (fun b => tbC (filT k ss j (i + 1) 1) a b) := by
  apply List.map_congr_left
  intro b hb
  have hb := List.mem_range.1 hb
  unfold tbC filT
  rw [if_pos (by omega)]
set_option maxHeartbeats 4000000 in
set_option maxRecDepth 100000 in
theorem tables_law (W H K : Int) (A : Option Addr) (c L : Nat) (ss : List Sh) (w : World) (hA : ShAt w A ss) (hL : L = ss.length) (hc : L ≤ c) (hnil : A = none → c = 0) (hW : -9223372036854775808 ≤ W ∧ W ≤ 9223372036854775807) (hH : -9223372036854775808 ≤ H ∧ H ≤ 9223372036854775807) :
    Calls Try.prog 3 #[.agg #[.int .i64 W, .int .i64 H, .int .i64 K, .slice A L c]] w fun e w' => e = .returned (.bool true) ∧ Below w.heap.size w w' := by
  have hb0 : Below w.heap.size w (w.alloc (.cells #[.int .i64 W, .int .i64 H, .int .i64 K, .slice A L c] 24)) := below_new w (.cells #[.int .i64 W, .int .i64 H, .int .i64 K, .slice A L c] 24)
  have hfw := few_any W H K A c L ss (w.alloc (.cells #[.int .i64 W, .int .i64 H, .int .i64 K, .slice A L c] 24)) (hA.keep hb0) hL hc hnil hW hH
  have HFW := Lib.hid hfw
  have HB0 := Lib.hid hb0
  clear hfw hb0 hA hL hW hH hc hnil
  go_enter Try.func3, Try.ntmps3
  go_upto_region 2 with (go_at_call 16; refine (HFW.out).mono ?_; rintro e w1 ⟨g, cap, rfl, hwg, hnc, hcm, hH, hb1⟩)
  have hpn := @pn_new w _ w1 g cap (cut20 W) (cut20 H) K ss HB0.out hwg hnc hcm hH hb1
  obtain ⟨q, hq⟩ : ∃ q, q = w1.heap.size := ⟨_, rfl⟩
  rw [← hq] at hpn ⊢
  generalize (w1.alloc (.cells #[.int .i64 (cut20 W), .int .i64 (cut20 H), .int .i64 K, .slice (some ⟨g, 0, none⟩) (fewL ss).length cap] 24)) = W1 at *
  generalize cut20 W = X at *
  generalize cut20 H = Y at *
  generalize fewL ss = zs at *
  obtain ⟨n, hn⟩ : ∃ n, n = zs.length := ⟨_, rfl⟩
  rw [← hn] at hpn ⊢
  have HP := Lib.hid hpn
  clear HFW HB0 hq hpn hH hwg hnc hcm hb1 hn
  have hn17 : n ≤ 17 := HP.out.len.2.1
  have htb := fun V (h : PnM w V q g n cap X Y K zs) => table_any X Y K (some ⟨g, 0, none⟩) cap n zs V h.sh.vals h.len.1 (by omega)
  have hch := fun V (h : PnM w V q g n cap X Y K zs) => check_any X Y K (some ⟨g, 0, none⟩) cap n zs V h.sh.vals h.len.1 (by omega)
  have hck := fun V (h : PnM w V q g n cap X Y K zs) => refCheck_any X Y K (some ⟨g, 0, none⟩) cap n zs V h.sh.vals h.len.1 (by omega)
  unfold TblPost at htb
  obtain ⟨p0, p1, p2, p3⟩ := HP.out.cells
  cases hok : okP X Y K zs with
  | false =>
    have e1 : ckE X Y K zs = 1 := by unfold ckE; rw [hok]; rfl
    have HTB : Hid (∀ V, PnM w V q g n cap X Y K zs → Calls Try.prog 18 #[.int .i64 X, .int .i64 Y, .int .i64 K, .slice (some ⟨g, 0, none⟩) n cap] V fun e w' => e = .returned (.tuple #[.slice none 0 0, .int .i64 1]) ∧ Below V.heap.size V w') := Lib.hid fun V h => (htb V h).mono fun e w' ⟨hb, h1⟩ => by
      rcases h1 with ⟨_, h2⟩ | ⟨_, _, _, _, _, _, h2, _⟩
      · exact ⟨h2, hb⟩
      · rw [hok] at h2; cases h2
    rw [e1] at hck hch
    have HCK := Lib.hid hck
    have HCH := Lib.hid hch
    clear htb hck hch hok e1
    go_upto_region 3 with (go_at_call 17; refine (HCK.out _ HP.out).mono ?_; rintro e w2 ⟨rfl, hb2⟩)
    have HP2 := Lib.hid (HP.out.keep hb2)
    clear p0 p1 p2 p3 hb2 HP
    obtain ⟨p0, p1, p2, p3⟩ := HP2.out.cells
    go_upto_region 4 with (go_at_call 18; refine (HTB.out _ HP2.out).mono ?_; rintro e w3 ⟨rfl, hb3⟩)
    have HP3 := Lib.hid (HP2.out.keep hb3)
    clear p0 p1 p2 p3 hb3 HP2
    obtain ⟨p0, p1, p2, p3⟩ := HP3.out.cells
    go_wp2_with (first | (go_at_call 19; refine (HCH.out _ HP3.out).mono ?_; rintro e w4 ⟨rfl, hb4⟩) | (go_at_call 20; refine (lives_any _).mono ?_; rintro e w5 ⟨rfl, hb5⟩))
    go_ret
    exact ⟨rfl, below2 (below2 HP3.out.bel hb4) hb5⟩
  | true =>
    have e1 : ckE X Y K zs = 0 := by unfold ckE; rw [hok]; rfl
    obtain ⟨i, j, k, rfl, rfl, rfl, hi1, hi, hj1, hj, hk, hlen, hoks⟩ := okP_ok hok
    have HTB : Hid (∀ V, PnM w V q g n cap i j k zs → Calls Try.prog 18 #[.int .i64 (i : Int), .int .i64 (j : Int), .int .i64 (k : Int), .slice (some ⟨g, 0, none⟩) n cap] V fun e w' => ∃ gt gs, e = .returned (.tuple #[.slice (some ⟨gt, 0, none⟩) i i, .int .i64 0]) ∧ TbM V.heap.size w' gt i j i gs (fun a b => (best k zs (a + 1) (b + 1)).v) ∧ Below V.heap.size V w') := Lib.hid fun V h => (htb V h).mono fun e w' ⟨hb, h1⟩ => by
      rcases h1 with ⟨h2, _⟩ | ⟨i', j', k', q1, q2, q3, _, g', gs', h2, h3⟩
      · rw [hok] at h2; cases h2
      · obtain rfl : i = i' := by omega
        obtain rfl : j = j' := by omega
        obtain rfl : k = k' := by omega
        exact ⟨_, _, h2, h3, hb⟩
    have HRT : Hid (∀ V, PnM w V q g n cap i j k zs → Calls Try.prog 21 #[.int .i64 (i : Int), .int .i64 (j : Int), .int .i64 (k : Int), .slice (some ⟨g, 0, none⟩) n cap] V fun e w' => ∃ g c gs, e = .returned (.slice (some ⟨g, 0, none⟩) i c) ∧ RtM V.heap.size V w' i j g c gs (tbC (filT k zs j (i + 1) 1))) := Lib.hid fun V h => refTable_any i j k (some ⟨g, 0, none⟩) n cap zs V h.sh.vals h.len.1 (by have := h.len.1; omega) hoks hi hj hk
    rw [e1] at hck hch
    have HCK := Lib.hid hck
    have HCH := Lib.hid hch
    clear htb hck hch hok e1 hoks
    go_upto_region 3 with (go_at_call 17; refine (HCK.out _ HP.out).mono ?_; rintro e w2 ⟨rfl, hb2⟩)
    have HP2 := Lib.hid (HP.out.keep hb2)
    clear p0 p1 p2 p3 hb2 HP
    obtain ⟨p0, p1, p2, p3⟩ := HP2.out.cells
    go_upto_region 4 with (go_at_call 18; refine (HTB.out _ HP2.out).mono ?_; rintro e w3 ⟨gt, gs, rfl, ht3, hb3⟩)
    have HP3 := Lib.hid (HP2.out.keep hb3)
    have HT3 := Lib.hid ht3
    obtain ⟨B2, hB2⟩ : ∃ B2, B2 = w2.heap.size := ⟨_, rfl⟩
    rw [← hB2] at HT3
    clear p0 p1 p2 p3 hb3 HP2 ht3 hB2
    obtain ⟨p0, p1, p2, p3⟩ := HP3.out.cells
    go_upto_region 8 with (first | (go_at_call 19; refine (HCH.out _ HP3.out).mono ?_; rintro e w4 ⟨rfl, hb4⟩) | (go_at_call 20; refine (lives_any _).mono ?_; rintro e w5 ⟨rfl, hb5⟩))
    have hb45 := below2 hb4 hb5
    have HP5 := Lib.hid (HP3.out.keep hb45)
    have HT5 := Lib.hid (HT3.out.keep hb45)
    clear p0 p1 p2 p3 hb4 hb5 hb45 HP3 HT3
    obtain ⟨p0, p1, p2, p3⟩ := HP5.out.cells
    go_upto_region 9 with (go_at_call 21; refine (HRT.out _ HP5.out).mono ?_; rintro e w6 ⟨gr, cr, gq, rfl, hr6⟩)
    have hb6 := hr6.bel
    have HT6 := Lib.hid (HT5.out.keep hb6)
    have HB6 := Lib.hid (below2 HP5.out.bel hb6)
    have HR6 := Lib.hid hr6
    clear p0 p1 p2 p3 hb6 hr6 HP5 HT5 HTB HRT HCK HCH
    go_upto_region 12 with (fail)
    go_loopw [8] (fun t wr => ∃ m : Nat, m ≤ i ∧ t = .int .i64 (m : Int) ∧ Hid (Below w6.heap.size w6 wr)) (fun t _ => i - (intOf t).toNat)
    case atStart => exact ⟨0, Nat.zero_le _, rfl, Lib.hid (Below.refl _ _)⟩
    case round =>
      obtain ⟨m, hm, rfl, HW⟩ := hrel
      by_cases hlt : m < i
      · have hlt2 : (m : Int) < (i : Int) := by omega
        have HT := Lib.hid (HT6.out.keep HW.out)
        have HR := Lib.hid (HR6.out.keep HW.out)
        have r1 := HT.out.rowCell hlt (Nat.le_refl _)
        have r2 := HR.out.read.sp m hlt
        have hsm : ∀ V, Below wr.heap.size wr V → Calls Try.prog 22 #[.slice (some ⟨gs m, 0, none⟩) j j, .slice (some ⟨gq m, 0, none⟩) j j] V fun e w' => e = .returned (.bool true) ∧ Below V.heap.size V w' := fun V hV => (same_any (some ⟨gs m, 0, none⟩) (some ⟨gq m, 0, none⟩) j j j j _ _ V (row_ints ((HT.out.row m hlt).keep hV)) (row_ints ((HR.out.row m hlt).keep hV)) (by simp) (by simp) (by omega) (by omega)).mono fun e w' ⟨h1, h2⟩ => ⟨by rw [h1, tb_eq k zs i j m hlt]; simp, h2⟩
        have HSM := Lib.hid hsm
        have s1 : wr.drew.cell? ⟨gt, m, none⟩ = some (.slice (some ⟨gs m, 0, none⟩) j j) := r1
        have s2 : wr.drew.cell? ⟨gr, m, none⟩ = some (.slice (some ⟨gq m, 0, none⟩) j j) := r2
        have HBD : Hid (Below wr.heap.size wr wr.drew) := Lib.hid (Below.refl _ _).drew
        have h1l : gt < wr.drew.heap.size := HT.out.sp.lt
        have h2l : gr < wr.drew.heap.size := HR.out.read.lt.1 (by omega)
        clear hsm HT HR r1 r2
        go_upto_region 14 with (fail)
        go_region_held3 (fun w' => w'.cell? ⟨gt, m, none⟩ = some (.slice (some ⟨gs m, 0, none⟩) j j) ∧ w'.cell? ⟨gr, m, none⟩ = some (.slice (some ⟨gq m, 0, none⟩) j j))
          (first | with_reducible exact ⟨s1, s2⟩ | with_reducible exact k7 | go_keep)
          ((go_at_call 22; (with_reducible refine (HSM.out _ HBD.out).mono ?_); rintro e w7 ⟨rfl, hb7⟩; have k7 := And.intro ((hb7.cell (p := ⟨gt, m, none⟩) h1l).trans s1) ((hb7.cell (p := ⟨gr, m, none⟩) h2l).trans s2)))
        go_wp2_with (fail)
        go_roundw
        case rel => exact ⟨m + 1, by omega, by go_num, Lib.hid (below2 HW.out (below_on HBD.out HBD.out.size hb7))⟩
        case measure => simp [intOf]; omega
      · obtain rfl : m = i := by omega
        have hlt2 : ¬ (m : Int) < (m : Int) := by omega
        go_wp2_with (fail)
        go_ret
        exact ⟨rfl, below2 HB6.out HW.out⟩
end Go.Proofs.Ytkfjlgjncaddpaa
