/- PanelSheets. -/
import Derived.Test.YtkfjlgjncaddpaaPn
import Derived.Test.YtkfjlgjncaddpaaWBrf
import Derived.Test.YtkfjlgjncaddpaaWThr
import Derived.Test.YtkfjlgjncaddpaaRds
import Derived.Test.YtkfjlgjncaddpaaTrn2
import Derived.Test.YtkfjlgjncaddpaaWLiv
import Derived.Deep.Cut
import Derived.Deep.CutRange
import Derived.Deep.RegionHeld3
namespace Go.Proofs.Ytkfjlgjncaddpaa
open Go.RowKit

set_option maxHeartbeats 4000000 in
set_option maxRecDepth 100000 in
theorem sheets_law (W H K : Int) (A : Option Addr) (c L : Nat) (ss : List Sh) (A' : Option Addr) (c' M : Nat) (y : List Cu) (tt : Int) (w : World) (hA : ShAt w A ss) (hL : L = ss.length) (hc : L ≤ c) (hnil : A = none → c = 0) (hW : -9223372036854775808 ≤ W ∧ W ≤ 9223372036854775807) (hH : -9223372036854775808 ≤ H ∧ H ≤ 9223372036854775807) (hA' : CuAt w A' y) (hM : M = y.length) (hc' : M ≤ c') (hnil' : A' = none → c' = 0) :
    Calls Try.prog 14 #[.agg #[.int .i64 W, .int .i64 H, .int .i64 K, .slice A L c], .slice A' M c', .int .i64 tt] w fun e w' => e = .returned (.bool true) ∧ Below w.heap.size w w' := by
  have hb0 : Below w.heap.size w (w.alloc (.cells #[.int .i64 W, .int .i64 H, .int .i64 K, .slice A L c] 24)) := below_new w (.cells #[.int .i64 W, .int .i64 H, .int .i64 K, .slice A L c] 24)
  have hfw := few_any W H K A c L ss (w.alloc (.cells #[.int .i64 W, .int .i64 H, .int .i64 K, .slice A L c] 24)) (hA.keep hb0) hL hc hnil hW hH
  have HBF : Hid (∀ V, Below (w.alloc (.cells #[.int .i64 W, .int .i64 H, .int .i64 K, .slice A L c] 24)).heap.size (w.alloc (.cells #[.int .i64 W, .int .i64 H, .int .i64 K, .slice A L c] 24)) V → Calls Try.prog 26 #[.slice A' M c'] V (BrfPost y V)) := Lib.hid fun V hV => brief_any A' c' M y V ((hA'.keep hb0).keep hV) hM hc' hnil'
  have HFW := Lib.hid hfw
  have HB0 := Lib.hid hb0
  clear hfw hb0 hA hL hW hH hc hnil hA' hM hc' hnil'
  go_enter Try.func14, Try.ntmps14
  go_upto_region 2 with (first | (go_at_call 16; (with_reducible refine (HFW.out).mono ?_); rintro e w1 ⟨g, cap, rfl, hwg, hnc, hcm, hH, hb1⟩) | (go_at_call 26; (with_reducible refine (HBF.out _ hb1).mono ?_); rintro e w2 ⟨g2, cap2, rfl, hwg2, hnc2, hcm2, hpl, hgl2, hb2⟩))
  have hpn := @pn_new w _ w2 g cap (cut20 W) (cut20 H) K ss HB0.out hwg hnc hcm (hH.keep hb2) (below_on hb1 hb1.size hb2)
  have hpl1 := hpl.keep (below_new w2 (.cells #[.int .i64 (cut20 W), .int .i64 (cut20 H), .int .i64 K, .slice (some ⟨g, 0, none⟩) (fewL ss).length cap] 24))
  have hbr : (briefL y).length ≤ 300 := by unfold briefL; rw [List.length_take]; omega
  obtain ⟨q, hq⟩ : ∃ q, q = w2.heap.size := ⟨_, rfl⟩
  rw [← hq] at hpn ⊢
  generalize (w2.alloc (.cells #[.int .i64 (cut20 W), .int .i64 (cut20 H), .int .i64 K, .slice (some ⟨g, 0, none⟩) (fewL ss).length cap] 24)) = W1 at *
  generalize cut20 W = X at *
  generalize cut20 H = Y at *
  generalize fewL ss = zs at *
  generalize briefL y = l at *
  obtain ⟨n, hn⟩ : ∃ n, n = zs.length := ⟨_, rfl⟩
  rw [← hn] at hpn ⊢
  obtain ⟨m2, hm2⟩ : ∃ m, m = l.length := ⟨_, rfl⟩
  rw [← hm2] at hnc2 hbr ⊢
  have HP := Lib.hid hpn
  have HPL := Lib.hid hpl1
  have HM2 := Lib.hid hm2
  clear HFW HB0 HBF hq hpn hH hwg hnc hcm hb1 hn hpl hpl1 hgl2 hb2 hwg2 hm2
  have hn17 : n ≤ 17 := HP.out.len.2.1
  have hff := four w q g n cap X Y K zs (some ⟨g2, 0, none⟩) m2 cap2 l HM2.out hnc2 (fun e => by cases e) hcm2 (by omega)
  obtain ⟨p0, p1, p2, p3⟩ := HP.out.cells
  rcases hff with ⟨ec, hec, hbad⟩ | ⟨i, j, k, ps, rfl, rfl, rfl, hok, hlay, hok4⟩
  · unfold Bad4 at hbad
    have HB4 := Lib.hid fun V h1 h2 => (hbad V h1 h2).2.2.1
    have hec0 : ¬ ec = 0 := by rcases hec with ⟨h, _⟩ | ⟨h, _⟩ <;> omega
    have hd0 : (ec != 0) = true := by simp [hec0]
    clear hbad hec
    go_wp2_with (first | (go_at_call 29; (with_reducible refine (HB4.out _ HP.out HPL.out).mono ?_); rintro e w6 ⟨rfl, hb6⟩) | (go_at_call 20; (with_reducible refine (lives_any _).mono ?_); rintro e w7 ⟨rfl, hb7⟩))
    go_ret
    exact ⟨rfl, below2 (below2 HP.out.bel hb6) hb7⟩
  · unfold Ok4 at hok4
    have HB4 := Lib.hid fun V h1 h2 => (hok4 V h1 h2).2.2.1
    have h15 := and_15 tt
    obtain ⟨tm, htm⟩ : ∃ tm, tm = tt % 16 := ⟨_, rfl⟩
    have ht0 : 0 ≤ tm ∧ tm ≤ 15 := by omega
    rw [← htm] at h15
    have hse := sheets_enough hok hlay (by have := HM2.out; omega) ht0.1 ht0.2
    obtain ⟨_, hpo, hpl⟩ := lay_known hlay
    have hnz := HP.out.len.1
    rw [← hnz] at hse
    obtain ⟨se1, se2, se3⟩ := hse
    have hsh := fun V (h : PnM w V q g n cap i j k zs) (g' : Nat) (hI : Ints V (some ⟨g', 0, none⟩) (wsL ps tm n)) => sheets_any i j k (some ⟨g, 0, none⟩) (some ⟨g', 0, none⟩) cap n n n zs (wsL ps tm n) V h.sh.vals h.len.1 hI (by rw [wsL_len]) hok (by omega)
    rw [se1] at hsh
    have HBD : Hid (∀ m, m < n → 0 ≤ cntN ps m ∧ cntN ps m ≤ 300 ∧ 0 ≤ cntN ps m * tm ∧ cntN ps m * tm ≤ 4500) := Lib.hid fun m hm => by
      have h1 := cntN_le ps m
      have h2 := HM2.out
      have h4 : cntN ps m * tm ≤ 300 * 15 := Int.mul_le_mul (by omega) (by omega) (by omega) (by omega)
      have h5 : 0 ≤ cntN ps m * tm := Int.mul_nonneg (by omega) (by omega)
      omega
    obtain ⟨sN, hsN⟩ : ∃ sN, sN = sheetN i j zs (wsL ps tm n) := ⟨_, rfl⟩
    rw [← hsN] at se2 se3 hsh
    have HSH := Lib.hid hsh
    have HS3 := Lib.hid se3
    have dle : decide (sN ≤ tm) = true := decide_eq_true se2
    clear hok4 hok hlay hpo hpl hnz htm se1 se2 se3 hsh hsN
    go_upto_region 3 with (go_at_call 29; (with_reducible refine (HB4.out _ HP.out HPL.out).mono ?_); rintro e w4 ⟨gc, rfl, hgc, hbc, hb4⟩)
    have HP4 := Lib.hid (HP.out.keep hb4)
    have HC4 : Hid (Blk 3 w4 gc (fl (fun z => if z < 0 then cntN ps z * tm else cntN ps z) n)) := Lib.hid (by
      rw [fl_congr (g := cntN ps) (fun z _ => by rw [if_neg (by omega)])]
      exact hbc)
    have hqg : q < gc := Nat.lt_of_lt_of_le HP.out.bx.lt hgc
    have hgg : g < gc := Nat.lt_of_lt_of_le HP.out.sh.lt hgc
    have hwg : w.heap.size ≤ gc := Nat.le_trans HP.out.bel.size hgc
    clear p0 p1 p2 p3 hb4 HPL HP hgc hbc HB4
    go_upto_region 8 with (fail)
    go_loopw [12, 11] (fun t s wr => ∃ m : Nat, m ≤ n ∧ t = .int .i64 (m : Int) ∧ s = .bool (someW ps tm m) ∧ Hid (PnM w wr q g n cap i j k zs) ∧ Hid (Blk 3 wr gc (fl (fun z => if z < m then cntN ps z * tm else cntN ps z) n))) (fun t _ _ => n - (intOf t).toNat)
    case atStart => exact ⟨0, Nat.zero_le _, rfl, by simp [someW], HP4, HC4⟩
    case round =>
      clear HP4 HC4
      obtain ⟨m, hm, rfl, rfl, HP, HC⟩ := hrel
      by_cases hlt : m < n
      · have hlt2 : (m : Int) < (n : Int) := by omega
        obtain ⟨b1, b2, b3, b4⟩ := HBD.out m hlt
        have k0 : wr.cell? ⟨gc, m, none⟩ = some (.int .i64 (cntN ps m)) := by
          have := HC.out.int hlt
          rw [if_neg (by omega)] at this
          exact this
        have kf := HC.out.frozen m
        have hst := HC.out.setI m (cntN ps m * tm)
        have hcg : upd (fun z => if z < m then cntN ps z * tm else cntN ps z) m (cntN ps m * tm) = fun z => if z < m + 1 then cntN ps z * tm else cntN ps z := by
          funext z
          by_cases e : z = m
          · subst e; rw [upd_at, if_pos (by omega)]
          · rw [upd_ne e]
            by_cases h : z < m
            · rw [if_pos h, if_pos (by omega)]
            · rw [if_neg h, if_neg (by omega)]
        rw [hcg] at hst
        have HCN := Lib.hid hst
        have HPN := Lib.hid (HP.out.belowB (below_set (i := m) (Below.refl gc wr) (Nat.le_refl gc) (.int .i64 (cntN ps m * tm))) hqg hgg hwg)
        have HSM := Lib.hid (someW_succ ps tm m)
        generalize cntN ps m = cm at *
        have x1 : IntKind.i64.wrap (cm * tm) = cm * tm := wrapI (by omega) (by omega)
        have hbl : gc < wr.heap.size := HC.out.lt
        clear hst hcg HP HC
        cases hsb : someW ps tm m with
        | true =>
          rw [hsb, Bool.true_or] at HSM
          go_wp2_with (fail)
          go_roundw
          case rel => exact ⟨m + 1, by omega, by go_num, by rw [HSM.out], HPN, HCN⟩
          case measure => simp [intOf]; omega
        | false =>
          rw [hsb, Bool.false_or] at HSM
          cases hcm : decide (0 < cm * tm) with
          | true =>
            rw [hcm] at HSM
            go_wp2_with (fail)
            go_roundw
            case rel => exact ⟨m + 1, by omega, by go_num, by rw [HSM.out], HPN, HCN⟩
            case measure => simp [intOf]; omega
          | false =>
            rw [hcm] at HSM
            go_wp2_with (fail)
            go_roundw
            case rel => exact ⟨m + 1, by omega, by go_num, by rw [HSM.out], HPN, HCN⟩
            case measure => simp [intOf]; omega
      · obtain rfl : m = n := by omega
        have hlt2 : ¬ (m : Int) < (m : Int) := by omega
        have hii : Ints wr (some ⟨gc, 0, none⟩) (wsL ps tm m) := by
          have h := HC.out
          rw [fl_congr (g := fun z => cntN ps z * tm) (fun z hz => by rw [if_pos hz]), fl_is] at h
          exact h.vals0
        have HII := Lib.hid hii
        obtain ⟨p0, p1, p2, p3⟩ := HP.out.cells
        have hs3 := HS3.out
        generalize someW ps tm m = sb at *
        clear hii HC
        cases sb with
        | true =>
          have d0 : decide (0 < sN) = true := hs3
          clear hs3
          go_wp2_with (first | (go_at_call 36; (with_reducible refine (HSH.out _ HP.out gc HII.out).mono ?_); rintro e w6 ⟨rfl, hb6⟩) | (go_at_call 20; (with_reducible refine (lives_any _).mono ?_); rintro e w7 ⟨rfl, hb7⟩))
          go_ret
          exact ⟨rfl, below2 (below2 HP.out.bel hb6) hb7⟩
        | false =>
          have d0 : decide (0 < sN) = false := hs3
          clear hs3
          go_wp2_with (first | (go_at_call 36; (with_reducible refine (HSH.out _ HP.out gc HII.out).mono ?_); rintro e w6 ⟨rfl, hb6⟩) | (go_at_call 20; (with_reducible refine (lives_any _).mono ?_); rintro e w7 ⟨rfl, hb7⟩))
          go_ret
          exact ⟨rfl, below2 (below2 HP.out.bel hb6) hb7⟩
end Go.Proofs.Ytkfjlgjncaddpaa
