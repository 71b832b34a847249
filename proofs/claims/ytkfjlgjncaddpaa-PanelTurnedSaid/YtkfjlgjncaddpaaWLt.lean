/- PanelTurned. -/
import Derived.Test.YtkfjlgjncaddpaaPn
import Derived.Test.YtkfjlgjncaddpaaTrn2
import Derived.Deep.Cut
import Derived.Deep.CutRange
import Derived.Deep.RegionHeld3
namespace Go.Proofs.Ytkfjlgjncaddpaa
open Go.RowKit

theorem trn_new {ss : List Sh} {m : Nat} (h : m < ss.length) : (trn ss (m + 1)).getD m sh0 = { ss.getD m sh0 with t := true } := by
  unfold trn
  rw [List.getD_eq_getElem?_getD, List.getElem?_append_left (by simp; omega), List.getD_eq_getElem?_getD, List.getElem?_eq_getElem h]
  simp [h]
theorem own_far {B T k n : Nat} {w : World} {g c : Nat} {vs : List Value} (h : w.ownsRow B T k (.slice (some ⟨g, 0, none⟩) n c) n vs) {a : Addr} (ha : g ≠ a.block) (u : Value) : (w.setCell a u).ownsRow B T k (.slice (some ⟨g, 0, none⟩) n c) n vs := by
  obtain ⟨g', cap, e, h1, h3, h4, h5, h6⟩ := own_hd h (by intro e; injection e with e; cases e)
  injection e with e1 e2 e3
  injection e1 with e1
  injection e1 with e1
  subst e1 e3
  exact hd_own ⟨g, c, rfl, h1, h3, h4, h5, h6.setOther (a := a) ha u⟩
set_option maxHeartbeats 4000000 in
set_option maxRecDepth 100000 in
theorem turned_free (W H K : Int) (A : Option Addr) (c L : Nat) (ss : List Sh) (w : World) (hA : ShAt w A ss) (hL : L = ss.length) (hc : L ≤ c) (hnil : A = none → c = 0) (hW : -9223372036854775808 ≤ W ∧ W ≤ 9223372036854775807) (hH : -9223372036854775808 ≤ H ∧ H ≤ 9223372036854775807) :
    Calls Try.prog 12 #[.agg #[.int .i64 W, .int .i64 H, .int .i64 K, .slice A L c], .bool true] w fun e w' => e = .returned (.bool true) ∧ Below w.heap.size w w' := by
  have hb0 : Below w.heap.size w (w.alloc (.cells #[.int .i64 W, .int .i64 H, .int .i64 K, .slice A L c] 24)) := below_new w (.cells #[.int .i64 W, .int .i64 H, .int .i64 K, .slice A L c] 24)
  have hfw := few_any W H K A c L ss (w.alloc (.cells #[.int .i64 W, .int .i64 H, .int .i64 K, .slice A L c] 24)) (hA.keep hb0) hL hc hnil hW hH
  have HFW := Lib.hid hfw
  have HB0 := Lib.hid hb0
  clear hfw hb0 hA hL hW hH hc hnil
  go_enter Try.func12, Try.ntmps12
  go_upto_region 2 with (go_at_call 16; refine (HFW.out).mono ?_; rintro e w1 ⟨g, cap, rfl, hwg, hnc, hcm, hH, hb1⟩)
  have hpn := @pn_new w _ w1 g cap (cut20 W) (cut20 H) K ss HB0.out hwg hnc hcm hH hb1
  obtain ⟨q, hq⟩ : ∃ q, q = w1.heap.size := ⟨_, rfl⟩
  rw [← hq] at hpn ⊢
  generalize (w1.alloc (.cells #[.int .i64 (cut20 W), .int .i64 (cut20 H), .int .i64 K, .slice (some ⟨g, 0, none⟩) (fewL ss).length cap] 24)) = W1 at *
  generalize cut20 W = X at *
  generalize cut20 H = Y at *
  generalize fewL ss = zs at *
  obtain ⟨n, hn⟩ : ∃ n, n = zs.length := ⟨_, rfl⟩
  rw [← hn] at hpn ⊢
  have HP := Lib.hid hpn
  clear HFW HB0 hq hpn hH hwg hnc hcm hb1 hn
  obtain ⟨p0, p1, p2, p3⟩ := HP.out.cells
  obtain ⟨i0, hi0, hz0, hz1, hz2⟩ := info_parts infoSh
  have hnl : n = zs.length := HP.out.len.1
  have hn17 : n ≤ 17 := HP.out.len.2.1
  have HNL := Lib.hid hnl
  clear hnl
  go_upto_region 3 with (fail)
  have hbn := below_new W1 (.cells #[] 65)
  have ho := own_new W1 65 4
  have HP1 : Hid (PnM w (W1.alloc (.cells #[] 65)) q g n cap X Y K (trn zs 0)) := Lib.hid (by rw [trn_zero]; exact HP.out.keep hbn)
  have hqB : q < W1.heap.size := HP.out.bx.lt
  have hgB : g < W1.heap.size := HP.out.sh.lt
  have hwB : w.heap.size ≤ W1.heap.size := HP.out.bel.size
  have HO := Lib.hid ho
  have HBN := Lib.hid (Nat.le_of_lt (show W1.heap.size < (W1.alloc (.cells #[] 65)).heap.size by simp))
  clear p0 p1 p2 p3 HP ho hbn
  obtain ⟨B, hB⟩ : ∃ B, B = W1.heap.size := ⟨_, rfl⟩
  rw [← hB] at HO HBN hqB hgB hwB ⊢
  clear hB
  generalize W1.alloc (.cells #[] 65) = W2 at *
  go_upto_region 4 with (fail)
  go_loopw [6, 7, 8] (fun v t _ wr => ∃ (m : Nat) (g6 c6 : Nat), m ≤ n ∧ t = .int .i64 (m : Int) ∧ v = .slice (some ⟨g6, 0, none⟩) m c6 ∧ Hid (PnM w wr q g n cap X Y K (trn zs m)) ∧ Hid (wr.ownsRow B 65 4 (.slice (some ⟨g6, 0, none⟩) m c6) m (sc ((zs.take m).map (fun s : Sh => ({ s with t := true } : Sh))))) ∧ B ≤ wr.heap.size) (fun _ t _ _ => n - (intOf t).toNat)
  case atStart => exact ⟨0, B, 0, Nat.zero_le _, rfl, rfl, HP1, HO, HBN.out⟩
  case round =>
    clear HP1 HO HBN
    obtain ⟨m, g6, c6, hmn, rfl, rfl, HP, HO, hBw⟩ := hrel
    obtain ⟨p0, p1, p2, p3⟩ := HP.out.cells
    by_cases hlt : m < n
    · have hlt2 : (m : Int) < (n : Int) := by omega
      have hmz : m < zs.length := by have := HNL.out; omega
      obtain ⟨c0, c1, c2, c3⟩ := HP.out.at_ (m := m) (by rw [trn_len]; exact hmz)
      rw [trn_at hmz] at c0 c1 c2 c3
      have hnx : (zs.take (m + 1)).map (fun s : Sh => ({ s with t := true } : Sh)) = (zs.take m).map (fun s : Sh => ({ s with t := true } : Sh)) ++ [(fun s : Sh => ({ s with t := true } : Sh)) (zs.getD m sh0)] := by
        rw [List.take_succ_eq_append_getElem hmz, List.map_append, List.getD_eq_getElem?_getD, List.getElem?_eq_getElem hmz]; rfl
      have HNX := Lib.hid hnx
      obtain ⟨s, hs⟩ : ∃ s, s = zs.getD m sh0 := ⟨_, rfl⟩
      rw [← hs] at HNX c0 c1 c2 c3
      obtain ⟨sw, sh, sv, st⟩ := s
      have HSD : Hid (zs.getD m sh0 = ⟨sw, sh, sv, st⟩) := Lib.hid hs.symm
      clear hs hnx
      simp only at c0 c1 c2 c3
      have hbn := below_new wr (.cells #[.int .i64 sw, .int .i64 sh, .int .i64 sv, .bool st] 65)
      have HP2 := Lib.hid (HP.out.keep hbn)
      have HO2 := Lib.hid (own_keep HO.out hbn)
      have HQ : Hid (Blk 65 (wr.alloc (.cells #[.int .i64 sw, .int .i64 sh, .int .i64 sv, .bool st] 65)) wr.heap.size (shC ⟨sw, sh, sv, st⟩)) := Lib.hid (Blk.new wr 65 (shC ⟨sw, sh, sv, st⟩))
      have hBn : B ≤ (wr.alloc (.cells #[.int .i64 sw, .int .i64 sh, .int .i64 sv, .bool st] 65)).heap.size := Nat.le_trans hBw hbn.size
      clear hbn
      go_upto_region 7 with (fail)
      obtain ⟨q8, hq8⟩ : ∃ q8, q8 = wr.heap.size := ⟨_, rfl⟩
      rw [← hq8] at HQ ⊢
      clear hq8 c0 c1 c2 c3 p0 p1 p2 p3 HP HO
      generalize wr.alloc (.cells #[.int .i64 sw, .int .i64 sh, .int .i64 sv, .bool st] 65) = V at *
      obtain ⟨p0, p1, p2, p3⟩ := HP2.out.cells
      have hmx : m + 1 ≤ maxLen := by unfold maxLen; omega
      have hby : (m + 1) * 32 ≤ 140737488355328 := by omega
      obtain ⟨c0, c1, c2, c3⟩ := HP2.out.at_ (m := m) (by rw [trn_len]; exact hmz)
      rw [trn_at hmz, HSD.out] at c0 c1 c2 c3
      simp only at c0 c1 c2 c3
      have ff := HP2.out.sh.frozen
      have hgl : (m : Int) < (n : Int) := hlt2
      go_upto_region 9 with (fail)
      have HP3 := Lib.hid (HP2.out.setT hmz)
      have hgO : ∀ k, (Value.slice (some ⟨g6, 0, none⟩) m c6).ownBlock = some k → B ≤ k := own_ge HO2.out
      have HO3 : Hid ((V.setCell ⟨g, m * 4 + 3, none⟩ (.bool true)).ownsRow B 65 4 (.slice (some ⟨g6, 0, none⟩) m c6) m (sc ((zs.take m).map (fun s : Sh => ({ s with t := true } : Sh))))) := Lib.hid (own_far HO2.out (a := ⟨g, m * 4 + 3, none⟩) (by simp only [Value.ownBlock, Option.some.injEq] at hgO; have := hgO g6 rfl; show g6 ≠ g; omega) _)
      have hB3 : B ≤ (V.setCell ⟨g, m * 4 + 3, none⟩ (.bool true)).heap.size := by simpa using hBn
      clear p0 p1 p2 p3 c0 c1 c2 c3 ff HP2 HO2 hgO HQ
      generalize V.setCell ⟨g, m * 4 + 3, none⟩ (.bool true) = V3 at *
      obtain ⟨p0, p1, p2, p3⟩ := HP3.out.cells
      obtain ⟨c0, c1, c2, c3⟩ : V3.cell? ⟨g, m * 4, none⟩ = some (.int .i64 sw) ∧ V3.cell? ⟨g, m * 4 + 1, none⟩ = some (.int .i64 sh) ∧ V3.cell? ⟨g, m * 4 + 2, none⟩ = some (.int .i64 sv) ∧ V3.cell? ⟨g, m * 4 + 3, none⟩ = some (.bool true) := by
        have h := HP3.out.at_ (m := m) (by rw [trn_len]; exact hmz)
        rw [trn_new hmz, HSD.out] at h
        exact h
      have hb4 := below_new V3 (.cells #[.int .i64 sw, .int .i64 sh, .int .i64 sv, .bool true] 65)
      have HO4 := Lib.hid (own_keep HO3.out hb4)
      have HP4 := Lib.hid (HP3.out.keep hb4)
      have HN4 := Lib.hid ((Blk.new V3 65 (shC ⟨sw, sh, sv, true⟩)).vals0)
      have HON := Lib.hid (sc_one [⟨sw, sh, sv, true⟩])
      have hB4 : B ≤ (V3.alloc (.cells #[.int .i64 sw, .int .i64 sh, .int .i64 sv, .bool true] 65)).heap.size := Nat.le_trans hB3 hb4.size
      clear hb4
      go_wp2_with (at_builtin; refine wpList_append_lies _ rfl _ _ 22 rfl B 65 i0 zSh 4 32 Try.underlying22 hi0 hz0 hz1 hz2 rfl (by decide) (.slice (some ⟨g6, 0, none⟩) m c6) m _ rfl HO4.out ⟨V3.heap.size, 0, none⟩ 1 _ (sc [⟨sw, sh, sv, true⟩]) rfl rfl (vals_cells HN4.out) HON.out (by decide) hmx hby hB4 _ rfl ?_; intro g7 c7 w7 hown7 hgr7 hat7 hlt7)
      have hG7 : Below B (V3.alloc (.cells #[.int .i64 sw, .int .i64 sh, .int .i64 sv, .bool true] 65)) w7 := ⟨hgr7.os, hgr7.tape, hgr7.output, hgr7.size, fun k hk => hgr7.block k (by omega) (fun e => by have := own_ge HO4.out k e.symm; omega)⟩
      have HP5 := Lib.hid (HP4.out.belowB hG7 hqB hgB hwB)
      have HO5 : Hid (w7.ownsRow B 65 4 (.slice (some ⟨g7, 0, none⟩) (m + 1) c7) (m + 1) (sc ((zs.take (m + 1)).map (fun s : Sh => ({ s with t := true } : Sh))))) := Lib.hid (by rw [HNX.out, sc_append]; exact hown7)
      have hB5 : B ≤ w7.heap.size := Nat.le_trans hB4 hG7.size
      clear p0 p1 p2 p3 c0 c1 c2 c3 HO4 HP4 HN4 HON hown7 hgr7 hat7 hG7
      go_roundw
      case rel => exact ⟨m + 1, g7, c7, by omega, by go_num, rfl, HP5, HO5, hB5⟩
      case measure => simp [intOf]; omega
    · obtain rfl : m = n := by omega
      have hlt2 : ¬ (m : Int) < (m : Int) := by omega
      have hpz := HP.out
      have hoz := HO.out
      rw [HNL.out, trn_all] at hpz
      rw [HNL.out, List.take_length] at hoz
      rw [← HNL.out] at hpz hoz
      obtain ⟨ts, hts⟩ : ∃ ts, ts = zs.map (fun s : Sh => ({ s with t := true } : Sh)) := ⟨_, rfl⟩
      rw [← hts] at hoz hpz
      have hlt : ts.length = m := by rw [hts, List.length_map, HNL.out]
      obtain ⟨g7, cp7, e7, _, _, _, _, h7⟩ := own_hd hoz (by intro e; injection e with e; cases e)
      obtain ⟨rfl, rfl⟩ : g6 = g7 ∧ c6 = cp7 := by injection e7 with a1 a2 a3; injection a1 with a1; injection a1 with a1; exact ⟨a1, a3⟩
      have HV := Lib.hid (h7.vals)
      have HPZ := Lib.hid hpz
      have hwr : Hid (Below wr.heap.size wr wr) := Lib.hid (Below.refl _ _)
      clear hpz hoz HP HO h7 e7
      clear p0 p1 p2 p3
      obtain ⟨p0, p1, p2, p3⟩ := HPZ.out.cells
      have hsym : okP Y X K ts = okP X Y K ts := by rw [hts]; exact (okP_turn X Y K zs (fun s : Sh => ({ s with t := true } : Sh)) (fun s => rfl)).trans (okP_same X Y K zs (fun s : Sh => ({ s with t := true } : Sh)) (fun s => rfl)).symm
      cases hok : okP X Y K ts with
      | false =>
        have hok2 := hsym.trans hok
        have HB1 := fun V (h : PnM w V q g m cap X Y K ts) => best_bad X Y K (some ⟨g, 0, none⟩) cap m ts V h.sh.vals h.len.1 (by omega) hok
        have HB2 := fun V (h : Below wr.heap.size wr V) => best_bad Y X K (some ⟨g6, 0, none⟩) c6 m ts V (HV.out.keep h) hlt.symm (by omega) hok2
        have HX1 := Lib.hid HB1
        have HX2 := Lib.hid HB2
        clear HB1 HB2 hok hok2 hsym hlt hts
        go_upto_region 12 with (go_at_call 23; refine (HX1.out _ HPZ.out).mono ?_; rintro e w8 ⟨rfl, hb8⟩)
        have HP8 := Lib.hid (HPZ.out.keep hb8)
        clear p0 p1 p2 p3
        obtain ⟨p0, p1, p2, p3⟩ := HP8.out.cells
        go_wp2_with (first | (go_at_call 23; refine (HX2.out _ hb8).mono ?_; rintro e w9 ⟨rfl, hb9⟩) | (go_at_call 20; refine (lives_any _).mono ?_; rintro e w5 ⟨rfl, hb5⟩))
        go_ret
        exact ⟨rfl, below2 (below2 HP8.out.bel hb9) hb5⟩
      | true =>
        have hok2 := hsym.trans hok
        obtain ⟨i, j, k, rfl, rfl, rfl, hi1, hi, hj1, hj, hk, hlen, hoks⟩ := okP_ok hok
        have heq : (best k ts i j).v = (best k ts j i).v := by rw [hts]; exact free_eq k zs i j hi1 hj1
        have HB1 := fun V (h : PnM w V q g m cap i j k ts) => best_val i j k (some ⟨g, 0, none⟩) cap m ts V h.sh.vals h.len.1 (by omega) hok
        have HB2 := fun V (h : Below wr.heap.size wr V) => best_val j i k (some ⟨g6, 0, none⟩) c6 m ts V (HV.out.keep h) hlt.symm (by omega) hok2
        rw [heq] at HB1
        have HX1 := Lib.hid HB1
        have HX2 := Lib.hid HB2
        generalize (best k ts j i).v = bv at *
        clear HB1 HB2 hok hok2 hsym hlt hts heq
        go_upto_region 12 with (go_at_call 23; refine (HX1.out _ HPZ.out).mono ?_; rintro e w8 ⟨v8, rfl, hb8⟩)
        have HP8 := Lib.hid (HPZ.out.keep hb8)
        clear p0 p1 p2 p3
        obtain ⟨p0, p1, p2, p3⟩ := HP8.out.cells
        go_wp2_with (first | (go_at_call 23; refine (HX2.out _ hb8).mono ?_; rintro e w9 ⟨v9, rfl, hb9⟩) | (go_at_call 20; refine (lives_any _).mono ?_; rintro e w5 ⟨rfl, hb5⟩))
        go_ret
        exact ⟨rfl, below2 (below2 HP8.out.bel hb9) hb5⟩
set_option maxHeartbeats 4000000 in
set_option maxRecDepth 100000 in
theorem turned_not (W H K : Int) (A : Option Addr) (c L : Nat) (ss : List Sh) (w : World) (hA : ShAt w A ss) (hL : L = ss.length) (hc : L ≤ c) (hnil : A = none → c = 0) (hW : -9223372036854775808 ≤ W ∧ W ≤ 9223372036854775807) (hH : -9223372036854775808 ≤ H ∧ H ≤ 9223372036854775807) :
    Calls Try.prog 12 #[.agg #[.int .i64 W, .int .i64 H, .int .i64 K, .slice A L c], .bool false] w fun e w' => e = .returned (.bool true) ∧ Below w.heap.size w w' := by
  have hb0 : Below w.heap.size w (w.alloc (.cells #[.int .i64 W, .int .i64 H, .int .i64 K, .slice A L c] 24)) := below_new w (.cells #[.int .i64 W, .int .i64 H, .int .i64 K, .slice A L c] 24)
  have hfw := few_any W H K A c L ss (w.alloc (.cells #[.int .i64 W, .int .i64 H, .int .i64 K, .slice A L c] 24)) (hA.keep hb0) hL hc hnil hW hH
  have HFW := Lib.hid hfw
  have HB0 := Lib.hid hb0
  clear hfw hb0 hA hL hW hH hc hnil
  go_enter Try.func12, Try.ntmps12
  go_upto_region 2 with (go_at_call 16; refine (HFW.out).mono ?_; rintro e w1 ⟨g, cap, rfl, hwg, hnc, hcm, hH, hb1⟩)
  have hpn := @pn_new w _ w1 g cap (cut20 W) (cut20 H) K ss HB0.out hwg hnc hcm hH hb1
  obtain ⟨q, hq⟩ : ∃ q, q = w1.heap.size := ⟨_, rfl⟩
  rw [← hq] at hpn ⊢
  generalize (w1.alloc (.cells #[.int .i64 (cut20 W), .int .i64 (cut20 H), .int .i64 K, .slice (some ⟨g, 0, none⟩) (fewL ss).length cap] 24)) = W1 at *
  generalize cut20 W = X at *
  generalize cut20 H = Y at *
  generalize fewL ss = zs at *
  obtain ⟨n, hn⟩ : ∃ n, n = zs.length := ⟨_, rfl⟩
  rw [← hn] at hpn ⊢
  have HP := Lib.hid hpn
  clear HFW HB0 hq hpn hH hwg hnc hcm hb1 hn
  obtain ⟨p0, p1, p2, p3⟩ := HP.out.cells
  obtain ⟨i0, hi0, hz0, hz1, hz2⟩ := info_parts infoSh
  have hnl : n = zs.length := HP.out.len.1
  have hn17 : n ≤ 17 := HP.out.len.2.1
  have HNL := Lib.hid hnl
  clear hnl
  go_upto_region 3 with (fail)
  have hbn := below_new W1 (.cells #[] 65)
  have ho := own_new W1 65 4
  have HP1 : Hid (PnM w (W1.alloc (.cells #[] 65)) q g n cap X Y K zs) := Lib.hid (HP.out.keep hbn)
  have hqB : q < W1.heap.size := HP.out.bx.lt
  have hgB : g < W1.heap.size := HP.out.sh.lt
  have hwB : w.heap.size ≤ W1.heap.size := HP.out.bel.size
  have HO := Lib.hid ho
  have HBN := Lib.hid (Nat.le_of_lt (show W1.heap.size < (W1.alloc (.cells #[] 65)).heap.size by simp))
  clear p0 p1 p2 p3 HP ho hbn
  obtain ⟨B, hB⟩ : ∃ B, B = W1.heap.size := ⟨_, rfl⟩
  rw [← hB] at HO HBN hqB hgB hwB ⊢
  clear hB
  generalize W1.alloc (.cells #[] 65) = W2 at *
  go_upto_region 4 with (fail)
  go_loopw [6, 7, 8] (fun v t _ wr => ∃ (m : Nat) (g6 c6 : Nat), m ≤ n ∧ t = .int .i64 (m : Int) ∧ v = .slice (some ⟨g6, 0, none⟩) m c6 ∧ Hid (PnM w wr q g n cap X Y K (zs)) ∧ Hid (wr.ownsRow B 65 4 (.slice (some ⟨g6, 0, none⟩) m c6) m (sc ((zs.take m).map (fun s : Sh => (⟨s.h, s.w, s.v, s.t⟩ : Sh))))) ∧ B ≤ wr.heap.size) (fun _ t _ _ => n - (intOf t).toNat)
  case atStart => exact ⟨0, B, 0, Nat.zero_le _, rfl, rfl, HP1, HO, HBN.out⟩
  case round =>
    clear HP1 HO HBN
    obtain ⟨m, g6, c6, hmn, rfl, rfl, HP, HO, hBw⟩ := hrel
    obtain ⟨p0, p1, p2, p3⟩ := HP.out.cells
    by_cases hlt : m < n
    · have hlt2 : (m : Int) < (n : Int) := by omega
      have hmz : m < zs.length := by have := HNL.out; omega
      obtain ⟨c0, c1, c2, c3⟩ := HP.out.at_ (m := m) (by exact hmz)
      skip
      have hnx : (zs.take (m + 1)).map (fun s : Sh => (⟨s.h, s.w, s.v, s.t⟩ : Sh)) = (zs.take m).map (fun s : Sh => (⟨s.h, s.w, s.v, s.t⟩ : Sh)) ++ [(fun s : Sh => (⟨s.h, s.w, s.v, s.t⟩ : Sh)) (zs.getD m sh0)] := by
        rw [List.take_succ_eq_append_getElem hmz, List.map_append, List.getD_eq_getElem?_getD, List.getElem?_eq_getElem hmz]; rfl
      have HNX := Lib.hid hnx
      obtain ⟨s, hs⟩ : ∃ s, s = zs.getD m sh0 := ⟨_, rfl⟩
      rw [← hs] at HNX c0 c1 c2 c3
      clear hs hnx
      obtain ⟨sw, sh, sv, st⟩ := s
      simp only at c0 c1 c2 c3
      have hbn := below_new wr (.cells #[.int .i64 sw, .int .i64 sh, .int .i64 sv, .bool st] 65)
      have HP2 := Lib.hid (HP.out.keep hbn)
      have HO2 := Lib.hid (own_keep HO.out hbn)
      have HQ : Hid (Blk 65 (wr.alloc (.cells #[.int .i64 sw, .int .i64 sh, .int .i64 sv, .bool st] 65)) wr.heap.size (shC ⟨sw, sh, sv, st⟩)) := Lib.hid (Blk.new wr 65 (shC ⟨sw, sh, sv, st⟩))
      have hBn : B ≤ (wr.alloc (.cells #[.int .i64 sw, .int .i64 sh, .int .i64 sv, .bool st] 65)).heap.size := Nat.le_trans hBw hbn.size
      clear hbn
      go_upto_region 7 with (fail)
      obtain ⟨q8, hq8⟩ : ∃ q8, q8 = wr.heap.size := ⟨_, rfl⟩
      rw [← hq8] at HQ ⊢
      clear hq8 c0 c1 c2 c3 p0 p1 p2 p3 HP HO
      generalize wr.alloc (.cells #[.int .i64 sw, .int .i64 sh, .int .i64 sv, .bool st] 65) = V at *
      obtain ⟨p0, p1, p2, p3⟩ := HP2.out.cells
      have hmx : m + 1 ≤ maxLen := by unfold maxLen; omega
      have hby : (m + 1) * 32 ≤ 140737488355328 := by omega
      have s0 := HQ.out.cell 0
      have s1 := HQ.out.cell 1
      have s2 := HQ.out.cell 2
      have s3 := HQ.out.cell 3
      simp only [shC, List.getElem?_cons_zero, List.getElem?_cons_succ] at s0 s1 s2 s3
      have hb4 := below_new V (.cells #[.int .i64 sh, .int .i64 sw, .int .i64 sv, .bool st] 65)
      have HO4 := Lib.hid (own_keep HO2.out hb4)
      have HP4 := Lib.hid (HP2.out.keep hb4)
      have HN4 := Lib.hid ((Blk.new V 65 (shC ⟨sh, sw, sv, st⟩)).vals0)
      have HON := Lib.hid (sc_one [⟨sh, sw, sv, st⟩])
      have hB4 : B ≤ (V.alloc (.cells #[.int .i64 sh, .int .i64 sw, .int .i64 sv, .bool st] 65)).heap.size := Nat.le_trans hBn hb4.size
      clear hb4
      go_wp2_with (at_builtin; refine wpList_append_lies _ rfl _ _ 22 rfl B 65 i0 zSh 4 32 Try.underlying22 hi0 hz0 hz1 hz2 rfl (by decide) (.slice (some ⟨g6, 0, none⟩) m c6) m _ rfl HO4.out ⟨V.heap.size, 0, none⟩ 1 _ (sc [⟨sh, sw, sv, st⟩]) rfl rfl (vals_cells HN4.out) HON.out (by decide) hmx hby hB4 _ rfl ?_; intro g7 c7 w7 hown7 hgr7 hat7 hlt7)
      have hG7 : Below B (V.alloc (.cells #[.int .i64 sh, .int .i64 sw, .int .i64 sv, .bool st] 65)) w7 := ⟨hgr7.os, hgr7.tape, hgr7.output, hgr7.size, fun k hk => hgr7.block k (by omega) (fun e => by have := own_ge HO4.out k e.symm; omega)⟩
      have HP5 := Lib.hid (HP4.out.belowB hG7 hqB hgB hwB)
      have HO5 : Hid (w7.ownsRow B 65 4 (.slice (some ⟨g7, 0, none⟩) (m + 1) c7) (m + 1) (sc ((zs.take (m + 1)).map (fun s : Sh => (⟨s.h, s.w, s.v, s.t⟩ : Sh))))) := Lib.hid (by rw [HNX.out, sc_append]; exact hown7)
      have hB5 : B ≤ w7.heap.size := Nat.le_trans hB4 hG7.size
      clear p0 p1 p2 p3 s0 s1 s2 s3 HO4 HP4 HN4 HON hown7 hgr7 hat7 hG7
      go_roundw
      case rel => exact ⟨m + 1, g7, c7, by omega, by go_num, rfl, HP5, HO5, hB5⟩
      case measure => simp [intOf]; omega
    · obtain rfl : m = n := by omega
      have hlt2 : ¬ (m : Int) < (m : Int) := by omega
      have hpz := HP.out
      have hoz := HO.out
      rw [HNL.out, List.take_length] at hoz
      rw [← HNL.out] at hoz
      obtain ⟨ts, hts⟩ : ∃ ts, ts = zs.map (fun s : Sh => (⟨s.h, s.w, s.v, s.t⟩ : Sh)) := ⟨_, rfl⟩
      rw [← hts] at hoz
      have hlt : ts.length = m := by rw [hts, List.length_map, HNL.out]
      obtain ⟨g7, cp7, e7, _, _, _, _, h7⟩ := own_hd hoz (by intro e; injection e with e; cases e)
      obtain ⟨rfl, rfl⟩ : g6 = g7 ∧ c6 = cp7 := by injection e7 with a1 a2 a3; injection a1 with a1; injection a1 with a1; exact ⟨a1, a3⟩
      have HV := Lib.hid (h7.vals)
      have HQZ := Lib.hid hpz
      have hwr : Hid (Below wr.heap.size wr wr) := Lib.hid (Below.refl _ _)
      clear hpz hoz HP HO h7 e7
      clear p0 p1 p2 p3
      obtain ⟨p0, p1, p2, p3⟩ := HQZ.out.cells
      have hsym : okP Y X K ts = okP X Y K zs := by rw [hts]; exact okP_turn X Y K zs _ okB_turn
      cases hok : okP X Y K zs with
      | false =>
        have hok2 := hsym.trans hok
        have HB1 := fun V (h : PnM w V q g m cap X Y K zs) => best_bad X Y K (some ⟨g, 0, none⟩) cap m zs V h.sh.vals h.len.1 (by omega) hok
        have HB2 := fun V (h : Below wr.heap.size wr V) => best_bad Y X K (some ⟨g6, 0, none⟩) c6 m ts V (HV.out.keep h) hlt.symm (by omega) hok2
        have HX1 := Lib.hid HB1
        have HX2 := Lib.hid HB2
        clear HB1 HB2 hok hok2 hsym hlt hts
        go_upto_region 12 with (go_at_call 23; refine (HX1.out _ HQZ.out).mono ?_; rintro e w8 ⟨rfl, hb8⟩)
        have HP8 := Lib.hid (HQZ.out.keep hb8)
        clear p0 p1 p2 p3
        obtain ⟨p0, p1, p2, p3⟩ := HP8.out.cells
        go_wp2_with (first | (go_at_call 23; refine (HX2.out _ hb8).mono ?_; rintro e w9 ⟨rfl, hb9⟩) | (go_at_call 20; refine (lives_any _).mono ?_; rintro e w5 ⟨rfl, hb5⟩))
        go_ret
        exact ⟨rfl, below2 (below2 HP8.out.bel hb9) hb5⟩
      | true =>
        have hok2 := hsym.trans hok
        obtain ⟨i, j, k, rfl, rfl, rfl, hi1, hi, hj1, hj, hk, hlen, hoks⟩ := okP_ok hok
        have heq : (best k zs i j).v = (best k ts j i).v := by rw [hts]; exact turn_eq k zs i j hi1 hj1
        have HB1 := fun V (h : PnM w V q g m cap i j k zs) => best_val i j k (some ⟨g, 0, none⟩) cap m zs V h.sh.vals h.len.1 (by omega) hok
        have HB2 := fun V (h : Below wr.heap.size wr V) => best_val j i k (some ⟨g6, 0, none⟩) c6 m ts V (HV.out.keep h) hlt.symm (by omega) hok2
        rw [heq] at HB1
        have HX1 := Lib.hid HB1
        have HX2 := Lib.hid HB2
        generalize (best k ts j i).v = bv at *
        clear HB1 HB2 hok hok2 hsym hlt hts heq
        go_upto_region 12 with (go_at_call 23; refine (HX1.out _ HQZ.out).mono ?_; rintro e w8 ⟨v8, rfl, hb8⟩)
        have HP8 := Lib.hid (HQZ.out.keep hb8)
        clear p0 p1 p2 p3
        obtain ⟨p0, p1, p2, p3⟩ := HP8.out.cells
        go_wp2_with (first | (go_at_call 23; refine (HX2.out _ hb8).mono ?_; rintro e w9 ⟨v9, rfl, hb9⟩) | (go_at_call 20; refine (lives_any _).mono ?_; rintro e w5 ⟨rfl, hb5⟩))
        go_ret
        exact ⟨rfl, below2 (below2 HP8.out.bel hb9) hb5⟩
end Go.Proofs.Ytkfjlgjncaddpaa
