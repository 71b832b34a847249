/- The reference's plan. -/
import Derived.Test.YtkfjlgjncaddpaaRpl
import Derived.Test.YtkfjlgjncaddpaaWRcc
import Derived.Laws.AppendOwnNone
import Derived.Deep.Cut
import Derived.BigQuiet
namespace Go.Proofs.Ytkfjlgjncaddpaa
open Go.RowKit

def RplPost (l : List Cu) (w : World) (e : Ending) (w' : World) : Prop :=
  Below w.heap.size w w' ∧ ((l = [] ∧ e = .returned (.slice none 0 0)) ∨ ∃ g cap, e = .returned (.slice (some ⟨g, 0, none⟩) l.length cap) ∧ 0 < l.length ∧ CuAt w' (some ⟨g, 0, none⟩) l ∧ g < w'.heap.size)
theorem refPlan_empty (g n ct : Nat) (a b : Int) (kerf : Nat) (A : Option Addr) (L cp : Nat) (w : World) (e : a < 1 ∨ b < 1) :
    Calls Try.prog 45 #[.slice (some ⟨g, 0, none⟩) n ct, .int .i64 a, .int .i64 b, .int .i64 (kerf : Int), .slice A L cp] w (RplPost [] w) := by
  by_cases h : a < 1
  · have hd : decide (a < 1) = true := by simpa using h
    go_enter Try.func45, Try.ntmps45
    go_wp2
    go_ret
    exact ⟨Below.refl _ _, .inl ⟨rfl, rfl⟩⟩
  · have hd : decide (a < 1) = false := by simpa using h
    have hd2 : decide (b < 1) = true := by simp; omega
    go_enter Try.func45, Try.ntmps45
    go_wp2
    go_ret
    exact ⟨Below.refl _ _, .inl ⟨rfl, rfl⟩⟩
set_option maxHeartbeats 8000000 in
set_option maxRecDepth 100000 in
theorem refPlan_any (g n ct H : Nat) (gs : Nat → Nat) (C : Nat → Nat → Int) (kerf : Nat) (A : Option Addr) (L cp : Nat) (ss : List Sh) (hL : L = ss.length) (hL16 : L ≤ 16) (hok : OkS ss) (hn : n ≤ 64) (hH : H ≤ 64) (hk : kerf ≤ 8)
    (hC : ∀ a b, a < n → b < H → C a b = (best kerf ss (a + 1) (b + 1)).v) :
    ∀ (d : Nat) (a b : Int) (w : World), a.toNat + b.toNat ≤ d → a ≤ n → b ≤ H → -100 ≤ a → -100 ≤ b → TbR w g n H gs C → ShAt w A ss →
      Calls Try.prog 45 #[.slice (some ⟨g, 0, none⟩) n ct, .int .i64 a, .int .i64 b, .int .i64 (kerf : Int), .slice A L cp] w (RplPost (planN kerf ss d a b) w) := by
  obtain ⟨i0, hi0, hz0, hz1, hz2⟩ := info_parts infoCut
  intro d
  induction d with
  | zero =>
    intro a b w hd _ _ _ _ _ _
    exact refPlan_empty g n ct a b kerf A L cp w (by omega)
  | succ d ih =>
    intro a b w hd ha hb ha2 hb2 ht hA
    by_cases e : a < 1 ∨ b < 1
    · rw [planN_empty e]
      exact refPlan_empty g n ct a b kerf A L cp w e
    · obtain ⟨i, rfl⟩ : ∃ i : Nat, a = (i : Int) := ⟨a.toNat, by omega⟩
      obtain ⟨j, rfl⟩ : ∃ j : Nat, b = (j : Int) := ⟨b.toNat, by omega⟩
      have hi1 : 1 ≤ i := by omega
      have hj1 : 1 ≤ j := by omega
      have hin : i ≤ n := by omega
      have hjH : j ≤ H := by omega
      have hcu := refCuts_any g n ct H gs C i j kerf A L cp ss w ht hA hL hL16 hok hin hjH hn hH hi1 hj1 hk (fun a b h1 h2 _ => by rw [pc_best hC (by omega) (by omega)]; exact pv_big hok kerf a b (by omega) (by omega))
      rw [offs_best hC hin hjH] at hcu
      obtain ⟨k0, hk0, hkv, hkf⟩ := first_best kerf ss i j
      have hln : (cho0 :: offs (best kerf ss) kerf ss i j).length ≤ 1000 := by
        have := refL_len (best kerf ss) kerf ss i j hi1 hj1
        rw [refL_eq] at this
        omega
      have HPA := Lib.hid (@planN_at kerf ss d i j hi1 hj1 _ _ rfl rfl)
      have HBC := Lib.hid (best_cut kerf ss i j)
      have hcv : C (i - 1) (j - 1) = (best kerf ss i j).v := by rw [hC _ _ (by omega) (by omega), show i - 1 + 1 = i by omega, show j - 1 + 1 = j by omega]
      obtain ⟨l, hl⟩ : ∃ l, l = cho0 :: offs (best kerf ss) kerf ss i j := ⟨_, rfl⟩
      rw [← hl] at hcu hk0 hkv hkf hln
      have HCU := Lib.hid hcu
      have HKV := Lib.hid hkv
      have HKF := Lib.hid hkf
      have HIH := Lib.hid ih
      have HT := Lib.hid ht
      have HA := Lib.hid hA
      have HCV := Lib.hid hcv
      obtain ⟨N, hN⟩ : ∃ N, N = l.length := ⟨_, rfl⟩
      unfold CutsPost at HCU
      rw [← hN] at HCU hk0 hln
      have HN := Lib.hid hN
      have hd1 : decide ((i : Int) < 1) = false := by simp; omega
      have hd2 : decide ((j : Int) < 1) = false := by simp; omega
      have HD := Lib.hid hd
      have HLN := Lib.hid hL
      have HCC := Lib.hid hC
      have HOK := Lib.hid hok
      obtain ⟨B, hB⟩ : ∃ B, B = w.heap.size := ⟨_, rfl⟩
      have HB := Lib.hid hB
      clear hcu hkv hkf ih ht hA hcv hN hl e hL hB hd hC hok
      go_enter Try.func45, Try.ntmps45
      go_upto_region 4 with (go_at_call 43; (with_reducible refine (HCU.out).mono ?_); rintro e w2 ⟨g1, c1, g2, c2, rfl, hcc, hii, hb2, hge1, hge2⟩)
      have HT2 := Lib.hid (HT.out.keep hb2)
      have HA2 := Lib.hid (HA.out.keep hb2)
      have HW2 := Lib.hid hcc
      have HI2 := Lib.hid hii
      have HB2 := Lib.hid hb2
      clear hcc hii hb2 hge1 hge2 HCU HT HA
      have hwi : ((i : Nat) : Int) - 1 = ((i - 1 : Nat) : Int) := by omega
      have hwj : ((j : Nat) : Int) - 1 = ((j - 1 : Nat) : Int) := by omega
      have sp := HT2.out.sp (i - 1) (by omega)
      have sr := HT2.out.row (i - 1) (j - 1) (by omega) (by omega)
      rw [HCV.out] at sr
      generalize hbv : (best kerf ss i j).v = bv at *
      go_upto_region 5 with (fail)
      go_loopw [13] (fun t wr => ∃ z y : Nat, z ≤ k0 ∧ t = .int .i64 (z : Int) ∧ wr = w2.drewN y) (fun t _ => k0 - (intOf t).toNat)
      case atStart => exact ⟨0, 0, Nat.zero_le _, rfl, rfl⟩
      case round =>
        obtain ⟨z, y, hz, rfl, rfl⟩ := hrel
        have hzN : (z : Int) < (N : Int) := by omega
        have sp' : (w2.drewN y).cell? ⟨g, i - 1, none⟩ = some (.slice (some ⟨gs (i - 1), 0, none⟩) H H) := sp
        have sr' : (w2.drewN y).cell? ⟨gs (i - 1), j - 1, none⟩ = some (.int .i64 bv) := sr
        obtain ⟨g', off', x', e', hg', hx', co⟩ := Ints.at_ HI2.out (i := z) (by have := HN.out; simp; omega)
        injection e' with e'
        injection e' with e1 e2
        subst e1 e2
        have hxx : x' = (l.getD z cho0).v := by
          rw [List.getElem?_map, List.getElem?_eq_getElem (by have := HN.out; omega)] at hx'
          injection hx' with hx'
          rw [← hx', List.getD_eq_getElem?_getD, List.getElem?_eq_getElem (by have := HN.out; omega)]; rfl
        rw [Nat.zero_add] at co
        have co' : (w2.drewN y).cell? ⟨g2, z, none⟩ = some (.int .i64 x') := co
        have hzi : i - 1 < n := by omega
        have hzj : j - 1 < H := by omega
        by_cases hlt : z < k0
        · have hne := HKF.out z hlt
          rw [← hxx] at hne
          have hd3 : (x' != bv) = true := by simpa using hne
          clear hxx hx' hg'
          go_wp2_with (fail)
          go_quiet (fail)
          go_wp2_with (fail)
          go_roundw
          case rel => exact ⟨z + 1, _, by omega, by go_num, rfl⟩
          case measure => simp [intOf]; omega
        · obtain rfl : z = k0 := by omega
          have hxv : x' = bv := by rw [hxx, HKV.out, hbv]
          subst hxv
          have hd3 : (x' != x') = false := by simp
          clear hxx hx' hg'
          go_wp2_with (fail)
          go_quiet (fail)
          go_upto_region 7 with (fail)
          obtain ⟨V, hV⟩ : ∃ V, V = (w2.drewN y).drewN nq := ⟨_, rfl⟩
          have hvl : ((l.map fun c => (⟨c.k, c.a⟩ : Cu)).getD z cu0) = ⟨(best kerf ss i j).k, (best kerf ss i j).a⟩ := by
            rw [List.getD_eq_getElem?_getD, List.getElem?_map, List.getElem?_eq_getElem (by have := HN.out; omega)]
            have := HKV.out
            rw [List.getD_eq_getElem?_getD, List.getElem?_eq_getElem (by have := HN.out; omega)] at this
            simp only [Option.getD_some] at this
            simp [this]
          obtain ⟨ck, hck⟩ : ∃ ck, ck = (best kerf ss i j).k := ⟨_, rfl⟩
          obtain ⟨ca, hca⟩ : ∃ ca, ca = (best kerf ss i j).a := ⟨_, rfl⟩
          rw [← hck, ← hca] at hvl HPA
          have HCK := Lib.hid hck
          have HCA := Lib.hid hca
          obtain ⟨g', off', e', hgW, q0, q1⟩ := CuAt.at_ HW2.out (i := z) (by have := HN.out; simp; omega)
          injection e' with e'
          injection e' with e1 e2
          subst e1 e2
          rw [hvl, Nat.zero_add] at q0 q1
          simp only at q0 q1
          have HTV : Hid (TbR V g n H gs C) := Lib.hid (by rw [hV]; exact HT2.out.keep (below_drewN (below_drewN (Below.refl _ _) y) nq))
          have HAV : Hid (ShAt V A ss) := Lib.hid (by rw [hV]; exact HA2.out.keep (below_drewN (below_drewN (Below.refl _ _) y) nq))
          have v0 : V.cell? ⟨g1, z * 2, none⟩ = some (.int .i64 ck) := by rw [hV]; exact q0
          have v1 : V.cell? ⟨g1, z * 2 + 1, none⟩ = some (.int .i64 ca) := by rw [hV]; exact q1
          have hgV : g1 < V.heap.size := by rw [hV]; exact hgW
          have HBV : Hid (Below w.heap.size w V) := Lib.hid (by rw [hV]; exact below_drewN (below_drewN HB2.out y) nq)
          rw [← hV]
          clear hV hvl hck hca q0 q1 hgW sp sr sp' sr' co co' hd3 HT2 HA2 HW2 HI2 HB2 HKV HKF
          have hbn := below_new V (.cells #[.int .i64 ck, .int .i64 ca] 73)
          have HN1 : Hid (Blk 73 (V.alloc (.cells #[.int .i64 ck, .int .i64 ca] 73)) V.heap.size (cc [⟨ck, ca⟩])) := Lib.hid (Blk.new V 73 [.int .i64 ck, .int .i64 ca])
          have HO1 : Hid ((V.alloc (.cells #[.int .i64 ck, .int .i64 ca] 73)).ownsRow V.heap.size 73 2 (.slice (some ⟨V.heap.size, 0, none⟩) 1 1) 1 (cc [⟨ck, ca⟩])) := Lib.hid (hd_own ⟨V.heap.size, 1, rfl, Nat.le_refl _, Nat.le_refl _, by unfold maxLen; omega, rfl, [], rfl, by simpa using HN1.out⟩)
          have HB1 := Lib.hid hbn
          have v0' := (hbn.cell (p := ⟨g1, z * 2, none⟩) hgV).trans v0
          have v1' := (hbn.cell (p := ⟨g1, z * 2 + 1, none⟩) hgV).trans v1
          clear hbn
          go_upto_region 8 with (fail)
          obtain ⟨BV, hBV⟩ : ∃ BV, BV = V.heap.size := ⟨_, rfl⟩
          rw [← hBV] at HN1 HO1 HB1 hgV ⊢
          have HBE := Lib.hid hBV
          have VV0' := Lib.hid v0
          have VV1' := Lib.hid v1
          clear hBV v0 v1
          generalize V.alloc (.cells #[.int .i64 ck, .int .i64 ca] 73) = W1 at *
          have hBW : BV < W1.heap.size := HN1.out.lt
          rcases HBC.out with h | ⟨s, _, _, _, ⟨h, _⟩ | ⟨h, _⟩⟩ | ⟨s, hs1, hs2, h⟩ | ⟨s, hs1, hs2, h⟩
          · have hk : ck = 0 := by rw [HCK.out, h]; rfl
            have HK := Lib.hid hk
            have d3 : (ck == 3) = false := by rw [hk]; rfl
            have d4 : (ck == 4) = false := by rw [hk]; rfl
            clear h hk
            go_wp2_with (fail)
            go_ret
            rw [HPA.out, HK.out, if_neg (by omega), if_neg (by omega)]
            refine ⟨HBV.out.trans (HB1.out.mono (by rw [HBE.out]; exact HBV.out.size)), .inr ⟨BV, 1, rfl, by simp, ?_, hBW⟩⟩
            have := HN1.out.vals0
            rw [HK.out] at this
            exact this
          · have hk : ck = 1 := by rw [HCK.out, h]
            have HK := Lib.hid hk
            have d3 : (ck == 3) = false := by rw [hk]; rfl
            have d4 : (ck == 4) = false := by rw [hk]; rfl
            clear h hk
            go_wp2_with (fail)
            go_ret
            rw [HPA.out, HK.out, if_neg (by omega), if_neg (by omega)]
            refine ⟨HBV.out.trans (HB1.out.mono (by rw [HBE.out]; exact HBV.out.size)), .inr ⟨BV, 1, rfl, by simp, ?_, hBW⟩⟩
            have := HN1.out.vals0
            rw [HK.out] at this
            exact this
          · have hk : ck = 2 := by rw [HCK.out, h]
            have HK := Lib.hid hk
            have d3 : (ck == 3) = false := by rw [hk]; rfl
            have d4 : (ck == 4) = false := by rw [hk]; rfl
            clear h hk
            go_wp2_with (fail)
            go_ret
            rw [HPA.out, HK.out, if_neg (by omega), if_neg (by omega)]
            refine ⟨HBV.out.trans (HB1.out.mono (by rw [HBE.out]; exact HBV.out.size)), .inr ⟨BV, 1, rfl, by simp, ?_, hBW⟩⟩
            have := HN1.out.vals0
            rw [HK.out] at this
            exact this
          · have HK : Hid (ck = 3) := Lib.hid (by rw [HCK.out, h])
            have hcs : ca = (s : Int) := by rw [HCA.out, h]
            have HCS := Lib.hid hcs
            subst hcs
            have d3 : (ck == 3) = true := by rw [HK.out]; rfl
            have d4 : (ck == 4) = false := by rw [HK.out]; rfl
            have hpl : 0 < (planN kerf ss d s j).length := planN_pos (kerf := kerf) (ss := ss) (n := d) hs1 hj1 (by have := HD.out; omega)
            have hp1 := HIH.out (s : Int) (j : Int) W1 (by have := HD.out; omega) (by omega) (by omega) (by omega) (by omega) (HTV.out.keep (HBE.out ▸ HB1.out)) (HAV.out.keep (HBE.out ▸ HB1.out))
            obtain ⟨P1, hP1⟩ : ∃ P1, P1 = planN kerf ss d s j := ⟨_, rfl⟩
            rw [← hP1] at hpl
            have hp1' : Calls Try.prog 45 #[.slice (some ⟨g, 0, none⟩) n ct, .int .i64 (s : Int), .int .i64 (j : Int), .int .i64 (kerf : Int), .slice A L cp] W1 fun e w' => ∃ g3 c3, e = .returned (.slice (some ⟨g3, 0, none⟩) P1.length c3) ∧ CuAt w' (some ⟨g3, 0, none⟩) P1 ∧ Below W1.heap.size W1 w' := hp1.mono fun e w' ⟨hb, h1⟩ => by
              rw [← hP1] at h1
              rcases h1 with ⟨h2, _⟩ | ⟨g3, c3, h2, _, h3, _⟩
              · rw [h2] at hpl; simp at hpl
              · exact ⟨g3, c3, h2, h3, hb⟩
            have HP1 := Lib.hid hp1'
            have HPE := Lib.hid hP1
            have hP1l : P1.length ≤ 100000 := by
              have := planN_len kerf ss d s j (by omega) (by omega)
              have h4 : (s : Int) * j ≤ 64 * 64 := Int.mul_le_mul (by omega) (by omega) (by omega) (by omega)
              rw [hP1]; omega
            have hmx : 1 + P1.length ≤ maxLen := by unfold maxLen; omega
            have hby : (1 + P1.length) * 16 ≤ 140737488355328 := by omega
            have x1 : IntKind.i64.wrap ((i : Int) - (s : Int)) = (i : Int) - (s : Int) := wrapI (by omega) (by omega)
            have x2 : IntKind.i64.wrap ((i : Int) - (s : Int) - (kerf : Int)) = (i : Int) - (s : Int) - (kerf : Int) := wrapI (by omega) (by omega)
            have hone1 := Lib.hid (cc_one P1)
            have hlen1 := Lib.hid (cc_len P1)
            clear h hp1 hp1' hP1
            go_upto_region 10 with (first
              | (go_at_call 45; (with_reducible refine (HP1.out).mono ?_); rintro e w5 ⟨g3, c3, rfl, hp3, hb5⟩; have HO5 := Lib.hid (own_keep HO1.out hb5))
              | (at_builtin; refine wpList_append_lies _ rfl _ _ 36 rfl BV 73 i0 zCut 2 16 Try.underlying36 hi0 hz0 hz1 hz2 rfl (by decide) (.slice (some ⟨BV, 0, none⟩) 1 1) 1 (cc [⟨ck, (s : Int)⟩]) rfl HO5.out ⟨g3, 0, none⟩ P1.length c3 (cc P1) rfl hlen1.out (vals_cells hp3) hone1.out hpl hmx hby (Nat.le_trans (Nat.le_of_lt hBW) hb5.size) _ rfl ?_; intro g6 c6 w6 hown6 hgr6 hat6 hlt6))
            have hb6 : Below BV V w6 := (HB1.out.trans (hb5.mono (Nat.le_of_lt hBW))).grown hgr6 (Nat.le_trans (Nat.le_of_lt hBW) hb5.size) (own_ge HO5.out)
            have hsz6 : BV ≤ w6.heap.size := Nat.le_trans (Nat.le_trans (Nat.le_of_lt hBW) hb5.size) hgr6.size
            have HB6 := Lib.hid hb6
            have HO6 : Hid (w6.ownsRow BV 73 2 (.slice (some ⟨g6, 0, none⟩) (1 + P1.length) c6) (1 + P1.length) (cc (⟨ck, (s : Int)⟩ :: P1))) := Lib.hid (by
              rw [show (⟨ck, (s : Int)⟩ :: P1 : List Cu) = [⟨ck, (s : Int)⟩] ++ P1 from rfl, cc_append]
              exact hown6)
            have HT6 := Lib.hid (HTV.out.keep (HBE.out ▸ hb6))
            have HA6 := Lib.hid (HAV.out.keep (HBE.out ▸ hb6))
            have v0'' : w6.cell? ⟨g1, z * 2, none⟩ = some (.int .i64 ck) := (hb6.cell (p := ⟨g1, z * 2, none⟩) hgV).trans VV0'.out
            have v1'' : w6.cell? ⟨g1, z * 2 + 1, none⟩ = some (.int .i64 (s : Int)) := (hb6.cell (p := ⟨g1, z * 2 + 1, none⟩) hgV).trans VV1'.out
            have hp2 := HIH.out ((i : Int) - (s : Int) - (kerf : Int)) (j : Int) w6 (by have := HD.out; omega) (by omega) (by omega) (by omega) (by omega) HT6.out HA6.out
            clear hown6 hgr6 hat6 hp3 hb5 HO5 HP1 HO1 HN1 HB1 hb6 HIH HTV HAV HT6 HA6 hone1 hlen1 hmx hby
            by_cases hem : (i : Int) - (s : Int) - (kerf : Int) < 1
            · rw [planN_empty (.inl hem)] at hp2
              have HP2 : Hid (Calls Try.prog 45 #[.slice (some ⟨g, 0, none⟩) n ct, .int .i64 ((i : Int) - (s : Int) - (kerf : Int)), .int .i64 (j : Int), .int .i64 (kerf : Int), .slice A L cp] w6 fun e w' => e = .returned (.slice none 0 0) ∧ Below w6.heap.size w6 w') := Lib.hid (hp2.mono fun e w' ⟨hb, h1⟩ => by
                rcases h1 with ⟨_, h2⟩ | ⟨g3, c3, h2, h3, _⟩
                · exact ⟨h2, hb⟩
                · simp at h3)
              clear hp2
              go_wp2_with (first
                | (go_at_call 45; (with_reducible refine (HP2.out).mono ?_); rintro e w7 ⟨rfl, hb7⟩; have HO7 := Lib.hid (own_keep HO6.out hb7); have y0 : w7.cell? ⟨g1, z * 2, none⟩ = some (.int .i64 ck) := ((HB6.out.trans (hb7.mono hsz6)).cell (p := ⟨g1, z * 2, none⟩) hgV).trans VV0'.out)
                | (at_builtin; refine wpList_append_own_none rfl _ _ 36 rfl BV 73 i0 2 Try.underlying36 hi0 _ _ _ rfl HO7.out rfl ?_))
              go_ret
              rw [HPA.out, HK.out, if_pos rfl]
              rw [show (i : Int) - ((s : Int) + kerf) = (i : Int) - (s : Int) - (kerf : Int) by omega, planN_empty (.inl hem), List.append_nil, ← HPE.out]
              have hbf := (HB6.out.trans (hb7.mono hsz6)).mono (show w.heap.size ≤ BV by rw [HBE.out]; exact HBV.out.size)
              have hf := HO7.out
              rw [HK.out] at hf
              have hg6 := own_ltS hf g6 rfl
              exact ⟨HBV.out.trans hbf, .inr ⟨g6, c6, by simp [Nat.add_comm], by simp, own_valsR hf, hg6⟩⟩
            · obtain ⟨P2, hP2⟩ : ∃ P2, P2 = planN kerf ss d ((i : Int) - (s : Int) - (kerf : Int)) (j : Int) := ⟨_, rfl⟩
              have hP2p : 0 < P2.length := by
                rw [hP2]
                have := planN_pos (kerf := kerf) (ss := ss) (n := d) (i := (((i : Int) - (s : Int) - (kerf : Int)).toNat)) (j := j) (by omega) (by omega) (by have := HD.out; omega)
                rw [Int.toNat_of_nonneg (by omega)] at this
                exact this
              have HP2 : Hid (Calls Try.prog 45 #[.slice (some ⟨g, 0, none⟩) n ct, .int .i64 ((i : Int) - (s : Int) - (kerf : Int)), .int .i64 (j : Int), .int .i64 (kerf : Int), .slice A L cp] w6 fun e w' => ∃ g3 c3, e = .returned (.slice (some ⟨g3, 0, none⟩) P2.length c3) ∧ CuAt w' (some ⟨g3, 0, none⟩) P2 ∧ Below w6.heap.size w6 w') := Lib.hid (hp2.mono fun e w' ⟨hb, h1⟩ => by
                rw [← hP2] at h1
                rcases h1 with ⟨h2, _⟩ | ⟨g3, c3, h2, _, h3, _⟩
                · rw [h2] at hP2p; simp at hP2p
                · exact ⟨g3, c3, h2, h3, hb⟩)
              have hP2l : P2.length ≤ 100000 := by
                have := planN_len kerf ss d ((i : Int) - (s : Int) - (kerf : Int)) (j : Int) (by omega) (by omega)
                have h4 : ((i : Int) - (s : Int) - (kerf : Int)) * (j : Int) ≤ 64 * 64 := Int.mul_le_mul (by omega) (by omega) (by omega) (by omega)
                rw [hP2]; omega
              have hmx : 1 + P1.length + P2.length ≤ maxLen := by unfold maxLen; omega
              have hby : (1 + P1.length + P2.length) * 16 ≤ 140737488355328 := by omega
              have hone2 := Lib.hid (cc_one P2)
              have hlen2 := Lib.hid (cc_len P2)
              have HP2E := Lib.hid hP2
              clear hp2 hP2
              go_wp2_with (first
                | (go_at_call 45; (with_reducible refine (HP2.out).mono ?_); rintro e w7 ⟨g4, c4, rfl, hp4, hb7⟩; have HO7 := Lib.hid (own_keep HO6.out hb7))
                | (at_builtin; refine wpList_append_lies _ rfl _ _ 36 rfl BV 73 i0 zCut 2 16 Try.underlying36 hi0 hz0 hz1 hz2 rfl (by decide) (.slice (some ⟨g6, 0, none⟩) (1 + P1.length) c6) (1 + P1.length) (cc (⟨ck, (s : Int)⟩ :: P1)) rfl HO7.out ⟨g4, 0, none⟩ P2.length c4 (cc P2) rfl hlen2.out (vals_cells hp4) hone2.out hP2p hmx hby (Nat.le_trans hsz6 hb7.size) _ rfl ?_; intro g8 c8 w8 hown8 hgr8 hat8 hlt8; have y1 : w8.cell? ⟨g1, z * 2, none⟩ = some (.int .i64 ck) := (((HB6.out.trans (hb7.mono hsz6)).grown hgr8 (Nat.le_trans hsz6 hb7.size) (own_ge HO7.out)).cell (p := ⟨g1, z * 2, none⟩) hgV).trans VV0'.out))
              go_ret
              rw [HPA.out, HK.out, if_pos rfl]
              rw [show (i : Int) - ((s : Int) + kerf) = (i : Int) - (s : Int) - (kerf : Int) by omega, ← HP2E.out, ← HPE.out]
              have hb8 := ((HB6.out.trans (hb7.mono hsz6)).grown hgr8 (Nat.le_trans hsz6 hb7.size) (own_ge HO7.out)).mono (show w.heap.size ≤ BV by rw [HBE.out]; exact HBV.out.size)
              have hf : w8.ownsRow BV 73 2 (.slice (some ⟨g8, 0, none⟩) (1 + P1.length + P2.length) c8) (1 + P1.length + P2.length) (cc (⟨ck, (s : Int)⟩ :: (P1 ++ P2))) := by
                rw [show (⟨ck, (s : Int)⟩ :: (P1 ++ P2) : List Cu) = (⟨ck, (s : Int)⟩ :: P1) ++ P2 from rfl, cc_append]
                exact hown8
              rw [HK.out] at hf
              exact ⟨HBV.out.trans hb8, .inr ⟨g8, c8, by simp [Nat.add_comm, Nat.add_assoc, Nat.add_left_comm], by simp, own_valsR hf, hlt8⟩⟩
          · have HK : Hid (ck = 4) := Lib.hid (by rw [HCK.out, h])
            have hcs : ca = (s : Int) := by rw [HCA.out, h]
            have HCS := Lib.hid hcs
            subst hcs
            have d3 : (ck == 3) = false := by rw [HK.out]; rfl
            have d4 : (ck == 4) = true := by rw [HK.out]; rfl
            have hpl : 0 < (planN kerf ss d i s).length := planN_pos (kerf := kerf) (ss := ss) (n := d) hi1 hs1 (by have := HD.out; omega)
            have hp1 := HIH.out (i : Int) (s : Int) W1 (by have := HD.out; omega) (by omega) (by omega) (by omega) (by omega) (HTV.out.keep (HBE.out ▸ HB1.out)) (HAV.out.keep (HBE.out ▸ HB1.out))
            obtain ⟨P1, hP1⟩ : ∃ P1, P1 = planN kerf ss d i s := ⟨_, rfl⟩
            rw [← hP1] at hpl
            have hp1' : Calls Try.prog 45 #[.slice (some ⟨g, 0, none⟩) n ct, .int .i64 (i : Int), .int .i64 (s : Int), .int .i64 (kerf : Int), .slice A L cp] W1 fun e w' => ∃ g3 c3, e = .returned (.slice (some ⟨g3, 0, none⟩) P1.length c3) ∧ CuAt w' (some ⟨g3, 0, none⟩) P1 ∧ Below W1.heap.size W1 w' := hp1.mono fun e w' ⟨hb, h1⟩ => by
              rw [← hP1] at h1
              rcases h1 with ⟨h2, _⟩ | ⟨g3, c3, h2, _, h3, _⟩
              · rw [h2] at hpl; simp at hpl
              · exact ⟨g3, c3, h2, h3, hb⟩
            have HP1 := Lib.hid hp1'
            have HPE := Lib.hid hP1
            have hP1l : P1.length ≤ 100000 := by
              have := planN_len kerf ss d i s (by omega) (by omega)
              have h4 : (i : Int) * s ≤ 64 * 64 := Int.mul_le_mul (by omega) (by omega) (by omega) (by omega)
              rw [hP1]; omega
            have hmx : 1 + P1.length ≤ maxLen := by unfold maxLen; omega
            have hby : (1 + P1.length) * 16 ≤ 140737488355328 := by omega
            have x1 : IntKind.i64.wrap ((j : Int) - (s : Int)) = (j : Int) - (s : Int) := wrapI (by omega) (by omega)
            have x2 : IntKind.i64.wrap ((j : Int) - (s : Int) - (kerf : Int)) = (j : Int) - (s : Int) - (kerf : Int) := wrapI (by omega) (by omega)
            have hone1 := Lib.hid (cc_one P1)
            have hlen1 := Lib.hid (cc_len P1)
            clear h hp1 hp1' hP1
            go_upto_region 13 with (first
              | (go_at_call 45; (with_reducible refine (HP1.out).mono ?_); rintro e w5 ⟨g3, c3, rfl, hp3, hb5⟩; have HO5 := Lib.hid (own_keep HO1.out hb5))
              | (at_builtin; refine wpList_append_lies _ rfl _ _ 36 rfl BV 73 i0 zCut 2 16 Try.underlying36 hi0 hz0 hz1 hz2 rfl (by decide) (.slice (some ⟨BV, 0, none⟩) 1 1) 1 (cc [⟨ck, (s : Int)⟩]) rfl HO5.out ⟨g3, 0, none⟩ P1.length c3 (cc P1) rfl hlen1.out (vals_cells hp3) hone1.out hpl hmx hby (Nat.le_trans (Nat.le_of_lt hBW) hb5.size) _ rfl ?_; intro g6 c6 w6 hown6 hgr6 hat6 hlt6))
            have hb6 : Below BV V w6 := (HB1.out.trans (hb5.mono (Nat.le_of_lt hBW))).grown hgr6 (Nat.le_trans (Nat.le_of_lt hBW) hb5.size) (own_ge HO5.out)
            have hsz6 : BV ≤ w6.heap.size := Nat.le_trans (Nat.le_trans (Nat.le_of_lt hBW) hb5.size) hgr6.size
            have HB6 := Lib.hid hb6
            have HO6 : Hid (w6.ownsRow BV 73 2 (.slice (some ⟨g6, 0, none⟩) (1 + P1.length) c6) (1 + P1.length) (cc (⟨ck, (s : Int)⟩ :: P1))) := Lib.hid (by
              rw [show (⟨ck, (s : Int)⟩ :: P1 : List Cu) = [⟨ck, (s : Int)⟩] ++ P1 from rfl, cc_append]
              exact hown6)
            have HT6 := Lib.hid (HTV.out.keep (HBE.out ▸ hb6))
            have HA6 := Lib.hid (HAV.out.keep (HBE.out ▸ hb6))
            have v0'' : w6.cell? ⟨g1, z * 2, none⟩ = some (.int .i64 ck) := (hb6.cell (p := ⟨g1, z * 2, none⟩) hgV).trans VV0'.out
            have v1'' : w6.cell? ⟨g1, z * 2 + 1, none⟩ = some (.int .i64 (s : Int)) := (hb6.cell (p := ⟨g1, z * 2 + 1, none⟩) hgV).trans VV1'.out
            have hp2 := HIH.out (i : Int) ((j : Int) - (s : Int) - (kerf : Int)) w6 (by have := HD.out; omega) (by omega) (by omega) (by omega) (by omega) HT6.out HA6.out
            clear hown6 hgr6 hat6 hp3 hb5 HO5 HP1 HO1 HN1 HB1 hb6 HIH HTV HAV HT6 HA6 hone1 hlen1 hmx hby
            by_cases hem : (j : Int) - (s : Int) - (kerf : Int) < 1
            · rw [planN_empty (.inr hem)] at hp2
              have HP2 : Hid (Calls Try.prog 45 #[.slice (some ⟨g, 0, none⟩) n ct, .int .i64 (i : Int), .int .i64 ((j : Int) - (s : Int) - (kerf : Int)), .int .i64 (kerf : Int), .slice A L cp] w6 fun e w' => e = .returned (.slice none 0 0) ∧ Below w6.heap.size w6 w') := Lib.hid (hp2.mono fun e w' ⟨hb, h1⟩ => by
                rcases h1 with ⟨_, h2⟩ | ⟨g3, c3, h2, h3, _⟩
                · exact ⟨h2, hb⟩
                · simp at h3)
              clear hp2
              go_wp2_with (first
                | (go_at_call 45; (with_reducible refine (HP2.out).mono ?_); rintro e w7 ⟨rfl, hb7⟩; have HO7 := Lib.hid (own_keep HO6.out hb7); have y0 : w7.cell? ⟨g1, z * 2, none⟩ = some (.int .i64 ck) := ((HB6.out.trans (hb7.mono hsz6)).cell (p := ⟨g1, z * 2, none⟩) hgV).trans VV0'.out)
                | (at_builtin; refine wpList_append_own_none rfl _ _ 36 rfl BV 73 i0 2 Try.underlying36 hi0 _ _ _ rfl HO7.out rfl ?_))
              go_ret
              rw [HPA.out, HK.out, if_neg (by omega), if_pos rfl]
              rw [show (j : Int) - ((s : Int) + kerf) = (j : Int) - (s : Int) - (kerf : Int) by omega, planN_empty (.inr hem), List.append_nil, ← HPE.out]
              have hbf := (HB6.out.trans (hb7.mono hsz6)).mono (show w.heap.size ≤ BV by rw [HBE.out]; exact HBV.out.size)
              have hf := HO7.out
              rw [HK.out] at hf
              have hg6 := own_ltS hf g6 rfl
              exact ⟨HBV.out.trans hbf, .inr ⟨g6, c6, by simp [Nat.add_comm], by simp, own_valsR hf, hg6⟩⟩
            · obtain ⟨P2, hP2⟩ : ∃ P2, P2 = planN kerf ss d (i : Int) ((j : Int) - (s : Int) - (kerf : Int)) := ⟨_, rfl⟩
              have hP2p : 0 < P2.length := by
                rw [hP2]
                have := planN_pos (kerf := kerf) (ss := ss) (n := d) (i := i) (j := (((j : Int) - (s : Int) - (kerf : Int)).toNat)) (by omega) (by omega) (by have := HD.out; omega)
                rw [Int.toNat_of_nonneg (by omega)] at this
                exact this
              have HP2 : Hid (Calls Try.prog 45 #[.slice (some ⟨g, 0, none⟩) n ct, .int .i64 (i : Int), .int .i64 ((j : Int) - (s : Int) - (kerf : Int)), .int .i64 (kerf : Int), .slice A L cp] w6 fun e w' => ∃ g3 c3, e = .returned (.slice (some ⟨g3, 0, none⟩) P2.length c3) ∧ CuAt w' (some ⟨g3, 0, none⟩) P2 ∧ Below w6.heap.size w6 w') := Lib.hid (hp2.mono fun e w' ⟨hb, h1⟩ => by
                rw [← hP2] at h1
                rcases h1 with ⟨h2, _⟩ | ⟨g3, c3, h2, _, h3, _⟩
                · rw [h2] at hP2p; simp at hP2p
                · exact ⟨g3, c3, h2, h3, hb⟩)
              have hP2l : P2.length ≤ 100000 := by
                have := planN_len kerf ss d (i : Int) ((j : Int) - (s : Int) - (kerf : Int)) (by omega) (by omega)
                have h4 : (i : Int) * ((j : Int) - (s : Int) - (kerf : Int)) ≤ 64 * 64 := Int.mul_le_mul (by omega) (by omega) (by omega) (by omega)
                rw [hP2]; omega
              have hmx : 1 + P1.length + P2.length ≤ maxLen := by unfold maxLen; omega
              have hby : (1 + P1.length + P2.length) * 16 ≤ 140737488355328 := by omega
              have hone2 := Lib.hid (cc_one P2)
              have hlen2 := Lib.hid (cc_len P2)
              have HP2E := Lib.hid hP2
              clear hp2 hP2
              go_wp2_with (first
                | (go_at_call 45; (with_reducible refine (HP2.out).mono ?_); rintro e w7 ⟨g4, c4, rfl, hp4, hb7⟩; have HO7 := Lib.hid (own_keep HO6.out hb7))
                | (at_builtin; refine wpList_append_lies _ rfl _ _ 36 rfl BV 73 i0 zCut 2 16 Try.underlying36 hi0 hz0 hz1 hz2 rfl (by decide) (.slice (some ⟨g6, 0, none⟩) (1 + P1.length) c6) (1 + P1.length) (cc (⟨ck, (s : Int)⟩ :: P1)) rfl HO7.out ⟨g4, 0, none⟩ P2.length c4 (cc P2) rfl hlen2.out (vals_cells hp4) hone2.out hP2p hmx hby (Nat.le_trans hsz6 hb7.size) _ rfl ?_; intro g8 c8 w8 hown8 hgr8 hat8 hlt8; have y1 : w8.cell? ⟨g1, z * 2, none⟩ = some (.int .i64 ck) := (((HB6.out.trans (hb7.mono hsz6)).grown hgr8 (Nat.le_trans hsz6 hb7.size) (own_ge HO7.out)).cell (p := ⟨g1, z * 2, none⟩) hgV).trans VV0'.out))
              go_ret
              rw [HPA.out, HK.out, if_neg (by omega), if_pos rfl]
              rw [show (j : Int) - ((s : Int) + kerf) = (j : Int) - (s : Int) - (kerf : Int) by omega, ← HP2E.out, ← HPE.out]
              have hb8 := ((HB6.out.trans (hb7.mono hsz6)).grown hgr8 (Nat.le_trans hsz6 hb7.size) (own_ge HO7.out)).mono (show w.heap.size ≤ BV by rw [HBE.out]; exact HBV.out.size)
              have hf : w8.ownsRow BV 73 2 (.slice (some ⟨g8, 0, none⟩) (1 + P1.length + P2.length) c8) (1 + P1.length + P2.length) (cc (⟨ck, (s : Int)⟩ :: (P1 ++ P2))) := by
                rw [show (⟨ck, (s : Int)⟩ :: (P1 ++ P2) : List Cu) = (⟨ck, (s : Int)⟩ :: P1) ++ P2 from rfl, cc_append]
                exact hown8
              rw [HK.out] at hf
              exact ⟨HBV.out.trans hb8, .inr ⟨g8, c8, by simp [Nat.add_comm, Nat.add_assoc, Nat.add_left_comm], by simp, own_valsR hf, hlt8⟩⟩
end Go.Proofs.Ytkfjlgjncaddpaa
