/- The walk of ActionSlacks. -/
import Derived.Test.YtpaemlkikkcjiaaWSlk
import Derived.Test.YtpaemlkikkcjiaaWLst
import Derived.Test.YtpaemlkikkcjiaaWSame
import Derived.Deep.AppendLies
import Derived.Deep.RegionHeldLaw
namespace Go.Proofs.Ytpaemlkikkcjiaa
open Go.RowKit

theorem slkB_parts {n : Int} {ts : List T3} {f : Nat → Int} {m : Nat} (h : slkB n ts f m = true) : regB n ts = true ∧ (m : Int) = n ∧ vB f m = true := by
  unfold slkB at h
  simp only [Bool.and_eq_true, decide_eq_true_eq] at h
  exact h
set_option maxHeartbeats 8000000 in
set_option maxRecDepth 100000 in
theorem actionSlacks_any (n : Int) (A A' : Option Addr) (c c' L L' : Nat) (ts : List T3) (l0 : List Int) (w : World) (hn : -9223372036854775808 ≤ n ∧ n ≤ 9223372036854775807) (hA : TiesAt w A ts) (hL : L = ts.length) (hc : L ≤ c) (hnil : A = none → c = 0) (hcm : c ≤ maxLen)
    (hA' : Ints w A' l0) (hL' : L' = l0.length) (hc' : L' ≤ c') (hnil' : A' = none → c' = 0) :
    Calls Try.prog 6 #[.int .i64 n, .slice A L c, .slice A' L' c'] w fun e w' => e = .returned (.bool true) ∧ Below w.heap.size w w' := by
  have hfe := few_any A c L ts w hA hL hc hnil hcm
  have hct := fun W (h : Below w.heap.size w W) => cut_any A' c' L' 65 l0 W (Vals.keep hA' h) hL' hc' hnil' (by omega)
  have hlen := fewL_len ts
  have hf65 : (l0.take 65).length ≤ 65 := by rw [List.length_take]; omega
  have HFE := Lib.hid hfe
  have HCT := Lib.hid hct
  generalize fewL ts = t at *
  generalize l0.take 65 = y at *
  clear hfe hct hA hL hc hnil hcm hA' hL' hc' hnil'
  go_enter Try.func6, Try.ntmps6
  go_wp2_with (first
    | (go_at_call 23; refine (HFE.out).mono ?_; rintro e w1 ⟨g, cap, rfl, hcap, hg, hgw, hT, hb1⟩)
    | (go_at_call 33; refine (HCT.out _ hb1).mono ?_; rintro e w2 ⟨v2, rfl, _, ⟨g2, cap2, rfl, hI⟩, hb2⟩))
  have hbw := below_on hb1 hb1.size hb2
  have hT2 := hT.keep hb2
  have hI0 : Vals w2 (some ⟨g2, 0, none⟩) (fl (fun i => y.getD i 0) y.length) := by rw [← is_fl]; exact hI
  clear hb1 hb2 hT HFE HCT hI
  have hI := hI0
  clear hI0
  obtain ⟨f, hf⟩ : ∃ f : Nat → Int, f = fun i => y.getD i 0 := ⟨_, rfl⟩
  rw [← hf] at hI
  clear hf
  generalize y.length = Ly at *
  generalize hLt : t.length = Lt at *
  have HLt := Lib.hid hLt
  have hsl := slack_any n ⟨g, 0, none⟩ (some ⟨g2, 0, none⟩) cap cap2 Lt Ly t f w2 hT2 hLt.symm hI hn (by omega) (by omega)
  have HSL := Lib.hid hsl
  have HT2 := Lib.hid hT2
  have HI2 := Lib.hid hI
  clear hLt hT2 hI hsl
  go_upto_region 3 with (go_at_call 34; refine (HSL.out).mono ?_; rintro e w3 ⟨hb3, ⟨hs, rfl⟩ | ⟨hs, gs, rfl, hvs⟩⟩)
  · have hbw3 := below_on hbw hbw.size hb3
    have hck := refCheck_any n (some ⟨g, 0, none⟩) cap Lt t w3 (HT2.out.keep hb3) HLt.out.symm hn (by omega)
    have HT3 := Lib.hid (HT2.out.keep hb3)
    have HI3 := Lib.hid (Vals.keep HI2.out hb3)
    have HBW3 := Lib.hid hbw3
    clear hbw hbw3 HT2 HI2 HSL
    cases hr : regB n t with
    | false =>
      rw [ck_bad hr] at hck
      have HCK := Lib.hid hck
      clear hck hb3
      go_upto_region 4 with (go_at_call 25; refine (HCK.out).mono ?_; rintro e w4 ⟨rfl, hb4⟩)
      have HBW4 := Lib.hid (below_on HBW3.out HBW3.out.size hb4)
      clear hb4 HBW3 HCK HT3 HI3
      go_wp2_with (fail)
      go_loopw [11, 12] (fun b t wr => ∃ i : Nat, i ≤ Ly ∧ t = .int .i64 (i : Int) ∧ b = .bool false ∧ wr = w4) (fun _ t _ => Ly - (intOf t).toNat)
      case atStart => exact ⟨0, Nat.zero_le _, rfl, rfl, rfl⟩
      case round =>
        obtain ⟨i, hi, rfl, rfl, rfl⟩ := hrel
        by_cases hlt : i < Ly
        · have hlt2 : (i : Int) < (Ly : Int) := by omega
          go_wp2_with (fail)
          go_roundw
          case rel => exact ⟨i + 1, by omega, by go_num, rfl, trivial⟩
          case measure => simp [intOf]; omega
        · obtain rfl : i = Ly := by omega
          go_wp2_with (go_at_call 26; refine (lives_any _).mono ?_; rintro e w5 ⟨rfl, hb5⟩)
          go_ret
          exact ⟨rfl, below_on HBW4.out HBW4.out.size hb5⟩
    | true =>
      by_cases hmn : (Ly : Int) = n
      · subst hmn
        have HV : Hid (vB f Ly = false) := Lib.hid (by unfold slkB at hs; rw [hr] at hs; simpa using hs)
        have hd : ((Ly : Int) == (Ly : Int)) = true := by simp
        clear hs
        rw [ck_ok hr] at hck
        have HCK := Lib.hid hck
        clear hck
        go_upto_region 4 with (go_at_call 25; refine (HCK.out).mono ?_; rintro e w4 ⟨rfl, hb4⟩)
        have HBW4 := Lib.hid (below_on HBW3.out HBW3.out.size hb4)
        have HT4 := Lib.hid (HT3.out.keep hb4)
        have HI4 := Lib.hid (Vals.keep HI3.out hb4)
        clear HBW3 HCK HT3 HI3 hr
        go_wp2_with (fail)
        go_loopw [11, 12] (fun b t wr => ∃ i : Nat, i ≤ Ly ∧ t = .int .i64 (i : Int) ∧ b = .bool (vB f i) ∧ wr = w4) (fun _ t _ => Ly - (intOf t).toNat)
        case atStart => exact ⟨0, Nat.zero_le _, rfl, rfl, rfl⟩
        case round =>
          obtain ⟨i, hi, rfl, rfl, rfl⟩ := hrel
          by_cases hlt : i < Ly
          · have hlt2 : (i : Int) < (Ly : Int) := by omega
            have hsc := vB_succ f i
            obtain ⟨g', o', ey, _, hcy⟩ := fl_vals HI4.out hlt
            injection ey with ey
            injection ey with ey1 ey2
            subst ey1 ey2
            rw [Nat.zero_add] at hcy
            cases hvi : vB f i with
            | false =>
              have HV : Hid (vB f (i + 1) = false) := Lib.hid (by rw [hsc, hvi]; rfl)
              clear hsc hvi
              go_wp2_with (fail)
              go_roundw
              case rel => exact ⟨i + 1, by omega, by go_num, by rw [HV.out], trivial⟩
              case measure => simp [intOf]; omega
            | true =>
              rw [hvi, Bool.true_and] at hsc
              have HSC := Lib.hid hsc
              clear hsc hvi
              generalize f i = x at *
              by_cases h1 : 0 ≤ x
              · have d1 : decide (0 ≤ x) = true := by simpa using h1
                by_cases h2 : x ≤ 1000000000
                · have d2 : decide (x ≤ 1000000000) = true := by simpa using h2
                  have HV : Hid (vB f (i + 1) = true) := Lib.hid (by rw [HSC.out]; unfold inB; rw [d1, d2]; rfl)
                  clear HSC
                  go_wp2_with (fail)
                  go_roundw
                  case rel => exact ⟨i + 1, by omega, by go_num, by rw [HV.out], trivial⟩
                  case measure => simp [intOf]; omega
                · have d2 : decide (x ≤ 1000000000) = false := by simpa using h2
                  have HV : Hid (vB f (i + 1) = false) := Lib.hid (by rw [HSC.out]; unfold inB; rw [d1, d2]; rfl)
                  clear HSC
                  go_wp2_with (fail)
                  go_roundw
                  case rel => exact ⟨i + 1, by omega, by go_num, by rw [HV.out], trivial⟩
                  case measure => simp [intOf]; omega
              · have d1 : decide (0 ≤ x) = false := by simpa using h1
                have HV : Hid (vB f (i + 1) = false) := Lib.hid (by rw [HSC.out]; unfold inB; rw [d1]; rfl)
                clear HSC
                go_wp2_with (fail)
                go_roundw
                case rel => exact ⟨i + 1, by omega, by go_num, by rw [HV.out], trivial⟩
                case measure => simp [intOf]; omega
          · obtain rfl : i = Ly := by omega
            rw [HV.out]
            go_wp2_with (go_at_call 26; refine (lives_any _).mono ?_; rintro e w5 ⟨rfl, hb5⟩)
            go_ret
            exact ⟨rfl, below_on HBW4.out HBW4.out.size hb5⟩
      · have hd : ((Ly : Int) == n) = false := by simpa using hmn
        rw [ck_ok hr] at hck
        clear hmn
        have HCK := Lib.hid hck
        clear hck hb3
        go_upto_region 4 with (go_at_call 25; refine (HCK.out).mono ?_; rintro e w4 ⟨rfl, hb4⟩)
        have HBW4 := Lib.hid (below_on HBW3.out HBW3.out.size hb4)
        clear hb4 HBW3 HCK HT3 HI3
        go_wp2_with (fail)
        go_loopw [11, 12] (fun b t wr => ∃ i : Nat, i ≤ Ly ∧ t = .int .i64 (i : Int) ∧ b = .bool false ∧ wr = w4) (fun _ t _ => Ly - (intOf t).toNat)
        case atStart => exact ⟨0, Nat.zero_le _, rfl, rfl, rfl⟩
        case round =>
          obtain ⟨i, hi, rfl, rfl, rfl⟩ := hrel
          by_cases hlt : i < Ly
          · have hlt2 : (i : Int) < (Ly : Int) := by omega
            go_wp2_with (fail)
            go_roundw
            case rel => exact ⟨i + 1, by omega, by go_num, rfl, trivial⟩
            case measure => simp [intOf]; omega
          · obtain rfl : i = Ly := by omega
            go_wp2_with (go_at_call 26; refine (lives_any _).mono ?_; rintro e w5 ⟨rfl, hb5⟩)
            go_ret
            exact ⟨rfl, below_on HBW4.out HBW4.out.size hb5⟩
  · have hbw3 := below_on hbw hbw.size hb3
    have hck := refCheck_any n (some ⟨g, 0, none⟩) cap Lt t w3 (HT2.out.keep hb3) HLt.out.symm hn (by omega)
    have HT3 := Lib.hid (HT2.out.keep hb3)
    have HI3 := Lib.hid (Vals.keep HI2.out hb3)
    have HBW3 := Lib.hid hbw3
    clear hbw hbw3 HT2 HI2 HSL
    obtain ⟨hr, hmn, hv⟩ := slkB_parts hs
    subst hmn
    obtain ⟨k, hk, hk1, hk2, _, hok⟩ := regB_ok hr
    obtain rfl : k = Ly := by omega
    have HV : Hid (vB f k = true) := Lib.hid hv
    have HVB := HV
    have HOK := Lib.hid hok
    have hd : ((k : Int) == (k : Int)) = true := by simp
    rw [HLt.out] at hvs
    have HVS := Lib.hid hvs
    rw [HLt.out]
    clear hs hv hok hvs hk
    rw [ck_ok hr] at hck
    have HCK := Lib.hid hck
    clear hck
    go_upto_region 4 with (go_at_call 25; refine (HCK.out).mono ?_; rintro e w4 ⟨rfl, hb4⟩)
    have HBW4 := Lib.hid (below_on HBW3.out HBW3.out.size hb4)
    have HT4 := Lib.hid (HT3.out.keep hb4)
    have HI4 := Lib.hid (Vals.keep HI3.out hb4)
    clear HBW3 HCK HT3 HI3 hr
    go_wp2_with (fail)
    go_loopw [11, 12] (fun b t wr => ∃ i : Nat, i ≤ k ∧ t = .int .i64 (i : Int) ∧ b = .bool (vB f i) ∧ wr = w4) (fun _ t _ => k - (intOf t).toNat)
    case atStart => exact ⟨0, Nat.zero_le _, rfl, rfl, rfl⟩
    case round =>
      obtain ⟨i, hi, rfl, rfl, rfl⟩ := hrel
      by_cases hlt : i < k
      · have hlt2 : (i : Int) < (k : Int) := by omega
        have hsc := vB_succ f i
        obtain ⟨g', o', ey, _, hcy⟩ := fl_vals HI4.out hlt
        injection ey with ey
        injection ey with ey1 ey2
        subst ey1 ey2
        rw [Nat.zero_add] at hcy
        cases hvi : vB f i with
        | false =>
          have HV : Hid (vB f (i + 1) = false) := Lib.hid (by rw [hsc, hvi]; rfl)
          clear hsc hvi
          go_wp2_with (fail)
          go_roundw
          case rel => exact ⟨i + 1, by omega, by go_num, by rw [HV.out], trivial⟩
          case measure => simp [intOf]; omega
        | true =>
          rw [hvi, Bool.true_and] at hsc
          have HSC := Lib.hid hsc
          clear hsc hvi
          generalize f i = x at *
          by_cases h1 : 0 ≤ x
          · have d1 : decide (0 ≤ x) = true := by simpa using h1
            by_cases h2 : x ≤ 1000000000
            · have d2 : decide (x ≤ 1000000000) = true := by simpa using h2
              have HV : Hid (vB f (i + 1) = true) := Lib.hid (by rw [HSC.out]; unfold inB; rw [d1, d2]; rfl)
              clear HSC
              go_wp2_with (fail)
              go_roundw
              case rel => exact ⟨i + 1, by omega, by go_num, by rw [HV.out], trivial⟩
              case measure => simp [intOf]; omega
            · have d2 : decide (x ≤ 1000000000) = false := by simpa using h2
              have HV : Hid (vB f (i + 1) = false) := Lib.hid (by rw [HSC.out]; unfold inB; rw [d1, d2]; rfl)
              clear HSC
              go_wp2_with (fail)
              go_roundw
              case rel => exact ⟨i + 1, by omega, by go_num, by rw [HV.out], trivial⟩
              case measure => simp [intOf]; omega
          · have d1 : decide (0 ≤ x) = false := by simpa using h1
            have HV : Hid (vB f (i + 1) = false) := Lib.hid (by rw [HSC.out]; unfold inB; rw [d1]; rfl)
            clear HSC
            go_wp2_with (fail)
            go_roundw
            case rel => exact ⟨i + 1, by omega, by go_num, by rw [HV.out], trivial⟩
            case measure => simp [intOf]; omega
      · obtain rfl : i = k := by omega
        rw [HV.out]
        have HVS4 := Lib.hid (Vals.keep HVS.out hb4)
        have hmn' : True := trivial
        clear hlt
        go_wp2_with (fail)
        have hO0 : OwnR wr.heap.size 3 1 (wr.alloc (.cells #[] 3)) (.slice (some ⟨wr.heap.size, 0, none⟩) 0 0) 0 (fl (slF f t) 0) := own_hd (own_new wr 3 1) (by intro e; injection e with e; cases e)
        have HO0 := Lib.hid hO0
        have hbn := below_new wr (.cells #[] 3)
        clear hO0
        generalize hW0 : wr.alloc (.cells #[] 3) = W0 at *
        have HW0 := Lib.hid hW0
        clear hW0
        obtain ⟨i0, hi, hz0, hz1, hz2⟩ := info_parts infoInt
        have HBN := Lib.hid hbn
        clear hbn
        obtain ⟨B, hB⟩ : ∃ B, B = wr.heap.size := ⟨_, rfl⟩
        rw [← hB] at HO0 HBN ⊢
        have HB := Lib.hid hB
        clear hB
        go_loopw [13, 14] (fun v s w5 => ∃ j : Nat, j ≤ Lt ∧ s = .int .i64 (j : Int) ∧ OwnR B 3 1 w5 v j (fl (slF f t) j) ∧ Below B wr w5) (fun _ s _ => Lt - (intOf s).toNat)
        case atStart => exact ⟨0, Nat.zero_le _, rfl, HO0.out, HBN.out⟩
        case round =>
          clear HO0 HBN
          obtain ⟨j, hj, rfl, hO, hb5⟩ := hrel
          by_cases hjl : j < Lt
          · obtain ⟨tj, ht⟩ : ∃ tj, t[j]? = some tj := ⟨t[j]'(by have := HLt.out; omega), List.getElem?_eq_getElem _⟩
            obtain ⟨a1, a2, a3, a4, a5, a6⟩ := HOK.out tj (List.mem_of_getElem? ht)
            have hsl := slF_at (f := f) ht
            have hb6 := HB.out ▸ hb5
            have hTA := (HT4.out).keep hb6
            have hgB : g < B := by
              obtain ⟨g9, o9, e9, hg9, _⟩ := HT4.out.at_ ht
              injection e9 with e9
              injection e9 with e9 e10
              rw [HB.out, e9]; exact hg9
            have hXA := Vals.drew (Vals.keep HI4.out hb6)
            obtain ⟨ga, off, e1, hga, c0, c1, c2⟩ := hTA.at_ ht
            injection e1 with e1
            injection e1 with e1 e2
            subst e1 e2
            rw [Nat.zero_add] at c0 c1 c2
            have hlt3 : (j : Int) < (Lt : Int) := by omega
            have hpa := vx_bd HVB.out a2
            have hpb := vx_bd HVB.out a4
            obtain ⟨ta, tb, tl⟩ := tj
            simp only at a1 a2 a3 a4 a5 a6 c0 c1 c2 hpa hpb
            have ca := at_any (some ⟨g2, 0, none⟩) cap2 i f ta wr.drew hXA a1 a2
            have cb := at_any (some ⟨g2, 0, none⟩) cap2 i f tb wr.drew hXA a3 a4
            have e0 : slk f ⟨ta, tb, tl⟩ = atX f tb - atX f ta - tl := rfl
            rw [e0] at hsl
            have HSLJ := Lib.hid hsl
            clear ht hTA hXA hb6 e0 hsl a1 a2 a3 a4
            generalize atX f ta = xa at *
            generalize atX f tb = xb at *
            have hs1 : IntKind.i64.wrap (xb - xa) = xb - xa := wrapI (by omega) (by omega)
            have hs2 : IntKind.i64.wrap (xb - xa - tl) = xb - xa - tl := wrapI (by omega) (by omega)
            have HCA := Lib.hid ca
            have HCB := Lib.hid cb
            have HO5 := Lib.hid hO
            have HB5 := Lib.hid hb5
            clear ca cb hO hb5
            go_upto_region 14 with (fail)
            have hO6 : OwnR B 3 1 wr.drew u13 j (fl (slF f t) j) := HO5.out.drewN 1
            have hb6 := HB5.out.drew
            generalize hsx : xb - xa - tl = sx at *
            have hO1 : OwnR B 3 1 (wr.drew.alloc (.cells #[.int .i64 sx] 3)) u13 j (fl (slF f t) j) := hO6.alloc _
            have hx : Blk 3 (wr.drew.alloc (.cells #[.int .i64 sx] 3)) wr.drew.heap.size [.int .i64 sx] := Blk.new wr.drew 3 _
            have hbz : B ≤ wr.drew.heap.size := by rw [HB.out]; exact hb6.size
            have hbl := below_on hb6 hbz (below_new wr.drew (.cells #[.int .i64 sx] 3))
            have ho := own_lift hO1
            have hbk := own_block hO1
            have hxv := hx.vals0
            have HX := Lib.hid hxv
            have HO1 := Lib.hid ho.1
            have HNE := ho.2
            have hsz : B ≤ (wr.drew.alloc (.cells #[.int .i64 sx] 3)).heap.size := Nat.le_trans hbz (below_new _ _).size
            have hsz2 : B ≤ wr.drew.heap.size + 1 := by omega
            have hm1 : j + 1 ≤ maxLen := by unfold maxLen; omega
            have hm2 : (j + 1) * 8 ≤ 140737488355328 := by omega
            have n0 : (wr.drew.alloc (.cells #[.int .i64 sx] 3)).cell? ⟨g, j * 3, none⟩ = some (.int .i64 ta) := (below_new wr.drew _).cell (p := ⟨g, j * 3, none⟩) hga |>.trans c0
            have n1 : (wr.drew.alloc (.cells #[.int .i64 sx] 3)).cell? ⟨g, j * 3 + 1, none⟩ = some (.int .i64 tb) := (below_new wr.drew _).cell (p := ⟨g, j * 3 + 1, none⟩) hga |>.trans c1
            have n2 : (wr.drew.alloc (.cells #[.int .i64 sx] 3)).cell? ⟨g, j * 3 + 2, none⟩ = some (.int .i64 tl) := (below_new wr.drew _).cell (p := ⟨g, j * 3 + 2, none⟩) hga |>.trans c2
            have HN := Lib.hid (show ∀ W, Below B (wr.drew.alloc (.cells #[.int .i64 sx] 3)) W → W.cell? ⟨g, j * 3, none⟩ = some (.int .i64 ta) ∧ W.cell? ⟨g, j * 3 + 1, none⟩ = some (.int .i64 tb) ∧ W.cell? ⟨g, j * 3 + 2, none⟩ = some (.int .i64 tl) from fun W h => ⟨(h.cell (p := ⟨g, j * 3, none⟩) hgB).trans n0, (h.cell (p := ⟨g, j * 3 + 1, none⟩) hgB).trans n1, (h.cell (p := ⟨g, j * 3 + 2, none⟩) hgB).trans n2⟩)
            clear hO6 hb6 hO1 hx hxv ho HO5 HB5
            have HON : Hid (∀ u ∈ [Value.int .i64 sx], u.oneCell' = true) := Lib.hid (by intro u hu; simp at hu; subst hu; rfl)
            go_region_held_law (fun w' => w'.cell? ⟨g, j * 3, none⟩ = some (.int .i64 ta) ∧ w'.cell? ⟨g, j * 3 + 1, none⟩ = some (.int .i64 tb) ∧ w'.cell? ⟨g, j * 3 + 2, none⟩ = some (.int .i64 tl))
              (first | exact ⟨c0, c1, c2⟩ | exact ⟨n0, n1, n2⟩ | exact hnn | go_keep)
              ((first
                | (go_at_call 35; (with_reducible refine (HCB.out).mono ?_); rintro e w5 ⟨rfl, rfl⟩)
                | (go_at_call 35; (with_reducible refine (HCA.out).mono ?_); rintro e w5 ⟨rfl, rfl⟩)
                | (refine step_append_lies _ rfl (.tmp 76) (.tmp 98) 24 rfl B 3 i0 zInt 1 8 Try.underlying24 hi hz0 hz1 hz2 rfl (by decide) u13 j _ rfl HO1.out ⟨wr.drew.heap.size, 0, none⟩ 1 1 [.int .i64 sx] rfl rfl (vals_cells HX.out) HON.out Nat.one_pos hm1 hm2 hsz _ rfl ?_; intro g6 cap6 w6 hown hgr hat hg6; have hnn := HN.out w6 (Below.grown (Below.refl _ _) hgr hsz hbk))))
            all_goals
              have hb7 := hbl.grown hgr hsz hbk
              have happ : fl (slF f t) j ++ [.int .i64 sx] = fl (slF f t) (j + 1) := by simp [fl, List.range_succ, HSLJ.out]
              rw [happ] at hown
              have HR := Lib.hid (own_hd hown (by intro e; injection e with e; cases e))
              clear hown hgr happ hnn c0 c1 c2 n0 n1 n2 HCA HCB HO1 HX HN
              go_wp2_with (fail)
              go_roundw
              case rel => exact ⟨j + 1, by omega, by go_num, HR.out, hb7⟩
              case measure => simp [intOf]; omega
          · obtain rfl : j = Lt := by omega
            obtain ⟨gw, cw, rfl, hgB, hgw2, hcap2, hvw⟩ := hO.vals
            have hb6 := HB.out ▸ hb5
            have hbw5 := below_on HBW4.out HBW4.out.size hb6
            have hvx := Vals.keep HVS4.out hb6
            rw [fl_is] at hvw hvx
            have hsm := same_any (some ⟨gs, 0, none⟩) (some ⟨gw, 0, none⟩) j cw j j ((List.range j).map (slF f t)) ((List.range j).map (slF f t)) wr hvx hvw (by simp) (by simp) (by omega) (by omega)
            have hsm2 : Calls Try.prog 28 #[.slice (some ⟨gs, 0, none⟩) j j, .slice (some ⟨gw, 0, none⟩) j cw] wr fun e w' => e = .returned (.bool true) ∧ Below wr.heap.size wr w' := by simpa using hsm
            have HSM := Lib.hid hsm2
            clear hsm hsm2 hvw hvx hb6 hO hb5
            go_wp2_with (first
              | (go_at_call 28; refine (HSM.out).mono ?_; rintro e w7 ⟨rfl, hb7⟩)
              | (go_at_call 26; refine (lives_any _).mono ?_; rintro e w8 ⟨rfl, hb8⟩))
            have h7 := below_on hbw5 hbw5.size hb7
            go_ret
            exact ⟨rfl, below_on h7 h7.size hb8⟩
end Go.Proofs.Ytpaemlkikkcjiaa
