/- The walk of MatchVoices. -/
import Derived.Test.YtncmfjncdhhjoaaWShp
import Derived.Test.YtncmfjncdhhjoaaWVoi
import Derived.Test.YtncmfjncdhhjoaaWPc3
import Derived.Test.YtncmfjncdhhjoaaWLiw
import Derived.BigQuiet
namespace Go.Proofs.Ytncmfjncdhhjoaa
open Go.RowKit

theorem good_eqV {n m n' m' : Nat} {ls : List (List Int)} (h : Good n m ls) (g : Good n' m' ls) (h1 : 1 ≤ n) : n = n' ∧ m = m' := by
  refine ⟨h.rows.symm.trans g.rows, ?_⟩
  obtain ⟨l, hl, hm⟩ := h.row (i := 0) (by omega)
  exact hm.symm.trans (g.cols 0 l hl)
set_option maxHeartbeats 8000000 in
set_option maxRecDepth 100000 in
theorem matchVoices_any (A A' : Option Addr) (c c' n m : Nat) (js qs : List J2) (bend trim : Int) (w : World) (hA : JAt w A js) (hA' : JAt w A' qs) (hn : n = js.length) (hm : m = qs.length) (hnc : n ≤ c) (hmc : m ≤ c') (hnil : A = none → c = 0) (hnil' : A' = none → c' = 0) :
    Calls Try.prog 10 #[.agg #[.slice A n c, .slice A' m c', .int .i64 bend, .int .i64 trim]] w fun e w' => e = .returned (.bool true) ∧ Below w.heap.size w w' := by
  obtain ⟨W0, hW0⟩ : ∃ W, W = w.alloc (.cells #[.slice A n c, .slice A' m c', .int .i64 bend, .int .i64 trim] 57) := ⟨_, rfl⟩
  obtain ⟨b1, hb1⟩ : ∃ b, b = w.heap.size := ⟨_, rfl⟩
  have hbx : Blk 57 W0 b1 [.slice A n c, .slice A' m c', .int .i64 bend, .int .i64 trim] := by rw [hW0, hb1]; exact Blk.new w 57 _
  have hl0 : Below w.heap.size w W0 := by rw [hW0]; exact below_new w _
  have hsh := shop_any A A' c c' n m js qs bend trim W0 (Vals.keep hA hl0) (Vals.keep hA' hl0) hn hm hnc hmc hnil hnil'
  generalize js.take 66 = j1 at *
  generalize qs.take 66 = q1 at *
  have HSH := Lib.hid hsh
  have HL := Lib.hid hl0
  have HW0 := Lib.hid hW0
  have HB1 := Lib.hid hb1
  have x0 : W0.cell? ⟨b1, 0, none⟩ = some (.slice A n c) := hbx.cell 0
  have x1 : W0.cell? ⟨b1, 1, none⟩ = some (.slice A' m c') := hbx.cell 1
  have x2 : W0.cell? ⟨b1, 2, none⟩ = some (.int .i64 bend) := hbx.cell 2
  have x3 : W0.cell? ⟨b1, 3, none⟩ = some (.int .i64 trim) := hbx.cell 3
  clear hA hA' hn hm hnc hmc hnil hnil' hbx hl0 hsh hW0 hb1
  go_enter Try.func10, Try.ntmps10
  go_upto_region 1 with (fail)
  rw [← HW0.out, ← HB1.out]
  clear HW0 HB1
  go_wp2_with (fail)
  refine (HSH.out).mono ?_
  rintro e w1 ⟨hl1, g, k, g', k', rfl, hj, hq⟩
  obtain ⟨N, hN⟩ : ∃ N, N = j1.length := ⟨_, rfl⟩
  obtain ⟨M, hM⟩ : ∃ M, M = q1.length := ⟨_, rfl⟩
  rw [← hN, ← hM]
  obtain ⟨O, hO⟩ : ∃ O, O = Obj.cells #[.slice (some ⟨g, 0, none⟩) N k, .slice (some ⟨g', 0, none⟩) M k', .int .i64 bend, .int .i64 trim] 57 := ⟨_, rfl⟩
  have hbn : Blk 57 (w1.alloc O) w1.heap.size [.slice (some ⟨g, 0, none⟩) N k, .slice (some ⟨g', 0, none⟩) M k', .int .i64 bend, .int .i64 trim] := by rw [hO]; exact Blk.new w1 57 _
  have hl01 := HL.out.trans (hl1.mono HL.out.size)
  have HL3 := Lib.hid (hl01.alloc hl01.size O)
  have HJ := Lib.hid (Vals.alloc hj O)
  have HQ := Lib.hid (Vals.alloc hq O)
  have HBN := Lib.hid hbn
  have HO := Lib.hid hO
  have HN := Lib.hid hN
  have HM := Lib.hid hM
  clear hl1 hj hq hN hM hO hbn hl01 HSH HL x0 x1 x2 x3
  go_upto_region 2 with (fail)
  rw [← HO.out]
  obtain ⟨b3, h3⟩ : ∃ x, x = w1.heap.size := ⟨_, rfl⟩
  rw [← h3] at HBN ⊢
  clear HO h3
  generalize w1.alloc O = W3 at *
  have hvo := voice_any (some ⟨g, 0, none⟩) (some ⟨g', 0, none⟩) k k' N M j1 q1 bend trim W3 HJ.out HQ.out HN.out HM.out
  have hkp : ∀ W, Below W3.heap.size W3 W → (W.cell? ⟨b3, 0, none⟩ = some (.slice (some ⟨g, 0, none⟩) N k) ∧ W.cell? ⟨b3, 1, none⟩ = some (.slice (some ⟨g', 0, none⟩) M k') ∧ W.cell? ⟨b3, 2, none⟩ = some (.int .i64 bend) ∧ W.cell? ⟨b3, 3, none⟩ = some (.int .i64 trim)) ∧ JAt W (some ⟨g, 0, none⟩) j1 ∧ JAt W (some ⟨g', 0, none⟩) q1 := fun W h => by
    have hb := HBN.out.keep h
    exact ⟨⟨hb.cell 0, hb.cell 1, hb.cell 2, hb.cell 3⟩, HJ.out.keep h, HQ.out.keep h⟩
  have HVO := Lib.hid hvo
  have HKP := Lib.hid hkp
  obtain ⟨⟨s0, s1, s2, s3⟩, -⟩ := hkp W3 (Below.refl _ _)
  clear hvo hkp HBN HJ HQ
  go_wp2_with (fail)
  refine (HVO.out).mono ?_
  rintro e w4 ⟨hl4, hcase⟩
  clear s0 s1 s2 s3
  obtain ⟨⟨s0, s1, s2, s3⟩, hj4, hq4⟩ := HKP.out w4 hl4
  have hrt := rtable_any (some ⟨g, 0, none⟩) (some ⟨g', 0, none⟩) k k' N M j1 q1 bend trim w4 hj4 hq4 HN.out HM.out
  have HRT := Lib.hid hrt
  have HB4 := Lib.hid hl4
  have HL4 := Lib.hid (HL3.out.trans (hl4.mono HL3.out.size))
  have hl34 : W3.heap.size ≤ w4.heap.size := hl4.size
  clear hrt hj4 hq4 hl4 HVO
  rcases hcase with ⟨hok, rfl⟩ | ⟨hok, hno, rfl⟩ | ⟨hok, gt, go, tu, VO, rfl⟩
  · have HOK := Lib.hid hok
    clear hok
    go_wp2_with (fail)
    refine (HRT.out).mono ?_
    rintro e w5 ⟨hl5, ⟨-, rfl⟩ | ⟨hok', -⟩⟩
    · have HL5 := Lib.hid (HL4.out.trans (hl5.mono HL4.out.size))
      clear hl5 s0 s1 s2 s3
      go_wp2_with (go_at_call 26; refine (lives_any _).mono ?_; rintro e w7 ⟨rfl, hl7⟩)
      go_ret
      exact ⟨rfl, HL5.out.trans (hl7.mono HL5.out.size)⟩
    · rw [HOK.out] at hok'; cases hok'
  · have hgd := pri_good hok
    obtain ⟨⟨d1, d2, d3⟩, -⟩ := okS_t hok
    rw [← HN.out, ← HM.out] at hgd
    rw [← HN.out] at d1 d2
    rw [← HM.out] at d2 d3
    have HCH : Hid (chkT (priL j1 q1 bend trim) = true) := Lib.hid (chkT_of d1 d2 d3 hgd)
    have HG := Lib.hid hgd
    have HOK := Lib.hid hok
    have HNO := Lib.hid hno
    clear hok hgd hno
    go_wp2_with (fail)
    refine (HRT.out).mono ?_
    rintro e w5 ⟨hl5, ⟨hok', -⟩ | ⟨-, v, es, rfl, hH, hv, hnn, hE⟩⟩
    · rw [HOK.out] at hok'; cases hok'
    · obtain ⟨gr, capr, rfl, hTr⟩ := hH.tab hv hnn
      have hlen : es.length = N := by
        have := congrArg List.length hE
        rw [List.length_map] at this
        rw [this]; exact HG.out.rows
      rw [hE] at hTr
      have hbe := best_any (some ⟨gr, 0, none⟩) capr N (priL j1 q1 bend trim) w5 hTr HG.out.rows.symm
      have HBE := Lib.hid hbe
      have HL5 := Lib.hid (HL4.out.trans (hl5.mono HL4.out.size))
      rw [hlen]
      clear hbe hl5 hTr hH hv hnn hE hlen s0 s1 s2 s3
      go_wp2_with (fail)
      refine (HBE.out).mono ?_
      intro e w6 hpost
      have hl6 := hpost.1
      have hl7 := HL5.out.trans (hl6.mono HL5.out.size)
      rcases hpost.2 with ⟨hf, _⟩ | ⟨n', m', _, _, hG', _, _, rfl⟩ | ⟨n', m', ht, gu, gv, tv, u, v, _, hn', BO, rfl⟩
      · rw [HCH.out] at hf; cases hf
      · have HL7 := Lib.hid (hl7.alloc hl7.size (.cells #[.slice none 0 0, .slice none 0 0, .slice none 0 0, .int .i64 0] 35))
        clear hpost hG' hl6 hl7
        unfold zeroM
        go_wp2_with (go_at_call 26; refine (lives_any _).mono ?_; rintro e w8 ⟨rfl, hl8⟩)
        go_ret
        exact ⟨rfl, HL7.out.trans (hl8.mono HL7.out.size)⟩
      · obtain ⟨rfl, rfl⟩ := good_eqV HG.out BO.good d1
        exact absurd BO.min.asg (HNO.out _)
  · have hgd := pri_good hok
    obtain ⟨⟨d1, d2, d3⟩, -⟩ := okS_t hok
    rw [← HN.out, ← HM.out] at hgd
    rw [← HN.out] at d1 d2
    rw [← HM.out] at d2 d3
    have HCH : Hid (chkT (priL j1 q1 bend trim) = true) := Lib.hid (chkT_of d1 d2 d3 hgd)
    have HG := Lib.hid hgd
    have HOK := Lib.hid hok
    have HRS := Lib.hid VO.res
    have HOF := Lib.hid VO.offs
    have HMIN := Lib.hid VO.min
    obtain ⟨C, hC⟩ : ∃ C, C = costN (cst (priL j1 q1 bend trim)) tu N := ⟨_, rfl⟩
    rw [← hC]
    have HC := Lib.hid hC
    clear hok hgd VO hC
    go_wp2_with (fail)
    refine (HRT.out).mono ?_
    rintro e w5 ⟨hl5, ⟨hok', -⟩ | ⟨-, v, es, rfl, hH, hv, hnn, hE⟩⟩
    · rw [HOK.out] at hok'; cases hok'
    · obtain ⟨gr, capr, rfl, hTr⟩ := hH.tab hv hnn
      have hlen : es.length = N := by
        have := congrArg List.length hE
        rw [List.length_map] at this
        rw [this]; exact HG.out.rows
      rw [hE] at hTr
      have hbe := best_any (some ⟨gr, 0, none⟩) capr N (priL j1 q1 bend trim) w5 hTr HG.out.rows.symm
      have HBE := Lib.hid hbe
      have HB5 := Lib.hid (HB4.out.trans (hl5.mono hl34))
      have HRS5 := Lib.hid (HRS.out.keep hl5)
      have HOF5 := Lib.hid (HOF.out.keep hl5)
      rw [hlen]
      clear hbe hl5 hTr hH hv hnn hE hlen s0 s1 s2 s3 HRS HOF HB4
      go_wp2_with (fail)
      refine (HBE.out).mono ?_
      intro e w6 hpost
      have hl6 := hpost.1
      rcases hpost.2 with ⟨hf, _⟩ | ⟨n', m', _, _, hG', _, hno, _⟩ | ⟨n', m', ht, gu, gv, tv, u, v, _, hn', BO, rfl⟩
      · rw [HCH.out] at hf; cases hf
      · obtain ⟨rfl, rfl⟩ := good_eqV HG.out hG' d1
        exact absurd HMIN.out.asg (hno _)
      · obtain ⟨rfl, rfl⟩ := good_eqV HG.out BO.good d1
        obtain ⟨hco, hto⟩ := BO.min.unique HMIN.out
        rw [hco, ← HC.out]
        have hr := BO.res
        rw [fl_congr (f := fun i => (tv i : Int)) (g := fun i => (tu i : Int)) (fun i hi => by rw [hto i hi])] at hr
        obtain ⟨O, hO⟩ : ∃ O, O = Obj.cells #[.slice (some ⟨ht, 0, none⟩) N N, .slice (some ⟨gu, 0, none⟩) N N, .slice (some ⟨gv, 0, none⟩) M M, .int .i64 C] 35 := ⟨_, rfl⟩
        have hbn : Blk 35 (w6.alloc O) w6.heap.size [.slice (some ⟨ht, 0, none⟩) N N, .slice (some ⟨gu, 0, none⟩) N N, .slice (some ⟨gv, 0, none⟩) M M, .int .i64 C] := by rw [hO]; exact Blk.new w6 35 _
        have hb6 := HB5.out.trans (hl6.mono HB5.out.size)
        have HB6 := Lib.hid (hb6.alloc hb6.size O)
        have HBN := Lib.hid hbn
        have HRS6 := Lib.hid ((HRS5.out.keep hl6).alloc O)
        have HOF6 := Lib.hid ((HOF5.out.keep hl6).alloc O)
        have HHT := Lib.hid (hr.alloc O)
        have HO := Lib.hid hO
        clear hpost hl6 hn' BO hco hto hr hO hbn hb6 HB5 HRS5 HOF5 HBE HL4
        go_upto_region 9 with (fail)
        rw [← HO.out]
        obtain ⟨b10, h10⟩ : ∃ x, x = w6.heap.size := ⟨_, rfl⟩
        rw [← h10] at HBN ⊢
        clear HO h10
        generalize w6.alloc O = W6 at *
        have hsm := same_any (some ⟨gt, 0, none⟩) (some ⟨ht, 0, none⟩) N N N N ((List.range N).map fun i => (tu i : Int)) ((List.range N).map fun i => (tu i : Int)) W6 (by have := (Hd.of_blk HRS6.out).vals; rwa [fl_is] at this) (by have := (Hd.of_blk HHT.out).vals; rwa [fl_is] at this) (by simp) (by simp) (by omega) (by omega)
        rw [decide_eq_true rfl] at hsm
        have HSM := Lib.hid hsm
        have y0 : W6.cell? ⟨b10, 0, none⟩ = some (.slice (some ⟨ht, 0, none⟩) N N) := HBN.out.cell 0
        have hne : (C != C) = false := by simp
        have hne2 : ((N : Int) != (N : Int)) = false := by simp
        clear hsm
        go_wp2_with (first
          | (go_at_call 31; refine (HSM.out).mono ?_; rintro e w7 ⟨rfl, hl7⟩
             have y3 : w7.cell? ⟨b10, 3, none⟩ = some (.int .i64 C) := (HBN.out.keep hl7).cell 3
             obtain ⟨⟨s0, s1, s2, s3⟩, -⟩ := HKP.out w7 (HB6.out.trans (hl7.mono HB6.out.size))
             clear s1 s2 s3)
          | (go_at_call 26; refine (lives_any _).mono ?_; rintro e w8 ⟨rfl, hl8⟩))
        have hb7 := HB6.out.trans (hl7.mono HB6.out.size)
        have hb8 := hb7.trans (hl8.mono hb7.size)
        have HB8 := Lib.hid hb8
        have hl78 := hl7.trans (hl8.mono hl7.size)
        have HRS8 := Lib.hid (HRS6.out.keep hl78)
        have HOF8 := Lib.hid (HOF6.out.keep hl78)
        clear hb7 hb8 hl78 hl7 hl8 HRS6 HOF6 HHT HSM HBN HB6 y0 y3 s0 hne hne2
        go_loopw [12] (fun t wr => ∃ i : Nat, i ≤ N ∧ t = .int .i64 (i : Int) ∧ Hid (Below W3.heap.size W3 wr) ∧ Hid (Blk 3 wr gt (fl (fun i => (tu i : Int)) N)) ∧ Hid (Blk 3 wr go (fl (offF j1 q1 tu) N))) (fun t _ => N - (intOf t).toNat)
        case atStart => exact ⟨0, Nat.zero_le _, rfl, HB8, HRS8, HOF8⟩
        case round =>
          clear HB8 HRS8 HOF8
          obtain ⟨i, hin, rfl, HB8, HRS8, HOF8⟩ := hrel
          by_cases hlt : i < N
          · have hlt2 : (i : Int) < (N : Int) := by omega
            obtain ⟨⟨t0, t1, -, -⟩, hj8, hq8⟩ := HKP.out wr HB8.out
            have htm : tu i < M := (HMIN.out.asg.ok i hlt).1
            have hok1 := (HMIN.out.asg.ok i hlt).2
            obtain ⟨gj, oj, x, ej, _, hx, _, hc1⟩ := JAt.at_ hj8 (i := i) (by have := HN.out; omega)
            obtain ⟨gq, oq, y, eq, _, hy, _, hc3⟩ := JAt.at_ hq8 (i := tu i) (by have := HM.out; omega)
            injection ej with ej
            injection ej with ej1 ej2
            subst ej1 ej2
            injection eq with eq
            injection eq with eq1 eq2
            subst eq1 eq2
            obtain ⟨ja, jb⟩ := x
            obtain ⟨qa, qb⟩ := y
            simp only [Nat.zero_add] at hc1 hc3
            obtain ⟨-, -, -, hjj, hqq⟩ := okS_t HOK.out
            have hjr := (okJ_t (hjj _ (List.mem_of_getElem? hx))).2
            have hqr := (okJ_t (hqq _ (List.mem_of_getElem? hy))).2
            simp only at hjr hqr
            rw [pri_at hx hy] at hok1
            have hle := pri_reach hok1
            simp only at hle
            have hoff := offF_at (to := tu) hx hy
            simp only at hoff
            obtain ⟨dv, hdv⟩ : ∃ d, d = offF j1 q1 tu i := ⟨_, rfl⟩
            have hd0 : 0 ≤ dv := by rw [hdv, hoff]; omega
            have w3 : IntKind.i64.wrap (qb - jb) = dv := by rw [wrapI (by omega) (by omega), hdv]; exact hoff.symm
            have z1 : wr.cell? ⟨gt, i, none⟩ = some (.int .i64 (tu i : Int)) := by rw [HRS8.out.cell, fl_at hlt]
            have z2 : wr.cell? ⟨go, i, none⟩ = some (.int .i64 dv) := by rw [HOF8.out.cell, fl_at hlt, ← hdv]
            have HBZ : ∀ z, Hid (Below W3.heap.size W3 (wr.drewN z)) := fun z => Lib.hid (below_drewN HB8.out z)
            have HRZ : ∀ z, Hid (Blk 3 (wr.drewN z) gt (fl (fun i => (tu i : Int)) N)) := fun z => Lib.hid (HRS8.out.drewN z)
            have HOZ : ∀ z, Hid (Blk 3 (wr.drewN z) go (fl (offF j1 q1 tu) N)) := fun z => Lib.hid (HOF8.out.drewN z)
            have hti : ∃ t, t = tu i := ⟨_, rfl⟩
            obtain ⟨ti, hti⟩ := hti
            rw [← hti] at z1 hc3 htm
            clear hti
            have a1 : decide ((ti : Int) < 0) = false := by simp
            have a2 : decide ((ti : Int) ≥ (M : Int)) = false := by simp; omega
            have a2' : decide ((M : Int) ≤ (ti : Int)) = false := by simp; omega
            have a2'' : decide (M ≤ ti) = false := by simp; omega
            have a3 : (dv != dv) = false := by simp
            have a4 : decide (dv < 0) = false := by simp; omega
            have htI : (ti : Int) < (M : Int) := by omega
            have ht0 : (0 : Int) ≤ (ti : Int) := by omega
            clear hx hy hjj hqq hjr hqr hok1 hle hoff hdv hd0 hj8 hq8 HB8 HRS8 HOF8
            go_wp2_with (fail)
            go_quiet (fail)
            go_wp2_with (fail)
            go_roundw
            case rel => exact ⟨i + 1, by omega, by go_num, HBZ _, HRZ _, HOZ _⟩
            case measure => simp [intOf]; omega
          · obtain rfl : i = N := by omega
            go_wp2_with (fail)
            go_ret
            exact ⟨rfl, HL3.out.trans (HB8.out.mono HL3.out.size)⟩
end Go.Proofs.Ytncmfjncdhhjoaa
