/- made: a setup whose list is at most a little longer than it may be. -/
import Derived.Test.YtpaemlkikkcjiaaWPlay
import Derived.Test.YtpaemlkikkcjiaaShlS
import Derived.Test.YtpaemlkikkcjiaaNrow
namespace Go.Proofs.Ytpaemlkikkcjiaa
open Go.RowKit

theorem und42 : (Try.prog.underlying 42).map (fun d => match d with | .struct _ | .array _ _ => true | _ => false) = some true := by kernel_rfl
theorem size42 : (Try.prog.info? 42).map (·.size) = some 3 := by kernel_rfl
theorem rgL_take (l : List Rg) (n : Nat) : (rgL l).take (n * 4) = rgL (l.take n) := by
  induction l generalizing n with
  | nil => simp [rgL]
  | cons x l ih =>
    cases n with
    | zero => simp [rgL]
    | succ n =>
      have e : (n + 1) * 4 = 4 + n * 4 := by omega
      show (rgC x ++ rgL l).take ((n + 1) * 4) = rgC x ++ rgL (l.take n)
      rw [e, List.take_append, ← ih n]
      have h4 : (rgC x).length = 4 := rfl
      rw [h4, List.take_of_length_le (by rw [h4]; omega)]
      congr 2; omega
theorem unhide {p : Prop} (h : Hid p) : p := h.out
theorem own_ge {B g n c : Nat} (h : B ≤ g) : ∀ b, (Value.slice (some ⟨g, 0, none⟩) n c).ownBlock = some b → B ≤ b := by
  intro b hb
  simp only [Value.ownBlock, Option.some.injEq] at hb
  omega
theorem vals_set {W : World} {g g' i : Nat} {vs : List Value} (h : Vals W (some ⟨g, 0, none⟩) vs) (hne : g ≠ g') (v : Value) : Vals (W.setCell ⟨g', i, none⟩ v) (some ⟨g, 0, none⟩) vs := by
  intro hl
  obtain ⟨g1, off, e, hg, hc⟩ := h hl
  injection e with e
  injection e with e1 e2
  subst e1 e2
  exact ⟨g, 0, rfl, by simpa using hg, fun j u hu => by rw [World.cell?_setCell_far _ _ _ _ (by simpa using Ne.symm hne)]; exact hc j u hu⟩
set_option maxHeartbeats 4000000 in
set_option maxRecDepth 100000 in
theorem made_of (K sp : Int) (A : Option Addr) (n c : Nat) (l : List Rg) (w : World) (hA : RegsArg w A n c l) :
    Calls Try.prog 36 #[.agg #[.int .i64 K, .int .i64 sp, .slice A n c]] w fun e w' => ∃ g cap, e = .returned (.agg #[.int .i64 K, .int .i64 sp, .slice (some ⟨g, 0, none⟩) (l.take 5).length cap]) ∧ Vals w' (some ⟨g, 0, none⟩) (rgL (l.take 5)) ∧ Below w.heap.size w w' := by
  obtain ⟨hv, hn, hnc, hnil, hcm⟩ := hA
  obtain ⟨i0, hi, hz0, hz1, hz2⟩ := info_parts infoReg
  obtain ⟨d', hd', hm⟩ := Option.map_eq_some_iff.1 und42
  have hv0 : Vals ((w.alloc (.cells #[.int .i64 K, .int .i64 sp, .slice A n c] 42)).alloc (.cells #[.int .i64 0, .int .i64 0, .slice none 0 0] 42)) A (rgL l) := Vals.alloc (Vals.alloc hv _) _
  have hq1 : Blk 42 ((w.alloc (.cells #[.int .i64 K, .int .i64 sp, .slice A n c] 42)).alloc (.cells #[.int .i64 0, .int .i64 0, .slice none 0 0] 42)) w.heap.size [.int .i64 K, .int .i64 sp, .slice A n c] := (Blk.new w 42 _).alloc _
  have hq2 : Blk 42 ((w.alloc (.cells #[.int .i64 K, .int .i64 sp, .slice A n c] 42)).alloc (.cells #[.int .i64 0, .int .i64 0, .slice none 0 0] 42)) (w.heap.size + 1) [.int .i64 0, .int .i64 0, .slice none 0 0] := by
    have := Blk.new (w.alloc (.cells #[.int .i64 K, .int .i64 sp, .slice A n c] 42)) 42 [.int .i64 0, .int .i64 0, .slice none 0 0]
    simpa using this
  have hb0 := below_on (below_new w (.cells #[.int .i64 K, .int .i64 sp, .slice A n c] 42)) (below_new w (.cells #[.int .i64 K, .int .i64 sp, .slice A n c] 42)).size (below_new (w.alloc (.cells #[.int .i64 K, .int .i64 sp, .slice A n c] 42)) (.cells #[.int .i64 0, .int .i64 0, .slice none 0 0] 42))
  have hs0 : ((w.alloc (.cells #[.int .i64 K, .int .i64 sp, .slice A n c] 42)).alloc (.cells #[.int .i64 0, .int .i64 0, .slice none 0 0] 42)).heap.size = w.heap.size + 2 := by simp
  have HS0 := Lib.hid hs0
  clear hs0
  have HV : Hid (∀ W, Below w.heap.size w W → Vals W A (rgL (l.take 5))) := Lib.hid (fun W h => by
    have := (Vals.keep hv h).take (5 * 4)
    rwa [rgL_take] at this)
  have HN := Lib.hid hn
  have HQ1 := Lib.hid hq1
  have HQ2 := Lib.hid hq2
  have HB0 := Lib.hid hb0
  have c10 : ((w.alloc (.cells #[.int .i64 K, .int .i64 sp, .slice A n c] 42)).alloc (.cells #[.int .i64 0, .int .i64 0, .slice none 0 0] 42)).cell? ⟨w.heap.size, 2, none⟩ = some (.slice A n c) := hq1.cell 2
  have f10 : ((w.alloc (.cells #[.int .i64 K, .int .i64 sp, .slice A n c] 42)).alloc (.cells #[.int .i64 0, .int .i64 0, .slice none 0 0] 42)).frozen? ⟨w.heap.size, 2, none⟩ = false := hq1.frozen 2
  have hone := rgL_one (l.take 5)
  have HON := Lib.hid hone
  have hrl := rgL_len (l.take 5)
  have HRL := Lib.hid hrl
  clear hv hv0 hn hq1 hq2 hb0 hone hrl
  by_cases h5 : 5 < n
  · obtain ⟨ad, rfl⟩ : ∃ ad, A = some ad := by
      cases A with
      | none => have := hnil rfl; omega
      | some ad => exact ⟨ad, rfl⟩
    have d1 : decide ((5 : Int) < (n : Int)) = true := by simp; omega
    have d1' : decide (5 < n) = true := by simp; omega
    have s1 : (5 : Nat) ≤ c := by omega
    have s2 : ¬ c < 5 := by omega
    have s3 : ¬ (c : Int) < 5 := by omega
    have hl5 : (l.take 5).length = 5 := by rw [List.length_take]; have := HN.out; omega
    have HL5 := Lib.hid hl5
    clear hnil hl5
    rw [HL5.out]
    go_enter Try.func36, Try.ntmps36
    go_upto_region 1 with (fail)
    generalize hV : (w.alloc (.cells #[.int .i64 K, .int .i64 sp, .slice (some ad) n c] 42)).alloc (.cells #[.int .i64 0, .int .i64 0, .slice none 0 0] 42) = V at *
    clear hV
    go_upto_region 3 with (fail)
    have hq1' := HQ1.out.set 2 (.slice (some ad) 5 c)
    have hq2' := HQ2.out.setOther (a := ⟨w.heap.size, 2, none⟩) (by simp) (.slice (some ad) 5 c)
    have hb1 := below_set HB0.out (Nat.le_refl _) (i := 2) (.slice (some ad) 5 c)
    have hs1 : (V.setCell ⟨w.heap.size, 2, none⟩ (.slice (some ad) 5 c)).heap.size = w.heap.size + 2 := by rw [World.size_setCell, HS0.out]
    have HS1 := Lib.hid hs1
    clear c10 f10 HQ1 HQ2 HB0 HS0 hs1
    generalize V.setCell ⟨w.heap.size, 2, none⟩ (.slice (some ad) 5 c) = V2 at *
    have ho := own_new V2 84 4
    have hbA := below_new V2 (.cells #[] 84)
    have hqa := hq1'.alloc (.cells #[] 84)
    have hqb := hq2'.alloc (.cells #[] 84)
    have hbz := below_on hb1 hb1.size hbA
    have hvv := HV.out _ hbz
    have c2' : (V2.alloc (.cells #[] 84)).cell? ⟨w.heap.size, 2, none⟩ = some (.slice (some ad) 5 c) := hqa.cell 2
    have HVV := Lib.hid hvv
    have HO := Lib.hid ho
    have HQA := Lib.hid hqa
    have HQB := Lib.hid hqb
    have HBZ := Lib.hid hbz
    have hbs : w.heap.size ≤ (V2.alloc (.cells #[] 84)).heap.size := hbz.size
    have HS8 : Hid (V2.heap.size = w.heap.size + 2) := Lib.hid HS1.out
    clear hq1' hq2' hb1 hqa hqb hvv ho hbz HV hbA
    go_wp2_with (at_builtin; refine wpList_append_own _ rfl _ _ 40 rfl V2.heap.size 84 i0 zReg 4 32 Try.underlying40 hi hz0 hz1 hz2 rfl (by decide) _ _ _ rfl HO.out ad 5 _ (rgL (l.take 5)) rfl ?c1x (vals_cells HVV.out) HON.out ?c4x ?c5x (by simp) ?_)
    case c1x => rw [HRL.out, HL5.out]
    case c4x => unfold maxLen; have := HL5.out; rw [List.length_take] at this; omega
    all_goals (try (have := HL5.out; rw [List.length_take] at this; omega))
    intro v' w1 hown hgr hne
    have hb2 := HBZ.out.grown hgr hbs (own_ge (by have := HS8.out; omega))
    have hres := own_hd hown (by simpa using hne)
    have k1 := HQA.out.grown hgr (nrow2 (by have := HS8.out; omega))
    have k2 := HQB.out.grown hgr (nrow2 (by have := HS8.out; omega))
    try simp only [Nat.zero_add, List.nil_append] at hres
    obtain ⟨g, cap, rfl, hgB, hcp, hcx, hl4, hhd⟩ := hres
    have hvx := hhd.vals
    have hgB2 : w.heap.size + 2 ≤ g := by have := HS8.out; omega
    clear hown hgr hne hhd hl4 c2' HQA HQB HBZ HVV HO
    have e2 : w1.cell? ⟨w.heap.size, 2, none⟩ = some (.slice (some ad) 5 c) := k1.cell 2
    have f2 := k1.frozen 2
    have K1 := Lib.hid (k1.set 2 (.slice (some ⟨g, 0, none⟩) 5 cap))
    have K2 := Lib.hid (k2.setOther (a := ⟨w.heap.size, 2, none⟩) (by simp) (.slice (some ⟨g, 0, none⟩) 5 cap))
    have B2 := Lib.hid (below_set hb2 (Nat.le_refl _) (i := 2) (.slice (some ⟨g, 0, none⟩) 5 cap))
    have VX := Lib.hid (vals_set hvx (g' := w.heap.size) (i := 2) (by have := HS8.out; omega) (.slice (some ⟨g, 0, none⟩) 5 cap))
    clear k1 k2 hb2 hvx
    go_upto_region 4 with (fail)
    clear e2 f2
    generalize w1.setCell ⟨w.heap.size, 2, none⟩ (.slice (some ⟨g, 0, none⟩) 5 cap) = w2 at *
    have e0 : w2.cell? ⟨w.heap.size, 0, none⟩ = some (.int .i64 K) := K1.out.cell 0
    have e1 : w2.cell? ⟨w.heap.size, 1, none⟩ = some (.int .i64 sp) := K1.out.cell 1
    have e2 : w2.cell? ⟨w.heap.size, 2, none⟩ = some (.slice (some ⟨g, 0, none⟩) 5 cap) := K1.out.cell 2
    have r0 : w2.cell? ⟨w.heap.size + 1, 0, none⟩ = some (.int .i64 0) := K2.out.cell 0
    have r1 : w2.cell? ⟨w.heap.size + 1, 1, none⟩ = some (.int .i64 0) := K2.out.cell 1
    have r2 : w2.cell? ⟨w.heap.size + 1, 2, none⟩ = some (.slice none 0 0) := K2.out.cell 2
    have fr := K2.out.frozen
    have r3 := K2.out.set 0 (.int .i64 K)
    have r4 := r3.set 1 (.int .i64 sp)
    have r5 := r4.set 2 (.slice (some ⟨g, 0, none⟩) 5 cap)
    have hbe := below_set (below_set (below_set B2.out (g := w.heap.size + 1) (by omega) (i := 0) (.int .i64 K)) (g := w.heap.size + 1) (by omega) (i := 1) (.int .i64 sp)) (g := w.heap.size + 1) (by omega) (i := 2) (.slice (some ⟨g, 0, none⟩) 5 cap)
    have hne1 : g ≠ w.heap.size + 1 := by have := HS8.out; omega
    have hve := vals_set (vals_set (vals_set VX.out hne1 (i := 0) (.int .i64 K)) hne1 (i := 1) (.int .i64 sp)) hne1 (i := 2) (.slice (some ⟨g, 0, none⟩) 5 cap)
    have HR5 := Lib.hid r5
    have HBE := Lib.hid hbe
    have HVE := Lib.hid hve
    clear r3 r4 r5 hbe hve hne1
    go_wp2_with (fail)
    refine bodyPost_ret (results_cell_row rfl _ _ _ _ _ _ d' rfl HR5.out hd' ?_ size42) rfl ⟨g, _, rfl, HVE.out, HBE.out⟩
    cases d' <;> first | rfl | exact absurd hm (by simp)

  · have d1 : decide ((5 : Int) < (n : Int)) = false := by simp; omega
    have d1' : decide (5 < n) = false := by simp; omega
    have hl5 : (l.take 5).length = n := by rw [List.length_take]; have := HN.out; omega
    have HL5 := Lib.hid hl5
    clear hl5
    rw [HL5.out]
    rcases A with _ | ad
    · obtain rfl : c = 0 := hnil rfl
      obtain rfl : n = 0 := by omega
      clear hnil
      go_enter Try.func36, Try.ntmps36
      go_upto_region 1 with (fail)
      generalize hV : (w.alloc (.cells #[.int .i64 K, .int .i64 sp, .slice none 0 0] 42)).alloc (.cells #[.int .i64 0, .int .i64 0, .slice none 0 0] 42) = V at *
      clear hV
      go_upto_region 3 with (fail)
      have hq1' := HQ1.out
      have hq2' := HQ2.out
      have hb1 := HB0.out
      have ho := own_new V 84 4
      have hbA := below_new V (.cells #[] 84)
      have hqa := hq1'.alloc (.cells #[] 84)
      have hqb := hq2'.alloc (.cells #[] 84)
      have hbz := below_on hb1 hb1.size hbA
      have hvv := HV.out _ hbz
      have c2' : (V.alloc (.cells #[] 84)).cell? ⟨w.heap.size, 2, none⟩ = some (.slice none 0 0) := hqa.cell 2
      have HVV := Lib.hid hvv
      have HO := Lib.hid ho
      have HQA := Lib.hid hqa
      have HQB := Lib.hid hqb
      have HBZ := Lib.hid hbz
      have hbs : w.heap.size ≤ (V.alloc (.cells #[] 84)).heap.size := hbz.size
      have HS8 : Hid (V.heap.size = w.heap.size + 2) := Lib.hid HS0.out
      clear hq1' hq2' hb1 hqa hqb hvv ho hbz HV hbA
      have HT : Hid (l.take 5 = []) := Lib.hid (List.eq_nil_of_length_eq_zero HL5.out)
      go_wp2_with (at_builtin; refine unhide ?_)
      refine Lib.hid ?_
      refine wpList_append_own_none rfl _ _ 40 rfl V.heap.size 84 i0 4 Try.underlying40 hi _ _ _ rfl HO.out rfl ?_
      have k1 := HQA.out
      have k2 := HQB.out
      have hb2 := HBZ.out
      have hvx : Vals (V.alloc (.cells #[] 84)) (some ⟨V.heap.size, 0, none⟩) (rgL (l.take 5)) := by rw [HT.out]; exact Vals.nil
      have hgB : V.heap.size ≤ V.heap.size := Nat.le_refl _
      generalize V.alloc (.cells #[] 84) = w1 at *
      clear c2' HO HVV HQA HQB HBZ
      generalize V.heap.size = g at *

      have e2 : w1.cell? ⟨w.heap.size, 2, none⟩ = some (.slice none 0 0) := k1.cell 2
      have f2 := k1.frozen 2
      have K1 := Lib.hid (k1.set 2 (.slice (some ⟨g, 0, none⟩) 0 0))
      have K2 := Lib.hid (k2.setOther (a := ⟨w.heap.size, 2, none⟩) (by simp) (.slice (some ⟨g, 0, none⟩) 0 0))
      have B2 := Lib.hid (below_set hb2 (Nat.le_refl _) (i := 2) (.slice (some ⟨g, 0, none⟩) 0 0))
      have VX := Lib.hid (vals_set hvx (g' := w.heap.size) (i := 2) (by have := HS8.out; omega) (.slice (some ⟨g, 0, none⟩) 0 0))
      clear k1 k2 hb2 hvx
      go_upto_region 4 with (fail)
      clear e2 f2
      generalize w1.setCell ⟨w.heap.size, 2, none⟩ (.slice (some ⟨g, 0, none⟩) 0 0) = w2 at *
      have e0 : w2.cell? ⟨w.heap.size, 0, none⟩ = some (.int .i64 K) := K1.out.cell 0
      have e1 : w2.cell? ⟨w.heap.size, 1, none⟩ = some (.int .i64 sp) := K1.out.cell 1
      have e2 : w2.cell? ⟨w.heap.size, 2, none⟩ = some (.slice (some ⟨g, 0, none⟩) 0 0) := K1.out.cell 2
      have r0 : w2.cell? ⟨w.heap.size + 1, 0, none⟩ = some (.int .i64 0) := K2.out.cell 0
      have r1 : w2.cell? ⟨w.heap.size + 1, 1, none⟩ = some (.int .i64 0) := K2.out.cell 1
      have r2 : w2.cell? ⟨w.heap.size + 1, 2, none⟩ = some (.slice none 0 0) := K2.out.cell 2
      have fr := K2.out.frozen
      have r3 := K2.out.set 0 (.int .i64 K)
      have r4 := r3.set 1 (.int .i64 sp)
      have r5 := r4.set 2 (.slice (some ⟨g, 0, none⟩) 0 0)
      have hbe := below_set (below_set (below_set B2.out (g := w.heap.size + 1) (by omega) (i := 0) (.int .i64 K)) (g := w.heap.size + 1) (by omega) (i := 1) (.int .i64 sp)) (g := w.heap.size + 1) (by omega) (i := 2) (.slice (some ⟨g, 0, none⟩) 0 0)
      have hne1 : g ≠ w.heap.size + 1 := by have := HS8.out; omega
      have hve := vals_set (vals_set (vals_set VX.out hne1 (i := 0) (.int .i64 K)) hne1 (i := 1) (.int .i64 sp)) hne1 (i := 2) (.slice (some ⟨g, 0, none⟩) 0 0)
      have HR5 := Lib.hid r5
      have HBE := Lib.hid hbe
      have HVE := Lib.hid hve
      clear r3 r4 r5 hbe hve hne1
      go_wp2_with (fail)
      refine bodyPost_ret (results_cell_row rfl _ _ _ _ _ _ d' rfl HR5.out hd' ?_ size42) rfl ⟨g, _, rfl, HVE.out, HBE.out⟩
      cases d' <;> first | rfl | exact absurd hm (by simp)

    · clear hnil
      go_enter Try.func36, Try.ntmps36
      go_upto_region 1 with (fail)
      generalize hV : (w.alloc (.cells #[.int .i64 K, .int .i64 sp, .slice (some ad) n c] 42)).alloc (.cells #[.int .i64 0, .int .i64 0, .slice none 0 0] 42) = V at *
      clear hV
      go_upto_region 3 with (fail)
      have hq1' := HQ1.out
      have hq2' := HQ2.out
      have hb1 := HB0.out
      have ho := own_new V 84 4
      have hbA := below_new V (.cells #[] 84)
      have hqa := hq1'.alloc (.cells #[] 84)
      have hqb := hq2'.alloc (.cells #[] 84)
      have hbz := below_on hb1 hb1.size hbA
      have hvv := HV.out _ hbz
      have c2' : (V.alloc (.cells #[] 84)).cell? ⟨w.heap.size, 2, none⟩ = some (.slice (some ad) n c) := hqa.cell 2
      have HVV := Lib.hid hvv
      have HO := Lib.hid ho
      have HQA := Lib.hid hqa
      have HQB := Lib.hid hqb
      have HBZ := Lib.hid hbz
      have hbs : w.heap.size ≤ (V.alloc (.cells #[] 84)).heap.size := hbz.size
      have HS8 : Hid (V.heap.size = w.heap.size + 2) := Lib.hid HS0.out
      clear hq1' hq2' hb1 hqa hqb hvv ho hbz HV hbA
      go_wp2_with (at_builtin; refine wpList_append_own _ rfl _ _ 40 rfl V.heap.size 84 i0 zReg 4 32 Try.underlying40 hi hz0 hz1 hz2 rfl (by decide) _ _ _ rfl HO.out ad n _ (rgL (l.take 5)) rfl ?c1y (vals_cells HVV.out) HON.out ?c4y ?c5y (by simp) ?_)
      case c1y => rw [HRL.out, HL5.out]
      case c4y => unfold maxLen; have := HL5.out; rw [List.length_take] at this; omega
      all_goals (try (have := HL5.out; rw [List.length_take] at this; omega))
      intro v' w1 hown hgr hne
      have hb2 := HBZ.out.grown hgr hbs (own_ge (by have := HS8.out; omega))
      have hres := own_hd hown (by simpa using hne)
      have k1 := HQA.out.grown hgr (nrow2 (by have := HS8.out; omega))
      have k2 := HQB.out.grown hgr (nrow2 (by have := HS8.out; omega))
      try simp only [Nat.zero_add, List.nil_append] at hres
      obtain ⟨g, cap, rfl, hgB, hcp, hcx, hl4, hhd⟩ := hres
      have hvx := hhd.vals
      have hgB2 : w.heap.size + 2 ≤ g := by have := HS8.out; omega
      clear hown hgr hne hhd hl4 c2' HQA HQB HBZ HVV HO
      have e2 : w1.cell? ⟨w.heap.size, 2, none⟩ = some (.slice (some ad) n c) := k1.cell 2
      have f2 := k1.frozen 2
      have K1 := Lib.hid (k1.set 2 (.slice (some ⟨g, 0, none⟩) n cap))
      have K2 := Lib.hid (k2.setOther (a := ⟨w.heap.size, 2, none⟩) (by simp) (.slice (some ⟨g, 0, none⟩) n cap))
      have B2 := Lib.hid (below_set hb2 (Nat.le_refl _) (i := 2) (.slice (some ⟨g, 0, none⟩) n cap))
      have VX := Lib.hid (vals_set hvx (g' := w.heap.size) (i := 2) (by have := HS8.out; omega) (.slice (some ⟨g, 0, none⟩) n cap))
      clear k1 k2 hb2 hvx
      go_upto_region 4 with (fail)
      clear e2 f2
      generalize w1.setCell ⟨w.heap.size, 2, none⟩ (.slice (some ⟨g, 0, none⟩) n cap) = w2 at *
      have e0 : w2.cell? ⟨w.heap.size, 0, none⟩ = some (.int .i64 K) := K1.out.cell 0
      have e1 : w2.cell? ⟨w.heap.size, 1, none⟩ = some (.int .i64 sp) := K1.out.cell 1
      have e2 : w2.cell? ⟨w.heap.size, 2, none⟩ = some (.slice (some ⟨g, 0, none⟩) n cap) := K1.out.cell 2
      have r0 : w2.cell? ⟨w.heap.size + 1, 0, none⟩ = some (.int .i64 0) := K2.out.cell 0
      have r1 : w2.cell? ⟨w.heap.size + 1, 1, none⟩ = some (.int .i64 0) := K2.out.cell 1
      have r2 : w2.cell? ⟨w.heap.size + 1, 2, none⟩ = some (.slice none 0 0) := K2.out.cell 2
      have fr := K2.out.frozen
      have r3 := K2.out.set 0 (.int .i64 K)
      have r4 := r3.set 1 (.int .i64 sp)
      have r5 := r4.set 2 (.slice (some ⟨g, 0, none⟩) n cap)
      have hbe := below_set (below_set (below_set B2.out (g := w.heap.size + 1) (by omega) (i := 0) (.int .i64 K)) (g := w.heap.size + 1) (by omega) (i := 1) (.int .i64 sp)) (g := w.heap.size + 1) (by omega) (i := 2) (.slice (some ⟨g, 0, none⟩) n cap)
      have hne1 : g ≠ w.heap.size + 1 := by have := HS8.out; omega
      have hve := vals_set (vals_set (vals_set VX.out hne1 (i := 0) (.int .i64 K)) hne1 (i := 1) (.int .i64 sp)) hne1 (i := 2) (.slice (some ⟨g, 0, none⟩) n cap)
      have HR5 := Lib.hid r5
      have HBE := Lib.hid hbe
      have HVE := Lib.hid hve
      clear r3 r4 r5 hbe hve hne1
      go_wp2_with (fail)
      refine bodyPost_ret (results_cell_row rfl _ _ _ _ _ _ d' rfl HR5.out hd' ?_ size42) rfl ⟨g, _, rfl, HVE.out, HBE.out⟩
      cases d' <;> first | rfl | exact absurd hm (by simp)

end Go.Proofs.Ytpaemlkikkcjiaa
