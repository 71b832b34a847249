/- few: a copy of the first shapes; sides beyond 20 are brought below. -/
import Derived.Test.YtkfjlgjncaddpaaPMem
import Derived.Deep.Cut
import Derived.Laws.ResultCell
namespace Go.Proofs.Ytkfjlgjncaddpaa
open Go.RowKit

def cut20 (x : Int) : Int := if 20 < x ∧ x ≤ 64 then x % 20 + 1 else x
def fewL (ss : List Sh) : List Sh := ss.take 17
theorem own_emptyS (w : World) (T k : Nat) : (w.alloc (.cells #[] T)).ownsRow w.heap.size T k (.slice (some ⟨w.heap.size, 0, none⟩) 0 0) 0 [] := own_new w T k
/-- What few leaves. -/
def FewPost (W H K : Int) (ss : List Sh) (w : World) (e : Ending) (w' : World) : Prop :=
  ∃ g cap, e = .returned (.agg #[.int .i64 (cut20 W), .int .i64 (cut20 H), .int .i64 K, .slice (some ⟨g, 0, none⟩) (fewL ss).length cap]) ∧ w.heap.size ≤ g ∧ (fewL ss).length ≤ cap ∧ cap ≤ maxLen ∧ Hd 65 w' g (cap * 4) (sc (fewL ss)) ∧ Below w.heap.size w w'
/-- The box of the panel, the box of the result. -/
structure FwM (w wr : World) (q q1 : Nat) (W H K : Int) (v : Value) : Prop where
  bx : Blk 24 wr q [.int .i64 W, .int .i64 H, .int .i64 K, v]
  rv : Blk 24 wr q1 [.int .i64 0, .int .i64 0, .int .i64 0, .slice none 0 0]
  bel : Below w.heap.size w wr
  far : w.heap.size ≤ q ∧ q < q1
theorem heap_setCell_size (w : World) (a : Addr) (v : Value) : (w.setCell a v).heap.size = w.heap.size := by simp
theorem bel_allocF {B : Nat} {a w : World} {o : Obj} (h : Below B a w) (hB : B ≤ w.heap.size) : Below B a (w.alloc o) := h.alloc hB o
theorem unhideF {p : Prop} (h : Hid p) : p := h.out
theorem nrow2 {g g' : Nat} {n c : Nat} (h : g ≠ g') : some g ≠ (Value.slice (some ⟨g', 0, none⟩) n c).ownBlock := by
  simp only [Value.ownBlock, ne_eq, Option.some.injEq]
  exact h
theorem und24 : (Try.prog.underlying 24).map (fun d => match d with | .struct _ | .array _ _ => true | _ => false) = some true := by kernel_rfl
theorem size24 : (Try.prog.info? 24).map (·.size) = some 4 := by kernel_rfl

set_option maxHeartbeats 2000000 in
set_option maxRecDepth 100000 in
theorem few_any (W H K : Int) (A : Option Addr) (c L : Nat) (ss : List Sh) (w : World) (hA : ShAt w A ss) (hL : L = ss.length) (hc : L ≤ c) (hnil : A = none → c = 0) (hW : -9223372036854775808 ≤ W ∧ W ≤ 9223372036854775807) (hH : -9223372036854775808 ≤ H ∧ H ≤ 9223372036854775807) :
    Calls Try.prog 16 #[.agg #[.int .i64 W, .int .i64 H, .int .i64 K, .slice A L c]] w (FewPost W H K ss w) := by
  obtain ⟨m, hm⟩ : ∃ m, (fewL ss).length = m := ⟨_, rfl⟩
  have hmL : m = if 17 < L then 17 else L := by
    rw [← hm, hL]; unfold fewL
    rw [List.length_take]; split <;> omega
  have hpos : 0 < L → ∃ ad, A = some ad := fun h => by
    obtain ⟨g, off, e, _⟩ := hA (by rw [sc_len]; omega)
    exact ⟨_, e⟩
  have hAt : Vals w A (sc (fewL ss)) := by
    have := Vals.take hA (17 * 4)
    rw [sc_take] at this
    exact this
  obtain ⟨i0, hi, hz0, hz1, hz2⟩ := info_parts infoSh
  have hlen : (sc (fewL ss)).length = m * 4 := by rw [sc_len, hm]
  have hone := sc_one (fewL ss)
  obtain ⟨cs, hcs⟩ : ∃ cs, cs = sc (fewL ss) := ⟨_, rfl⟩
  rw [← hcs] at hlen hone hAt
  have HA := Lib.hid hAt
  have HLE := Lib.hid hlen
  have HON := Lib.hid hone
  have HCS := Lib.hid hcs
  have HM := Lib.hid hm
  clear hA hL hAt hlen hone hcs hm
  have hm17 : m ≤ 17 := by split at hmL <;> omega
  have hm63 : 0 + m ≤ maxLen := by unfold maxLen; omega
  have hm64 : (0 + m) * 32 ≤ 140737488355328 := by omega
  have hstart : ∀ sl : Value, ∃ W0, W0 = (w.alloc (.cells #[.int .i64 W, .int .i64 H, .int .i64 K, sl] 24)).alloc (.cells #[.int .i64 0, .int .i64 0, .int .i64 0, .slice none 0 0] 24) ∧ FwM w W0 w.heap.size (w.heap.size + 1) W H K sl := by
    intro sl
    refine ⟨_, rfl, ⟨(Blk.new w 24 [.int .i64 W, .int .i64 H, .int .i64 K, sl]).alloc _, ?_, ((Below.refl _ _).alloc (Nat.le_refl _) _).alloc (by simp) _, by omega⟩⟩
    have := Blk.new (w.alloc (.cells #[.int .i64 W, .int .i64 H, .int .i64 K, sl] 24)) 24 [.int .i64 0, .int .i64 0, .int .i64 0, .slice none 0 0]
    simpa using this
  obtain ⟨W1, hW1, hF1⟩ := hstart (.slice A L c)
  obtain ⟨W2, hW2, hF2⟩ := hstart (.slice A 17 c)
  have HW1 := Lib.hid hW1
  have HW2 := Lib.hid hW2
  have HF1 := Lib.hid hF1
  have HF2 := Lib.hid hF2
  have HML := Lib.hid hmL
  have HPO := Lib.hid hpos
  clear hstart hW1 hW2 hF1 hF2 hmL hpos
  obtain ⟨q, hq⟩ : ∃ q, q = w.heap.size := ⟨_, rfl⟩
  obtain ⟨q1, hq1⟩ : ∃ q1, q1 = w.heap.size + 1 := ⟨_, rfl⟩
  have HQ := Lib.hid hq
  have HQ1 := Lib.hid hq1
  rw [← hq1, ← hq] at HF1 HF2
  have hqq : q < q1 := by omega
  clear hq hq1
  go_enter Try.func16, Try.ntmps16
  go_upto_region 1 with (fail)
  rw [← HW1.out, ← HQ1.out, ← HQ.out]
  have x3 : W1.cell? ⟨q, 3, none⟩ = some (.slice A L c) := HF1.out.bx.cell 3
  go_upto_if 6 with (fail)
  go_cut [] from 3 (fun ww => FwM w ww q q1 W H K (.slice A m c))
  case first =>
    by_cases h17 : 17 < L
    · have hmL := HML.out
      rw [if_pos h17] at hmL
      subst hmL
      have d1 : decide ((17 : Int) < (L : Int)) = true := by simp; omega
      have d1' : decide (17 < L) = true := by simp; omega
      have s1 : (17 : Nat) ≤ c := by omega
      have s2 : ¬ c < 17 := by omega
      have s3 : ¬ (c : Int) < 17 := by omega
      obtain ⟨ad, rfl⟩ := HPO.out (by omega)
      have f0 := HF1.out.bx.frozen
      have hst : FwM w (W1.setCell ⟨q, 3, none⟩ (.slice (some ad) 17 c)) q q1 W H K (.slice (some ad) 17 c) := by
        have h := HF1.out
        exact ⟨h.bx.set 3 _, h.rv.setOther (a := ⟨q, 3, none⟩) (Nat.ne_of_gt hqq) _, below_set h.bel h.far.1 _, h.far⟩
      have HST := Lib.hid hst
      clear hst
      go_wp2_with (fail)
      go_meet
      case rel => exact HST.out
    · have hmL := HML.out
      rw [if_neg h17] at hmL
      subst hmL
      have d1 : decide ((17 : Int) < (m : Int)) = false := by simp; omega
      have d1' : decide (17 < m) = false := by simp; omega
      go_wp2_with (fail)
      go_meet
      case rel => exact HF1.out
  case rest =>
    have hF := hcut
    clear hcut HW1 HW2 HF1 HF2 x3
    have y3 : wc.cell? ⟨q, 3, none⟩ = some (.slice A m c) := hF.bx.cell 3
    have hbA := below_new wc (.cells #[] 65)
    have ho := own_new wc 65 4
    have HA1 := Lib.hid ((HA.out.keep (hF.bel)).keep hbA)
    have hFA : FwM w (wc.alloc (.cells #[] 65)) q q1 W H K (.slice A m c) := ⟨hF.bx.keep hbA, hF.rv.keep hbA, below_on hF.bel hF.bel.size hbA, hF.far⟩
    have lq : q < wc.heap.size := hF.bx.lt
    have lq1 : q1 < wc.heap.size := hF.rv.lt
    have lw : w.heap.size ≤ wc.heap.size := hF.bel.size
    have y3' : (wc.alloc (.cells #[] 65)).cell? ⟨q, 3, none⟩ = some (.slice A m c) := hFA.bx.cell 3
    have HFW := Lib.hid hF
    have HO := Lib.hid ho
    have HFA := Lib.hid hFA
    have HBA := Lib.hid hbA
    clear ho hF hFA hbA
    go_upto_region 3 with (fail)
    go_cut [] from 3 (fun ww => ∃ g cap, FwM w ww q q1 W H K (.slice (some ⟨g, 0, none⟩) m cap) ∧ w.heap.size ≤ g ∧ q1 < g ∧ m ≤ cap ∧ cap ≤ maxLen ∧ Hd 65 ww g (cap * 4) cs)
    case first =>
      rcases A with _ | ad
      · have h0 : m = 0 := by
          rcases Nat.eq_zero_or_pos m with h | h
          · exact h
          · have := HML.out
            obtain ⟨ad, e⟩ := HPO.out (by split at this <;> omega)
            cases e
        have hc0 := hnil rfl
        subst h0
        subst hc0
        have he : cs = [] := List.eq_nil_of_length_eq_zero (by have := HLE.out; omega)
        have hst : FwM w ((wc.setCell ⟨q, 3, none⟩ (.slice (some ⟨wc.heap.size, 0, none⟩) 0 0)).alloc (.cells #[] 65)) q q1 W H K (.slice (some ⟨wc.heap.size, 0, none⟩) 0 0) := by
          have h := HFW.out
          refine ⟨(h.bx.set 3 _).alloc _, (h.rv.setOther (a := ⟨q, 3, none⟩) (Nat.ne_of_gt hqq) _).alloc _, bel_allocF (below_set h.bel h.far.1 _) ?_, h.far⟩
          simpa using lw
        have hhd : Hd 65 ((wc.setCell ⟨q, 3, none⟩ (.slice (some ⟨wc.heap.size, 0, none⟩) 0 0)).alloc (.cells #[] 65)) wc.heap.size (0 * 4) cs := by
          rw [he]
          have h := Blk.new (wc.setCell ⟨q, 3, none⟩ (.slice (some ⟨wc.heap.size, 0, none⟩) 0 0)) 65 []
          simp only [heap_setCell_size] at h
          exact ⟨[], by simp, h⟩
        have HST := Lib.hid hst
        have HHD := Lib.hid hhd
        have f0 := HFA.out.bx.frozen
        clear he hst hhd
        go_wp2_with (at_builtin; refine wpList_append_own_none rfl _ _ 22 rfl wc.heap.size 65 i0 4 Try.underlying22 hi _ _ _ rfl HO.out rfl ?_)
        go_meet
        case rel => exact ⟨wc.heap.size, 0, HST.out, lw, lq1, Nat.le_refl _, by unfold maxLen; omega, HHD.out⟩
      · go_wp2_with (at_builtin; refine unhideF ?_)
        refine Lib.hid ?_
        refine wpList_append_own _ rfl _ _ 22 rfl wc.heap.size 65 i0 zSh 4 32 Try.underlying22 hi hz0 hz1 hz2 rfl (by decide) (.slice (some ⟨wc.heap.size, 0, none⟩) 0 0) 0 [] rfl HO.out ad m _ cs rfl HLE.out (vals_cells HA1.out) HON.out hm63 hm64 HBA.out.size ?_
        intro v' w1 hown hgr hne
        have hb1 := HBA.out.grown hgr HBA.out.size (by simp [Value.ownBlock])
        have hown2 : w1.ownsRow wc.heap.size 65 4 v' m cs := by simpa using hown
        have hne2 : v' ≠ .slice none 0 0 := by simpa using hne
        have hbx := HFA.out.bx.grown hgr (nrow2 (Nat.ne_of_lt lq))
        have hrv := HFA.out.rv.grown hgr (nrow2 (Nat.ne_of_lt lq1))
        have f3 : w1.cell? ⟨q, 3, none⟩ = some (.slice (some ad) m c) := hbx.cell 3
        have ff := hbx.frozen
        obtain ⟨g, cap, rfl, h1, h2, h3, h4, h5⟩ := own_hd hown2 hne2
        have HOWN := Lib.hid hown2
        clear hown hown2 hgr hne hne2
        go_wp2_with (fail)
        go_meet
        case rel =>
          refine ⟨g, cap, ⟨hbx.set 3 _, hrv.setOther (a := ⟨q, 3, none⟩) (Nat.ne_of_gt hqq) _, below_set (HFW.out.bel.trans (hb1.mono lw)) HFA.out.far.1 _, HFA.out.far⟩, by omega, by omega, h2, h3, h5.setOther (a := ⟨q, 3, none⟩) (by show g ≠ q; omega) _⟩
    case rest =>
      obtain ⟨g, cap, hF, hwg, hqg, hmc, hcm, hH⟩ := hcut
      clear HFA HFW HBA HO HA1 y3 y3' lq lq1 lw
      have hfin : ∀ (X Y : Int) (wr : World), FwM w wr q q1 X Y K (.slice (some ⟨g, 0, none⟩) m cap) → Blk 24 ((((wr.setCell ⟨q1, 0, none⟩ (.int .i64 X)).setCell ⟨q1, 1, none⟩ (.int .i64 Y)).setCell ⟨q1, 2, none⟩ (.int .i64 K)).setCell ⟨q1, 3, none⟩ (.slice (some ⟨g, 0, none⟩) m cap)) q1 [.int .i64 X, .int .i64 Y, .int .i64 K, .slice (some ⟨g, 0, none⟩) m cap] ∧ Below w.heap.size w ((((wr.setCell ⟨q1, 0, none⟩ (.int .i64 X)).setCell ⟨q1, 1, none⟩ (.int .i64 Y)).setCell ⟨q1, 2, none⟩ (.int .i64 K)).setCell ⟨q1, 3, none⟩ (.slice (some ⟨g, 0, none⟩) m cap)) := fun X Y wr hf => by
        have h := (((hf.rv.set 0 (.int .i64 X)).set 1 (.int .i64 Y)).set 2 (.int .i64 K)).set 3 (.slice (some ⟨g, 0, none⟩) m cap)
        have h1 : w.heap.size ≤ q1 := by have := hf.far; omega
        exact ⟨by simpa using h, below_set (below_set (below_set (below_set hf.bel h1 _) h1 _) h1 _) h1 _⟩
      go_upto_region 4 with (fail)
      have c0 : wc.cell? ⟨q, 0, none⟩ = some (.int .i64 W) := hF.bx.cell 0
      go_cut [23] from 3 (fun s ww => s = .bool (decide (20 < W) && decide (W ≤ 64)) ∧ ww = wc)
      case first =>
        by_cases h1 : 20 < W
        · have d1 : decide (20 < W) = true := by simpa using h1
          go_wp2_with (fail)
          go_meet
          case rel => exact ⟨by simp [h1], rfl⟩
        · have d1 : decide (20 < W) = false := by simpa using h1
          go_wp2_with (fail)
          go_meet
          case rel => exact ⟨by simp; omega, rfl⟩
      case rest =>
      obtain ⟨rfl, rfl⟩ := hcut
      go_upto_if 23 with (fail)
      go_cut [] from 3 (fun ww => FwM w ww q q1 (cut20 W) H K (.slice (some ⟨g, 0, none⟩) m cap) ∧ Hd 65 ww g (cap * 4) cs)
      case first =>
        by_cases h1 : 20 < W ∧ W ≤ 64
        · have d1 : (decide (20 < W) && decide (W ≤ 64)) = true := by simpa using h1
          have e1 : cut20 W = W % 20 + 1 := by unfold cut20; rw [if_pos h1]
          have e2 : IntKind.i64.wrap (W % 20 + 1) = W % 20 + 1 := wrapI (by omega) (by omega)
          have f0 := hF.bx.frozen
          have HE := Lib.hid e1
          have HF1 := Lib.hid hF
          have HH1 := Lib.hid hH
          obtain ⟨rv, hrv⟩ : ∃ rv, rv = W % 20 + 1 := ⟨_, rfl⟩
          rw [← hrv] at e2
          have HRV := Lib.hid hrv
          rw [hrv] at e2
          clear e1 hrv
          go_wp2_with (fail)
          go_meet
          case rel =>
            rw [HE.out]
            exact ⟨⟨HF1.out.bx.set 0 _, HF1.out.rv.setOther (a := ⟨q, 0, none⟩) (Nat.ne_of_gt hqq) _, below_set HF1.out.bel HF1.out.far.1 _, HF1.out.far⟩, HH1.out.setOther (a := ⟨q, 0, none⟩) (by show g ≠ q; omega) _⟩
        · have d1 : (decide (20 < W) && decide (W ≤ 64)) = false := by simpa using h1
          have e1 : cut20 W = W := by unfold cut20; rw [if_neg h1]
          have HE := Lib.hid e1
          clear e1
          go_wp2_with (fail)
          go_meet
          case rel =>
            rw [HE.out]
            exact ⟨hF, hH⟩
      case rest =>
      clear hF hH c0
      obtain ⟨hF, hH⟩ := hcut
      go_upto_region 6 with (fail)
      have c1 : wc.cell? ⟨q, 1, none⟩ = some (.int .i64 H) := hF.bx.cell 1
      go_cut [36] from 3 (fun s ww => s = .bool (decide (20 < H) && decide (H ≤ 64)) ∧ ww = wc)
      case first =>
        by_cases h1 : 20 < H
        · have d1 : decide (20 < H) = true := by simpa using h1
          go_wp2_with (fail)
          go_meet
          case rel => exact ⟨by simp [h1], rfl⟩
        · have d1 : decide (20 < H) = false := by simpa using h1
          go_wp2_with (fail)
          go_meet
          case rel => exact ⟨by simp; omega, rfl⟩
      case rest =>
      obtain ⟨rfl, rfl⟩ := hcut
      go_upto_if 36 with (fail)
      go_cut [] from 3 (fun ww => FwM w ww q q1 (cut20 W) (cut20 H) K (.slice (some ⟨g, 0, none⟩) m cap) ∧ Hd 65 ww g (cap * 4) cs)
      case first =>
        by_cases h1 : 20 < H ∧ H ≤ 64
        · have d1 : (decide (20 < H) && decide (H ≤ 64)) = true := by simpa using h1
          have e1 : cut20 H = H % 20 + 1 := by unfold cut20; rw [if_pos h1]
          have e2 : IntKind.i64.wrap (H % 20 + 1) = H % 20 + 1 := wrapI (by omega) (by omega)
          have f0 := hF.bx.frozen
          have HE := Lib.hid e1
          have HF1 := Lib.hid hF
          have HH1 := Lib.hid hH
          obtain ⟨rv, hrv⟩ : ∃ rv, rv = H % 20 + 1 := ⟨_, rfl⟩
          rw [← hrv] at e2
          have HRV := Lib.hid hrv
          rw [hrv] at e2
          clear e1 hrv
          go_wp2_with (fail)
          go_meet
          case rel =>
            rw [HE.out]
            exact ⟨⟨HF1.out.bx.set 1 _, HF1.out.rv.setOther (a := ⟨q, 1, none⟩) (Nat.ne_of_gt hqq) _, below_set HF1.out.bel HF1.out.far.1 _, HF1.out.far⟩, HH1.out.setOther (a := ⟨q, 1, none⟩) (by show g ≠ q; omega) _⟩
        · have d1 : (decide (20 < H) && decide (H ≤ 64)) = false := by simpa using h1
          have e1 : cut20 H = H := by unfold cut20; rw [if_neg h1]
          have HE := Lib.hid e1
          clear e1
          go_wp2_with (fail)
          go_meet
          case rel =>
            rw [HE.out]
            exact ⟨hF, hH⟩
      case rest =>
      clear hF hH c1
      obtain ⟨hF, hH⟩ := hcut
      obtain ⟨hf1, hf2⟩ := hfin _ _ _ hF
      have e : g ≠ q1 := Nat.ne_of_gt hqg
      have hf3 := (((hH.setOther (a := ⟨q1, 0, none⟩) e (.int .i64 (cut20 W))).setOther (a := ⟨q1, 1, none⟩) e (.int .i64 (cut20 H))).setOther (a := ⟨q1, 2, none⟩) e (.int .i64 K)).setOther (a := ⟨q1, 3, none⟩) e (.slice (some ⟨g, 0, none⟩) m cap)
      have b0 := hF.bx.cell 0
      have b1 := hF.bx.cell 1
      have b2 := hF.bx.cell 2
      have b3 := hF.bx.cell 3
      have v0 := hF.rv.cell 0
      have v1 := hF.rv.cell 1
      have v2 := hF.rv.cell 2
      have v3 := hF.rv.cell 3
      have vf := hF.rv.frozen
      have HF1 := Lib.hid hf1
      have HF2 := Lib.hid hf2
      have HF3 := Lib.hid hf3
      simp only [List.getElem?_cons_zero, List.getElem?_cons_succ] at b0 b1 b2 b3 v0 v1 v2 v3
      obtain ⟨d', hd, hmm⟩ := Option.map_eq_some_iff.1 und24
      clear hf1 hf2 hf3 hF hH hfin e
      go_wp2
      refine bodyPost_ret (results_cell_row rfl _ _ _ _ _ _ d' rfl HF1.out hd ?_ size24) rfl ⟨g, cap, ?_, hwg, ?_, hcm, ?_, HF2.out⟩
      · cases d' <;> first | rfl | exact absurd hmm (by simp)
      · rw [HM.out]
      · rw [HM.out]; exact hmc
      · rw [← HCS.out]; exact HF3.out
end Go.Proofs.Ytkfjlgjncaddpaa
