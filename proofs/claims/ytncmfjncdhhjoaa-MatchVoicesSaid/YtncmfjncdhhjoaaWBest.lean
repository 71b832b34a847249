/- Best: the cheapest assignment, with prices that prove it. -/
import Derived.Test.YtncmfjncdhhjoaaWLst
import Derived.Test.YtncmfjncdhhjoaaWCk
import Derived.Laws.ResultCell
import Derived.Deep.RegionHeld3
namespace Go.Proofs.Ytncmfjncdhhjoaa
open Go.RowKit

theorem und35 : (Try.prog.underlying 35).map (fun d => match d with | .struct _ | .array _ _ => true | _ => false) = some true := by kernel_rfl
theorem size35 : (Try.prog.info? 35).map (·.size) = some 4 := by kernel_rfl
theorem match_results {fn : Func} {w : World} {g k u : Nat} {a b c d : Value} (h : Blk 35 w g [a, b, c, d]) (hr : fn.results = #[.cell k 35, .tmp u]) (tmps : Array Value) (hp : tmps.getD k undef = .pointer (some ⟨g, 0, none⟩)) :
    (results fn tmps).run Try.prog w = .ok (.tuple #[.agg #[a, b, c, d], tmps.getD u undef]) w := by
  obtain ⟨d', hd, hm⟩ := Option.map_eq_some_iff.1 und35
  have hl : (loadVar 35 ⟨g, 0, none⟩).run Try.prog w = .ok (.agg #[a, b, c, d]) w := by
    cases d' <;> first | exact run_loadVar_row w g 35 35 _ (0, 0) _ h hd rfl size35 | exact absurd hm (by simp)
  rw [results_cell_tmp hr, hp]
  simp [asAddr, Result.andThen, hl]

theorem Blk.set4 {T : TypeId} {w : World} {g : Nat} {a b c d : Value} (h : Blk T w g [a, b, c, d]) (a' b' c' d' : Value) :
    Blk T ((((w.setCell ⟨g, 0, none⟩ a').setCell ⟨g, 1, none⟩ b').setCell ⟨g, 2, none⟩ c').setCell ⟨g, 3, none⟩ d') g [a', b', c', d'] := by
  have := (((h.set 0 a').set 1 b').set 2 c').set 3 d'
  simpa using this
theorem below_set4 {B : Nat} {a w : World} (h : Below B a w) {g : Nat} (hg : B ≤ g) (x y z t : Value) :
    Below B a ((((w.setCell ⟨g, 0, none⟩ x).setCell ⟨g, 1, none⟩ y).setCell ⟨g, 2, none⟩ z).setCell ⟨g, 3, none⟩ t) := below_set (below_set (below_set (below_set h hg _) hg _) hg _) hg _
/-- What Best returns of a table. -/
structure BestOk (w : World) (n m : Nat) (ls : List (List Int)) (w' : World) (gt gu gv : Nat) (to : Nat → Nat) (u v : Nat → Int) : Prop where
  good : Good n m ls
  dim : 1 ≤ n ∧ n ≤ m ∧ m ≤ 64
  far : w.heap.size ≤ gt ∧ w.heap.size ≤ gu ∧ w.heap.size ≤ gv
  res : Blk 3 w' gt (fl (fun i => (to i : Int)) n)
  rows : Blk 3 w' gu (fl u n)
  cols : Blk 3 w' gv (fl v m)
  min : LexMin n m (cst ls) to
  proof : Proof n m (cst ls) u v to
  bnd : (∀ i, i < n → 0 ≤ u i ∧ u i ≤ 4096000000000) ∧ (∀ k, k < m → -4096000000000 ≤ v k ∧ v k ≤ 0)
def zeroM : Value := .agg #[.slice none 0 0, .slice none 0 0, .slice none 0 0, .int .i64 0]
def BestPost (w : World) (ls : List (List Int)) (e : Ending) (w' : World) : Prop :=
  Below w.heap.size w w' ∧ ((chkT ls = false ∧ e = .returned (.tuple #[zeroM, .int .i64 1])) ∨
    (∃ n m, chkT ls = true ∧ ls.length = n ∧ Good n m ls ∧ (1 ≤ n ∧ n ≤ m ∧ m ≤ 64) ∧ (∀ τ, ¬ Asg n m (cst ls) τ) ∧ e = .returned (.tuple #[zeroM, .int .i64 6])) ∨
    (∃ n m gt gu gv to u v, chkT ls = true ∧ ls.length = n ∧ BestOk w n m ls w' gt gu gv to u v ∧
      e = .returned (.tuple #[.agg #[.slice (some ⟨gt, 0, none⟩) n n, .slice (some ⟨gu, 0, none⟩) n n, .slice (some ⟨gv, 0, none⟩) m m, .int .i64 (costN (cst ls) to n)], .int .i64 0])))

set_option maxHeartbeats 4000000 in
set_option maxRecDepth 100000 in
theorem best_any (A : Option Addr) (c L : Nat) (ls : List (List Int)) (w : World) (T : Tab w.heap.size w A ls) (hL : L = ls.length) :
    Calls Try.prog 28 #[.slice A L c] w (BestPost w ls) := by
  have hb0 : Blk 35 (w.alloc (.cells #[.slice none 0 0, .slice none 0 0, .slice none 0 0, .int .i64 0] 35)) w.heap.size [.slice none 0 0, .slice none 0 0, .slice none 0 0, .int .i64 0] := Blk.new w 35 _
  have hl0 := below_new w (.cells #[.slice none 0 0, .slice none 0 0, .slice none 0 0, .int .i64 0] 35)
  have hck := check_any w.heap.size A c L ls _ (T.keep hl0) hL
  have hB0 : w.heap.size + 1 = (w.alloc (.cells #[.slice none 0 0, .slice none 0 0, .slice none 0 0, .int .i64 0] 35)).heap.size := by simp
  have HT := Lib.hid T
  have HB := Lib.hid hb0
  have HL0 := Lib.hid hl0
  have c0 := hb0.cell 0
  have c1 := hb0.cell 1
  have c2 := hb0.cell 2
  have c3 := hb0.cell 3
  have fz := hb0.frozen
  cases hchk : chkT ls with
  | false =>
    have hce : ckE ls = 1 := by unfold ckE; rw [hchk]; rfl
    rw [hce] at hck
    have HCK := Lib.hid hck
    have HL := Lib.hid hL
    clear hck hL T hb0 hl0 hce
    go_enter Try.func28, Try.ntmps28
    go_wp2_with (go_at_call 25; refine (HCK.out).mono ?_; rintro e w1 ⟨rfl, rfl⟩)
    exact bodyPost_ret (match_results HB.out rfl _ rfl) rfl ⟨HL0.out, .inl ⟨hchk, rfl⟩⟩
  | true =>
    have hce : ckE ls = 0 := by unfold ckE; rw [hchk]; rfl
    rw [hce] at hck
    obtain ⟨n, m, hn, hm, h1, h2, h3, G⟩ := chkT_good hchk
    have hLn : L = n := by omega
    subst hLn
    obtain ⟨g, off, Ai, ci, rfl, hg, hrow, _⟩ := G.at_ (T.keep hl0) (i := 0) (by omega)
    have hrow' : (w.alloc (.cells #[.slice none 0 0, .slice none 0 0, .slice none 0 0, .int .i64 0] 35)).cell? ⟨g, off, none⟩ = some (.slice Ai m ci) := hrow
    have T0 := (T.keep hl0)
    have HCK := Lib.hid hck
    have HL := Lib.hid hL
    have HG := Lib.hid G
    have HCH := Lib.hid hchk
    have HNN := Lib.hid hn
    clear hck hL T hb0 hl0 hce hn hm G hchk
    go_enter Try.func28, Try.ntmps28
    go_wp2_with (fail)
    generalize (w.alloc (.cells #[.slice none 0 0, .slice none 0 0, .slice none 0 0, .int .i64 0] 35)) = W at *
    have hnp := newPricing_any (some ⟨g, off, none⟩) c L m (by omega) h3 (by omega) W
    have HNP := Lib.hid hnp
    have HT0 := Lib.hid (T0.mono (show w.heap.size ≤ W.heap.size by omega))
    clear hnp T0
    refine (HCK.out).mono ?_
    rintro e w1 ⟨rfl, rfl⟩
    clear c0 c1 c2 c3 fz
    go_wp2_with (first
      | (go_at_call 51; refine (HNP.out).mono ?_; rintro e w2 ⟨p, gu, gv, go, rfl, hP, hl2⟩)
      | (go_at_call 52; refine (firstStuck_any W.heap.size p gu gv go L m c (some ⟨g, off, none⟩) ls _ hP HG.out (HT0.out.keep hl2) hl2.size (by omega) h3 (by omega)).mono ?_
         intro e w3 hpost
         have hl3 := hl2.trans hpost.1
         have hBr : Blk 35 w3 w.heap.size [.slice none 0 0, .slice none 0 0, .slice none 0 0, .int .i64 0] := HB.out.below hl3 (by omega)
         have d0 : w3.cell? ⟨w.heap.size, 0, none⟩ = some (.slice none 0 0) := hBr.cell 0
         have d1 : w3.cell? ⟨w.heap.size, 1, none⟩ = some (.slice none 0 0) := hBr.cell 1
         have d2 : w3.cell? ⟨w.heap.size, 2, none⟩ = some (.slice none 0 0) := hBr.cell 2
         have d3 : w3.cell? ⟨w.heap.size, 3, none⟩ = some (.int .i64 0) := hBr.cell 3
         have fz := hBr.frozen
         rcases hpost with ⟨_, ⟨rfl, u, v, o, Bd, hP3, hF3, hbd1, hbd2, hH3⟩ | ⟨i, hi, rfl, hno⟩⟩))
    rotate_left
    · have HNO := Lib.hid hno
      exact bodyPost_ret (match_results (hBr.set4 _ _ _ _) rfl _ rfl) rfl ⟨below_set4 ((HL0.out).trans (hl3.mono (by omega))) (Nat.le_refl _) _ _ _ _,
        .inr (.inl ⟨L, m, HCH.out, HNN.out, HG.out, ⟨h1, h2, h3⟩, HNO.out, rfl⟩)⟩
    · have hbu : ∀ i, i < L → -10000000000000 ≤ u i ∧ u i ≤ 10000000000000 := fun i hi => by have := hF3.pos i hi; omega
      have hbv : ∀ k, k < m → -10000000000000 ≤ v k ∧ v k ≤ 10000000000000 := fun k hk => by have := hF3.neg k hk; omega
      have hW3 := hl3.size
      have hle := least_any W.heap.size p gu gv go L m c (some ⟨g, off, none⟩) ls u v o Bd w3.drew hP3.drew hF3 HG.out ((HT0.out.keep hl3).keep (Below.refl _ _).drew) hW3 hH3 (by omega) h3 (by omega) ⟨hbd1, hbd2⟩
      have hsu := fun W5 h => sum_any W.heap.size p gu gv go L m (.slice (some ⟨g, off, none⟩) L c) u v o W5 h h3 (by omega) hbu hbv
      have hpl := hP3.lt
      have e1 : w3.drew.cell? ⟨p, 1, none⟩ = some (.slice (some ⟨gu, 0, none⟩) L L) := hP3.box.cell 1
      have e2 : w3.drew.cell? ⟨p, 2, none⟩ = some (.slice (some ⟨gv, 0, none⟩) m m) := hP3.box.cell 2
      have e1' : w3.cell? ⟨p, 1, none⟩ = some (.slice (some ⟨gu, 0, none⟩) L L) := e1
      have e2' : w3.cell? ⟨p, 2, none⟩ = some (.slice (some ⟨gv, 0, none⟩) m m) := e2
      have hpf := hP3.far
      have hpr : p ≠ w.heap.size := by omega
      have HLE := Lib.hid hle
      have HSU := Lib.hid hsu
      have HP3 := Lib.hid hP3
      have HF3 := Lib.hid hF3
      have HBR := Lib.hid hBr
      clear hle hsu hP3 hF3 hBr d0 d1 d2 d3 fz hH3 hP
      go_region_held3 (fun w' => w'.cell? ⟨p, 1, none⟩ = some (.slice (some ⟨gu, 0, none⟩) L L) ∧ w'.cell? ⟨p, 2, none⟩ = some (.slice (some ⟨gv, 0, none⟩) m m))
        (first
          | exact ⟨e1, e2⟩
          | exact ⟨e1', e2'⟩
          | exact ⟨k1, k2⟩
          | exact f12 _ _ _ _
          | go_keep)
        ((first
          | (go_at_call 54; (with_reducible refine (HLE.out).mono ?_); rintro e w5 ⟨gt, to, rfl, hgt, hbt, hmin, hprf, hcost, hl5⟩
             have hP5 := HP3.out.drew.keep hl5 hpl
             have k1 : w5.cell? ⟨p, 1, none⟩ = some (.slice (some ⟨gu, 0, none⟩) L L) := hP5.box.cell 1
             have k2 : w5.cell? ⟨p, 2, none⟩ = some (.slice (some ⟨gv, 0, none⟩) m m) := hP5.box.cell 2
             have f12 : ∀ x y z t, ((((w5.setCell ⟨w.heap.size, 0, none⟩ x).setCell ⟨w.heap.size, 1, none⟩ y).setCell ⟨w.heap.size, 2, none⟩ z).setCell ⟨w.heap.size, 3, none⟩ t).cell? ⟨p, 1, none⟩ = some (.slice (some ⟨gu, 0, none⟩) L L) ∧
                 ((((w5.setCell ⟨w.heap.size, 0, none⟩ x).setCell ⟨w.heap.size, 1, none⟩ y).setCell ⟨w.heap.size, 2, none⟩ z).setCell ⟨w.heap.size, 3, none⟩ t).cell? ⟨p, 2, none⟩ = some (.slice (some ⟨gv, 0, none⟩) m m) := fun x y z t =>
               have h := (((hP5.box.setOther (a := ⟨w.heap.size, 0, none⟩) hpr x).setOther (a := ⟨w.heap.size, 1, none⟩) hpr y).setOther (a := ⟨w.heap.size, 2, none⟩) hpr z).setOther (a := ⟨w.heap.size, 3, none⟩) hpr t
               ⟨h.cell 1, h.cell 2⟩
             have hB5 := HBR.out.drew.keep hl5
             have d0 : w5.cell? ⟨w.heap.size, 0, none⟩ = some (.slice none 0 0) := hB5.cell 0
             have d1 : w5.cell? ⟨w.heap.size, 1, none⟩ = some (.slice none 0 0) := hB5.cell 1
             have d2 : w5.cell? ⟨w.heap.size, 2, none⟩ = some (.slice none 0 0) := hB5.cell 2
             have d3 : w5.cell? ⟨w.heap.size, 3, none⟩ = some (.int .i64 0) := hB5.cell 3
             have fz := hB5.frozen)
          | (go_at_call 55; (with_reducible refine (HSU.out _ hP5).mono ?_); rintro e w6 ⟨rfl, rfl⟩)))
      all_goals
        go_wp2
        have hgt2 : gt ≠ w.heap.size := by simp at hgt; omega
        have hgu2 : gu ≠ w.heap.size := by omega
        have hgv2 : gv ≠ w.heap.size := by omega
        have hw3w : w.heap.size ≤ w3.heap.size := by omega
        have hbl : Below w.heap.size w w5 := (((HL0.out).trans (hl3.mono (by omega))).drew).trans (hl5.mono (by simp; omega))
        refine bodyPost_ret (match_results (hB5.set4 _ _ _ _) rfl _ rfl) rfl ⟨below_set4 hbl (Nat.le_refl _) _ _ _ _, .inr (.inr ⟨L, m, gt, gu, gv, to, u, v, HCH.out, HNN.out, ?_, by rw [hcost]; rfl⟩)⟩
        refine ⟨HG.out, ⟨h1, h2, h3⟩, ⟨by simp at hgt; omega, by omega, by omega⟩, ?_, ?_, ?_, hmin, hprf, fun i hi => ?_, fun k hk => ?_⟩
        · exact (((hbt.setOther (a := ⟨w.heap.size, 0, none⟩) hgt2 _).setOther (a := ⟨w.heap.size, 1, none⟩) hgt2 _).setOther (a := ⟨w.heap.size, 2, none⟩) hgt2 _).setOther (a := ⟨w.heap.size, 3, none⟩) hgt2 _
        · exact (((hP5.rows.setOther (a := ⟨w.heap.size, 0, none⟩) hgu2 _).setOther (a := ⟨w.heap.size, 1, none⟩) hgu2 _).setOther (a := ⟨w.heap.size, 2, none⟩) hgu2 _).setOther (a := ⟨w.heap.size, 3, none⟩) hgu2 _
        · exact (((hP5.cols.setOther (a := ⟨w.heap.size, 0, none⟩) hgv2 _).setOther (a := ⟨w.heap.size, 1, none⟩) hgv2 _).setOther (a := ⟨w.heap.size, 2, none⟩) hgv2 _).setOther (a := ⟨w.heap.size, 3, none⟩) hgv2 _
        · have := HF3.out.pos i hi; omega
        · have := HF3.out.neg k hk; omega

end Go.Proofs.Ytncmfjncdhhjoaa
