/- Layout: a plan is read, or refused. -/
import Derived.Test.YtkfjlgjncaddpaaWRd3
import Derived.Test.YtkfjlgjncaddpaaWCat
import Derived.Test.YtkfjlgjncaddpaaWChk
namespace Go.Proofs.Ytkfjlgjncaddpaa
open Go.RowKit

/-- The pieces of a plan of a whole panel; none: it is no plan. -/
def lay (k : Int) (ss : List Sh) (i j : Nat) (l : List Cu) : Option (List Pc) := (rdF k ss (i + j) 0 0 i j l).bind fun u => if u.2 = [] then some u.1 else none
def LayPost (W H K : Int) (ss : List Sh) (l : List Cu) (w : World) (e : Ending) (w' : World) : Prop :=
  Below w.heap.size w w' ∧ ((okP W H K ss = false ∧ e = .returned (.tuple #[.slice none 0 0, .int .i64 1])) ∨
    ∃ i j k : Nat, W = (i : Int) ∧ H = (j : Int) ∧ K = (k : Int) ∧ okP W H K ss = true ∧
      ((lay k ss i j l = none ∧ e = .returned (.tuple #[.slice none 0 0, .int .i64 2])) ∨
        ∃ ps vp, lay k ss i j l = some ps ∧ e = .returned (.tuple #[vp, .int .i64 0]) ∧ w'.ownsRow w.heap.size 53 5 vp ps.length (pcs ps)))
theorem rdm_start {V : World} {k : Int} {A : Option Addr} {L cp : Nat} {A2 : Option Addr} {M c2 : Nat} {l : List Cu} (h : CuAt V A2 l) (hM : M = l.length) (hc : M ≤ c2) (hnil : A2 = none → c2 = 0) (hcm : c2 ≤ maxLen) :
    RdM V.heap.size V (V.alloc (.cells #[.int .i64 k, .slice A L cp, .slice A2 M c2, .slice none 0 0] 94)) k A L cp l (.slice none 0 0) [] := by
  refine ⟨⟨A2, c2, ?_, h, by omega, hnil, hcm⟩, ⟨rfl, .inl ⟨rfl, rfl⟩⟩, below_new V _, rfl⟩
  rw [← hM]
  exact Blk.new V 94 [.int .i64 k, .slice A L cp, .slice A2 M c2, .slice none 0 0]
theorem own_shape {B T k n : Nat} {w : World} {v : Value} {vs : List Value} (h : w.ownsRow B T k v n vs) : ∃ A3 n3 c3, v = .slice A3 n3 c3 := by
  by_cases hv : v = .slice none 0 0
  · exact ⟨_, _, _, hv⟩
  · obtain ⟨g, cap, e, _⟩ := own_hd h hv
    exact ⟨_, _, _, e⟩
/-- A row is own for a lower border too; a cell of a block that is not its own may be written. -/
theorem own_weak {B B' T k n : Nat} {w : World} {v : Value} {vs : List Value} (h : w.ownsRow B T k v n vs) (hB : B' ≤ B) {a : Addr} (ha : a.block < B) (u : Value) : (w.setCell a u).ownsRow B' T k v n vs := by
  by_cases hv : v = .slice none 0 0
  · subst hv
    obtain ⟨h1, ⟨_, h2⟩ | ⟨g, cap, cur, e, _⟩⟩ := h
    · exact ⟨h1, .inl ⟨rfl, h2⟩⟩
    · injection e with e; cases e
  · obtain ⟨g, cap, e, h1, h3, h4, h5, h6⟩ := own_hd h hv
    exact hd_own ⟨g, cap, e, Nat.le_trans hB h1, h3, h4, h5, h6.setOther (a := a) (by intro e; omega) _⟩
set_option maxHeartbeats 4000000 in
set_option maxRecDepth 100000 in
theorem layout_any (W H K : Int) (A A2 : Option Addr) (cp L c2 M : Nat) (ss : List Sh) (l : List Cu) (w : World) (hA : ShAt w A ss) (hL : L = ss.length) (hLs : L ≤ 1000000) (hA2 : CuAt w A2 l) (hM : M = l.length) (hc : M ≤ c2) (hnil : A2 = none → c2 = 0) (hcm : c2 ≤ maxLen) (hMs : M ≤ 100000) :
    Calls Try.prog 28 #[.int .i64 W, .int .i64 H, .int .i64 K, .slice A L cp, .slice A2 M c2] w (LayPost W H K ss l w) := by
  have hb0 : Below w.heap.size w ((w.alloc (.cells #[.slice none 0 0] 45)).alloc (.cells #[.int .i64 0] 26)) := ((Below.refl _ _).alloc (Nat.le_refl _) _).alloc (by simp) _
  have hck := check_any W H K A cp L ss ((w.alloc (.cells #[.slice none 0 0] 45)).alloc (.cells #[.int .i64 0] 26)) (hA.keep hb0) hL hLs
  have hq1 : Blk 45 ((w.alloc (.cells #[.slice none 0 0] 45)).alloc (.cells #[.int .i64 0] 26)) w.heap.size [.slice none 0 0] := (Blk.new w 45 [.slice none 0 0]).alloc _
  have hq2 : Blk 26 ((w.alloc (.cells #[.slice none 0 0] 45)).alloc (.cells #[.int .i64 0] 26)) (w.heap.size + 1) [.int .i64 0] := blk_new2 [.int .i64 0]
  have hmf : ∀ (fn : Fn) (first cap : Array Value) (w : World), (Instr.makeFunc fn first cap).run Try.prog w = .ok (.func fn first cap) w := fun _ _ _ _ => rfl
  have HQ1 := Lib.hid hq1
  have HQ2 := Lib.hid hq2
  have HB0 := Lib.hid hb0
  have HL := Lib.hid hL
  have HM := Lib.hid hM
  clear hq1 hq2 hb0 hL hM
  cases hok : okP W H K ss with
  | false =>
    have e : ckE W H K ss = 1 := by unfold ckE; rw [hok]; rfl
    rw [e] at hck
    have HCK := Lib.hid hck
    have HOK := Lib.hid hok
    clear hck hok e hA hA2
    go_enter_defers Try.func28, Try.ntmps28
    go_wp2_with (go_at_call 19; (with_reducible refine (HCK.out).mono ?_); rintro e w1 ⟨rfl, hb1⟩; have g1 := HQ1.out.keep hb1; have g2 := HQ2.out.keep hb1; have c1 : w1.cell? ⟨w.heap.size, 0, none⟩ = some (.slice none 0 0) := g1.cell 0; have c2 : w1.cell? ⟨w.heap.size + 1, 0, none⟩ = some (.int .i64 0) := g2.cell 0; have f1 := g1.frozen 0; have f2 := g2.frozen 0; have HG1 := Lib.hid g1; have HG2 := Lib.hid g2; have HBB := Lib.hid hb1; clear g1 g2 hb1)
    have k1 := (HG1.out.set 0 (.slice none 0 0)).setOther (a := ⟨w.heap.size + 1, 0, none⟩) (by show w.heap.size ≠ w.heap.size + 1; omega) (.int .i64 1)
    have k2 := (HG2.out.setOther (a := ⟨w.heap.size, 0, none⟩) (by show w.heap.size + 1 ≠ w.heap.size; omega) (.slice none 0 0)).set 0 (.int .i64 1)
    have d1 := k1.cell 0
    have d2 := k2.cell 0
    simp only [List.set_cons_zero, List.getElem?_cons_zero] at d1 d2
    have hbe : Below w.heap.size w ((w1.setCell ⟨w.heap.size, 0, none⟩ (.slice none 0 0)).setCell ⟨w.heap.size + 1, 0, none⟩ (.int .i64 1)) := below_set (below_set (below_on HB0.out HB0.out.size HBB.out) (Nat.le_refl _) _) (by omega) _
    have fin : LayPost W H K ss l w (.returned (.tuple #[.slice none 0 0, .int .i64 1])) ((w1.setCell ⟨w.heap.size, 0, none⟩ (.slice none 0 0)).setCell ⟨w.heap.size + 1, 0, none⟩ (.int .i64 1)) := ⟨hbe, .inl ⟨HOK.out, rfl⟩⟩
    generalize (w1.setCell ⟨w.heap.size, 0, none⟩ (.slice none 0 0)).setCell ⟨w.heap.size + 1, 0, none⟩ (.int .i64 1) = V at *
    simp [bodyPostD, Leaves, results, Try.results28, go_sem, d1, d2]
    exact fin
  | true =>
    have e : ckE W H K ss = 0 := by unfold ckE; rw [hok]; rfl
    rw [e] at hck
    obtain ⟨i, j, k, rfl, rfl, rfl, hi1, hi, hj1, hj, hk, hlen, hoks⟩ := okP_ok hok
    have HCK := Lib.hid hck
    have HOK := Lib.hid hok
    have HLEN : Hid (L ≤ 1000) := Lib.hid (by have := HL.out; omega)
    clear hck hok e hoks hlen
    go_enter_defers Try.func28, Try.ntmps28
    go_upto_region 3 with (go_at_call 19; (with_reducible refine (HCK.out).mono ?_); rintro e V ⟨rfl, hb1⟩)
    have HQV1 := Lib.hid (HQ1.out.keep hb1)
    have HQV2 := Lib.hid (HQ2.out.keep hb1)
    have hb2 := below_on HB0.out HB0.out.size hb1
    have HBV := Lib.hid hb2
    have HST := Lib.hid (@rdm_start V k A L cp A2 M c2 l (hA2.keep hb2) HM.out hc hnil hcm)
    have HRD := Lib.hid (read_any V.heap.size V k A L cp ss (hA.keep hb2) HL.out HLEN.out hk (i + j) i j 0 0 l (.slice none 0 0) [] _ (by omega) (by omega) (by omega) (by omega) (by omega) (by omega) (by omega) (by omega) (by omega) HST.out (by have := HM.out; simp; omega))
    unfold rcV at HRD
    have hqp : w.heap.size + 1 < V.heap.size := HQV2.out.lt
    have hst_below := HST.out.bel
    obtain ⟨p, hp⟩ : ∃ p, p = V.heap.size := ⟨_, rfl⟩
    rw [← hp] at HST HRD hqp hst_below
    clear hb1 hb2 HCK HQ1 HQ2 HB0
    go_upto_region 5 with (fail)
    rw [← hp]
    clear hp
    cases hr : rdF (k : Int) ss (i + j) 0 0 i j l with
    | none =>
      rw [hr] at HRD
      unfold ReadPost at HRD
      simp only at HRD
      have HRS := Lib.hid hr
      clear hr
      go_wp2_with (go_at_call 47; (with_reducible refine (HRD.out).mono ?_); rintro e w5 ⟨rfl, hb5⟩)
      have hp5 := hst_below.trans hb5
      refine leaves_cons (f := 46) (args := #[.pointer (some ⟨w.heap.size, 0, none⟩), .pointer (some ⟨w.heap.size + 1, 0, none⟩)]) (by simp) (by simp [go_sem]) ?_
      refine (catch_panicking w.heap.size (w.heap.size + 1) [] _ _ _ (HQV1.out.below hp5 (by omega)) (HQV2.out.below hp5 (by omega)) (by omega)).mono ?_
      rintro e u' w'' ⟨rfl, rfl, k1, k2, kb⟩
      have d1 := k1.cell 0
      have d2 := k2.cell 0
      simp only [List.getElem?_cons_zero] at d1 d2
      have fin : LayPost i j k ss l w (.returned (.tuple #[.slice none 0 0, .int .i64 2])) w'' := ⟨HBV.out.trans ((Below.mono hp5 (by omega)).trans (kb w.heap.size (Nat.le_refl _) (by omega))), .inr ⟨i, j, k, rfl, rfl, rfl, HOK.out, .inl ⟨by unfold lay; rw [HRS.out]; rfl, rfl⟩⟩⟩
      simp [Leaves, settle, results, Try.results28, go_sem, d1, d2]
      exact fin
    | some u =>
      rw [hr] at HRD
      unfold ReadPost at HRD
      simp only at HRD
      have HRS := Lib.hid hr
      clear hr
      obtain ⟨new, rest⟩ := u
      simp only [List.nil_append] at HRD
      go_upto_region 6 with (go_at_call 47; (with_reducible refine (HRD.out).mono ?_); rintro e w5 ⟨rfl, vp, hm5, _, _⟩)
      have hp5 := hm5.bel
      obtain ⟨A', c', hx, _⟩ := hm5.bx
      have f2 := hx.cell 2
      have f3 := hx.cell 3
      simp only [List.getElem?_cons_zero, List.getElem?_cons_succ] at f2 f3
      cases rest with
      | cons r0 r1 =>
        have hne : ((r1.length : Int) + 1 == 0) = false := by simp; omega
        simp only [List.length_cons] at f2
        go_wp2_with (go_at_call 48; (with_reducible refine (demand_f _).mono ?_); rintro e w6 ⟨rfl, rfl⟩)
        refine leaves_cons (f := 46) (args := #[.pointer (some ⟨w.heap.size, 0, none⟩), .pointer (some ⟨w.heap.size + 1, 0, none⟩)]) (by simp) (by simp [go_sem]) ?_
        refine (catch_panicking w.heap.size (w.heap.size + 1) [] _ _ _ (HQV1.out.below hp5 (by omega)) (HQV2.out.below hp5 (by omega)) (by omega)).mono ?_
        rintro e u' w'' ⟨rfl, rfl, k1, k2, kb⟩
        have d1 := k1.cell 0
        have d2 := k2.cell 0
        simp only [List.getElem?_cons_zero] at d1 d2
        have fin : LayPost i j k ss l w (.returned (.tuple #[.slice none 0 0, .int .i64 2])) w'' := ⟨HBV.out.trans ((Below.mono hp5 (by omega)).trans (kb w.heap.size (Nat.le_refl _) (by omega))), .inr ⟨i, j, k, rfl, rfl, rfl, HOK.out, .inl ⟨by unfold lay; rw [HRS.out]; rfl, rfl⟩⟩⟩
        simp [Leaves, settle, results, Try.results28, go_sem, d1, d2]
        exact fin
      | nil =>
        obtain ⟨A3, n3, c3, rfl⟩ : ∃ A3 n3 c3, vp = .slice A3 n3 c3 := own_shape hm5.own
        have hd0 : (((([] : List Cu).length : Int)) == 0) = true := rfl
        simp only [List.length_nil] at f2
        have g1 := HQV1.out.below hp5 (by omega)
        have g2 := HQV2.out.below hp5 (by omega)
        have c1 : w5.cell? ⟨w.heap.size, 0, none⟩ = some (.slice none 0 0) := g1.cell 0
        have c2 : w5.cell? ⟨w.heap.size + 1, 0, none⟩ = some (.int .i64 0) := g2.cell 0
        have z1 := g1.frozen 0
        have z2 := g2.frozen 0
        have k1 := (g1.set 0 (.slice A3 n3 c3)).setOther (a := ⟨w.heap.size + 1, 0, none⟩) (by show w.heap.size ≠ w.heap.size + 1; omega) (.int .i64 0)
        have k2 := (g2.setOther (a := ⟨w.heap.size, 0, none⟩) (by show w.heap.size + 1 ≠ w.heap.size; omega) (.slice A3 n3 c3)).set 0 (.int .i64 0)
        have hw : ((w5.setCell ⟨w.heap.size, 0, none⟩ (.slice A3 n3 c3)).setCell ⟨w.heap.size + 1, 0, none⟩ (.int .i64 0)).ownsRow w.heap.size 53 5 (.slice A3 n3 c3) new.length (pcs new) := own_weak (B := p + 1) (own_weak (B' := p + 1) hm5.own (Nat.le_refl _) (by show w.heap.size < p + 1; omega) _) (by omega) (by show w.heap.size + 1 < p + 1; omega) _
        have d1 := k1.cell 0
        have d2 := k2.cell 0
        simp only [List.set_cons_zero, List.getElem?_cons_zero] at d1 d2
        have hbe : Below w.heap.size w ((w5.setCell ⟨w.heap.size, 0, none⟩ (.slice A3 n3 c3)).setCell ⟨w.heap.size + 1, 0, none⟩ (.int .i64 0)) := below_set (below_set (HBV.out.trans (Below.mono hp5 (by omega))) (Nat.le_refl _) _) (by omega) _
        have fin : LayPost i j k ss l w (.returned (.tuple #[.slice A3 n3 c3, .int .i64 0])) ((w5.setCell ⟨w.heap.size, 0, none⟩ (.slice A3 n3 c3)).setCell ⟨w.heap.size + 1, 0, none⟩ (.int .i64 0)) := ⟨hbe, .inr ⟨i, j, k, rfl, rfl, rfl, HOK.out, .inr ⟨new, _, by unfold lay; rw [HRS.out]; rfl, rfl, hw⟩⟩⟩
        have HF := Lib.hid fin
        have hq3 : ¬ w.heap.size = w.heap.size + 1 := by omega
        clear hw hbe fin k1 k2 g1 g2 hp5 hm5 hx
        go_wp2_with (go_at_call 48; (with_reducible refine (demand_t _).mono ?_); rintro e w6 ⟨rfl, rfl⟩)
        refine leaves_cons (f := 46) (args := #[.pointer (some ⟨w.heap.size, 0, none⟩), .pointer (some ⟨w.heap.size + 1, 0, none⟩)]) (by simp) (by simp [go_sem]) ?_
        refine (catch_idle _ _ _).mono ?_
        rintro e u' w'' ⟨rfl, rfl, rfl⟩
        simp [Leaves, settle, results, Try.results28, go_sem, d1, d2]
        exact HF.out
end Go.Proofs.Ytkfjlgjncaddpaa
