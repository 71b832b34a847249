/- Least sets of rows that have one column too few: the reference's search, plain laws, the walk. -/
import Derived.Test.YtncmfjncdhhjoaaWHall
import Derived.Test.YtncmfjncdhhjoaaMMst
import Derived.Deep.AppendLies
import Derived.Deep.RegionHeldLaw
import Derived.Deep.CutRange
import Derived.Test.YtncmfjncdhhjoaaWMst
import Derived.Test.YtncmfjncdhhjoaaWSrA
import Derived.Test.YtncmfjncdhhjoaaWFor
import Derived.Test.YtncmfjncdhhjoaaWLea
import Derived.BigQuiet
import Derived.Deep.RegionLaw

/- The reference's find: a row finds a column by turning others out. -/
namespace Go.Proofs.Ytncmfjncdhhjoaa
open Go.RowKit


theorem unhideF {p : Prop} (h : Hid p) : p := h.out
structure FdM (B : Nat) (w : World) (go co gs m : Nat) (o : Nat → Int) (s : Nat → Bool) : Prop where
  own : Hd 3 w go co (fl o m)
  seen : Blk 4 w gs (flB s m)
  far : B ≤ go ∧ B ≤ gs ∧ go ≠ gs ∧ B ≤ w.heap.size
theorem FdM.keepAll {B : Nat} {w w' : World} {go co gs m : Nat} {o : Nat → Int} {s : Nat → Bool} (h : FdM B w go co gs m o s) (hb : Below w.heap.size w w') : FdM B w' go co gs m o s :=
  ⟨h.own.keep hb, h.seen.keep hb, ⟨h.far.1, h.far.2.1, h.far.2.2.1, Nat.le_trans h.far.2.2.2 hb.size⟩⟩
theorem FdM.setS {B : Nat} {w : World} {go co gs m : Nat} {o : Nat → Int} {s : Nat → Bool} (h : FdM B w go co gs m o s) (k : Nat) (b : Bool) : FdM B (w.setCell ⟨gs, k, none⟩ (.bool b)) go co gs m o (upd s k b) :=
  ⟨h.own.setOther (a := ⟨gs, k, none⟩) h.far.2.2.1 _, h.seen.setB k b, by have := h.far; simpa using this⟩
theorem FdM.setO {B : Nat} {w : World} {go co gs m : Nat} {o : Nat → Int} {s : Nat → Bool} (h : FdM B w go co gs m o s) {k : Nat} (hk : k < m) (x : Int) : FdM B (w.setCell ⟨go, k, none⟩ (.int .i64 x)) go co gs m (upd o k x) s :=
  ⟨Hd.setI h.own hk x, h.seen.setOther (a := ⟨go, k, none⟩) (Ne.symm h.far.2.2.1) _, by have := h.far; simpa using this⟩
set_option maxHeartbeats 4000000 in
set_option maxRecDepth 100000 in
theorem find_any (B go co gs n m cT : Nat) (A : Option Addr) (ls : List (List Int)) (w0 : World) (G : Good n m ls) (T : Tab B w0 A ls) (hm : m ≤ 64) (N : Nat) :
    ∀ (row : Nat) (o : Nat → Int) (s : Nat → Bool) (w : World), cntB s m < N → Below B w0 w → row < n → (∀ j, j < m → -1 ≤ o j) → (∀ j, j < m → ∀ q : Nat, o j = (q : Int) → q < n) →
      FdM B w go co gs m o s →
      Calls Try.prog 62 #[.slice A n cT, .int .i64 (row : Int), .slice (some ⟨go, 0, none⟩) m co, .slice (some ⟨gs, 0, none⟩) m m] w fun e w' =>
        ∃ b o' s', e = .returned (.tuple #[.slice (some ⟨go, 0, none⟩) m co, .slice (some ⟨gs, 0, none⟩) m m, .bool b]) ∧ Room m (mayC (cst ls)) row 0 o s b o' s' ∧ FdM B w' go co gs m o' s' ∧ Below B w w' := by
  induction N with
  | zero => intro row o s w h; omega
  | succ N ih =>
    intro row o s w hN hw hrk hdom hown hP
    have HP0 := Lib.hid hP
    have HG := Lib.hid G
    have HT := Lib.hid T
    have HIH := Lib.hid ih
    have HDOM := Lib.hid hdom
    have HOWN := Lib.hid hown
    have hrn : (row : Int) < (n : Int) := by omega
    clear hP ih hdom hown G T
    go_enter Try.func62, Try.ntmps62
    go_wp2_with (fail)
    go_loopw [2, 3, 11, 12] (fun a b t _ wr => ∃ (k : Nat) (s1 : Nat → Bool), k ≤ m ∧ a = .slice (some ⟨go, 0, none⟩) m co ∧ b = .slice (some ⟨gs, 0, none⟩) m m ∧ t = .int .i64 (k : Int) ∧ Hid (∀ b o' s', Room m (mayC (cst ls)) row k o s1 b o' s' → Room m (mayC (cst ls)) row 0 o s b o' s') ∧ cntB s1 m < N + 1 ∧ FdM B wr go co gs m o s1 ∧ Below B w wr) (fun _ _ t _ _ => m - (intOf t).toNat)
    case atStart => exact ⟨0, s, Nat.zero_le _, rfl, rfl, rfl, Lib.hid (fun _ _ _ h => h), hN, HP0.out, Below.refl _ _⟩
    case round =>
      clear HP0 hN
      obtain ⟨k, s1, hk, rfl, rfl, rfl, HR, hN, hP, hl⟩ := hrel
      by_cases hlt : k < m
      · have hT := HT.out.keep (hw.trans hl)
        obtain ⟨g, off, Ai, ci, rfl, hg, hrow, hcell⟩ := HG.out.at_ hT hrk
        obtain ⟨g2, off2, rfl, hg2, hcl⟩ := hcell (by omega)
        have hcc := hcl k hlt
        have hlt2 : (k : Int) < (m : Int) := by omega
        have hrg := (HG.out.rng row k hrk hlt).1
        have hme : mayC (cst ls) row k = (cst ls row k != -1) := rfl
        have cs := hP.seen.bool hlt
        clear hT hcl hcell
        have HME := Lib.hid hme
        clear hme
        generalize hx : cst ls row k = x at *
        have HXX := Lib.hid hx
        clear hx
        by_cases hx0 : x < 0
        · have hd : decide (x < 0) = true := by simpa using hx0
          have hmy : mayC (cst ls) row k = false := by rw [HME.out]; simp; omega
          have HR2 : Hid (∀ b o' s', Room m (mayC (cst ls)) row (k + 1) o s1 b o' s' → Room m (mayC (cst ls)) row 0 o s b o' s') := Lib.hid (fun b o' s' h => HR.out b o' s' (Room.skip hlt (by rw [hmy]; simp) h))
          clear hmy hrg hx0
          go_wp2_with (fail)
          go_roundw
          case rel => exact ⟨k + 1, s1, by omega, rfl, rfl, by go_num, HR2, hN, hP, hl⟩
          case measure => simp [intOf]; omega
        · have hd : decide (x < 0) = false := by simpa using hx0
          have hmy : mayC (cst ls) row k = true := by rw [HME.out]; simp; omega
          have HMY := Lib.hid hmy
          clear hmy hrg hx0
          cases hs : s1 k with
          | true =>
            have HR2 : Hid (∀ b o' s', Room m (mayC (cst ls)) row (k + 1) o s1 b o' s' → Room m (mayC (cst ls)) row 0 o s b o' s') := Lib.hid (fun b o' s' h => HR.out b o' s' (Room.skip hlt (by rw [hs]; rfl) h))
            rw [hs] at cs
            clear hs
            go_wp2_with (fail)
            go_roundw
            case rel => exact ⟨k + 1, s1, by omega, rfl, rfl, by go_num, HR2, hN, hP, hl⟩
            case measure => simp [intOf]; omega
          | false =>
            rw [hs] at cs
            have hcnt := cntB_upd hs hlt
            have HCNT := Lib.hid hcnt
            have HS := Lib.hid hs
            have fs := hP.seen.frozen k
            have hfar := hP.far
            have HP2 := Lib.hid (hP.setS k true)
            have HL3 := Lib.hid (below_set hl (g := gs) (i := k) (by omega) (.bool true))
            clear hs hcnt hP hl
            by_cases ho : o k = -1
            · have hend := HR.out _ _ _ (Room.free (may := mayC (cst ls)) hlt HS.out HMY.out ho)
              have HE := Lib.hid hend
              have a5 := Hd.int HP2.out.own hlt
              have a6 := HP2.out.own.frozen k
              rw [ho] at a5
              have HP3 := Lib.hid (HP2.out.setO hlt (row : Int))
              have HL4 := Lib.hid (below_set HL3.out (g := go) (i := k) (by omega) (.int .i64 (row : Int)))
              clear hend ho HME
              go_wp2_with (fail)
              go_ret3
              exact ⟨_, _, _, rfl, HE.out, HP3.out, HL4.out⟩
            · obtain ⟨q, hq⟩ : ∃ q : Nat, o k = (q : Int) := ⟨(o k).toNat, by have := HDOM.out k hlt; omega⟩
              have hne : decide ((q : Int) < 0) = false := by simp
              have HQ := Lib.hid hq
              have hic := HIH.out q o (upd s1 k true) _ (by have := HCNT.out; omega) (hw.trans HL3.out) (HOWN.out k hlt q hq) HDOM.out HOWN.out HP2.out
              have HIC := Lib.hid hic
              have a5 := Hd.int HP2.out.own hlt
              rw [hq] at a5
              clear ho hq hic HME
              go_wp2_with (go_at_call 62; refine (HIC.out).mono ?_; rintro e w2 ⟨b, o', s', rfl, hroom, hP4, hl4⟩
                           have HRM := Lib.hid hroom
                           have HP4 := Lib.hid hP4
                           have b5 := Hd.int hP4.own hlt
                           have b6 := hP4.own.frozen k
                           have HL5 := Lib.hid (HL3.out.trans hl4)
                           clear hroom hP4 hl4; refine unhideF ?_)
              refine Lib.hid ?_
              cases b with
              | true =>
                have hend := HR.out _ _ _ (Room.move hlt HS.out HMY.out HQ.out HRM.out)
                have HP3 := Lib.hid (HP4.out.setO hlt (row : Int))
                have HE := Lib.hid hend
                have HL6 := Lib.hid (below_set HL5.out (g := go) (i := k) (by omega) (.int .i64 (row : Int)))
                clear hend
                go_wp2_with (fail)
                go_ret3
                exact ⟨_, _, _, rfl, HE.out, HP3.out, HL6.out⟩
              | false =>
                have hoo := HRM.out.frame.2 rfl
                subst hoo
                have HR2 : Hid (∀ b o2 s2, Room m (mayC (cst ls)) row (k + 1) o' s' b o2 s2 → Room m (mayC (cst ls)) row 0 o' s b o2 s2) := Lib.hid (fun b o2 s2 h => HR.out b o2 s2 (Room.stay hlt HS.out HMY.out HQ.out HRM.out h))
                have hcnt2 : cntB s' m ≤ cntB (upd s1 k true) m := cntB_mono fun j _ h => (HRM.out.frame.1 j h).1
                have hcnt3 : cntB s' m < N + 1 := by have := HCNT.out; omega
                clear hcnt2
                go_wp2_with (fail)
                go_roundw
                case rel => exact ⟨k + 1, s', by omega, rfl, rfl, by go_num, HR2, hcnt3, HP4.out, HL5.out⟩
                case measure => simp [intOf]; omega
      · obtain rfl : k = m := by omega
        have hend := HR.out _ _ _ (Room.done (Nat.le_refl _))
        have HE := Lib.hid hend
        clear hend
        go_wp2_with (fail)
        go_ret3
        exact ⟨_, _, _, rfl, HE.out, hP, hl⟩
end Go.Proofs.Ytncmfjncdhhjoaa

/- The reference's Most: of any rows, how many can have columns at the same time. -/
namespace Go.Proofs.Ytncmfjncdhhjoaa
open Go.RowKit

/-- The first i of some rows have looked for columns; c of them have one. -/
inductive MstR (m : Nat) (may : Nat → Nat → Bool) (ρ : Nat → Nat) : Nat → (Nat → Int) → Nat → Prop
  | zero : MstR m may ρ 0 (fun _ => -1) 0
  | hit {i c : Nat} {o o' : Nat → Int} {s : Nat → Bool} : MstR m may ρ i o c → Room m may (ρ i) 0 o (fun _ => false) true o' s → MstR m may ρ (i + 1) o' (c + 1)
  | miss {i c : Nat} {o : Nat → Int} {s : Nat → Bool} : MstR m may ρ i o c → Room m may (ρ i) 0 o (fun _ => false) false o s → MstR m may ρ (i + 1) o c
theorem MstR.id {m : Nat} {may : Nat → Nat → Bool} {ρ : Nat → Nat} {i c : Nat} {o : Nat → Int} (h : MstR m may ρ i o c) : (∀ j, j < i → ρ j = j) → Mst m may i o c := by
  induction h with
  | zero => intro _; exact Mst.zero
  | hit h R ih =>
    intro hr
    rw [hr _ (Nat.lt_succ_self _)] at R
    exact Mst.hit (ih fun j hj => hr j (by omega)) R
  | miss h R ih =>
    intro hr
    rw [hr _ (Nat.lt_succ_self _)] at R
    exact Mst.miss (ih fun j hj => hr j (by omega)) R
theorem MstR.dom {m : Nat} {may : Nat → Nat → Bool} {ρ : Nat → Nat} {i c : Nat} {o : Nat → Int} (h : MstR m may ρ i o c) : ∀ j, j < m → -1 ≤ o j := by
  induction h with
  | zero => intro j _; show (-1 : Int) ≤ -1; omega
  | hit h R ih => exact R.dom ih
  | miss h R ih => exact ih
theorem MstR.le {m : Nat} {may : Nat → Nat → Bool} {ρ : Nat → Nat} {i c : Nat} {o : Nat → Int} (h : MstR m may ρ i o c) : c ≤ i := by
  induction h with
  | zero => exact Nat.le_refl _
  | hit h R ih => omega
  | miss h R ih => omega
theorem MstR.own {m : Nat} {may : Nat → Nat → Bool} {ρ : Nat → Nat} {i c : Nat} {o : Nat → Int} (h : MstR m may ρ i o c) : (∀ a b, a < i → b < i → ρ a = ρ b → a = b) → Inj m o ∧ ∀ q, Has m o q → ∃ j, j < i ∧ q = ρ j := by
  induction h with
  | zero =>
    intro _
    refine ⟨fun i j _ _ _ h => ?_, fun q ⟨j, _, e⟩ => ?_⟩
    · (try dsimp only at h); omega
    · (try dsimp only at e); omega
  | hit h R ih =>
    rename_i i c o o' s
    intro hinj
    obtain ⟨h1, h2⟩ := ih (fun a b ha hb => hinj a b (by omega) (by omega))
    have A := R.found h1 (fun hh => by
      obtain ⟨j, hj, e⟩ := h2 _ hh
      have := hinj i j (by omega) (by omega) e
      omega)
    refine ⟨A.inj, fun q hq => ?_⟩
    rcases (A.rows q).1 hq with h3 | rfl
    · obtain ⟨j, hj, e⟩ := h2 q h3
      exact ⟨j, by omega, e⟩
    · exact ⟨i, by omega, rfl⟩
  | miss h R ih =>
    intro hinj
    obtain ⟨h1, h2⟩ := ih (fun a b ha hb => hinj a b (by omega) (by omega))
    refine ⟨h1, fun q hq => ?_⟩
    obtain ⟨j, hj, e⟩ := h2 q hq
    exact ⟨j, by omega, e⟩

theorem fl_oneM (f : Nat → Int) (n : Nat) : ∀ v ∈ fl f n, v.oneCell' = true := by
  intro v hv
  simp only [fl, List.mem_map] at hv
  obtain ⟨x, _, rfl⟩ := hv
  rfl
theorem own_geM {B g n c : Nat} (h : B ≤ g) : ∀ b, (Value.slice (some ⟨g, 0, none⟩) n c).ownBlock = some b → B ≤ b := by
  intro b hb
  simp only [Value.ownBlock, Option.some.injEq] at hb
  omega
theorem own_hdM {B g m cap : Nat} {w : World} {o : Nat → Int} (h : w.ownsRow B 3 1 (.slice (some ⟨g, 0, none⟩) m cap) m (fl o m)) : B ≤ g ∧ Hd 3 w g cap (fl o m) := by
  obtain ⟨g', cap', e, h1, _, h2⟩ := Hd.of_owns h (by intro e; injection e with e; cases e)
  rw [fl_len] at e
  injection e with e1 e2 e3
  injection e1 with e1
  injection e1 with e1
  subst e1 e3
  exact ⟨h1, h2⟩
theorem nrowM {g g' : Nat} {n c : Nat} (h : g ≠ g') : some g ≠ (Value.slice (some ⟨g', 0, none⟩) n c).ownBlock := by
  simp only [Value.ownBlock, ne_eq, Option.some.injEq]
  exact h
theorem seen_new (W : World) (m : Nat) : Blk 4 (W.alloc (.cells (Array.replicate m (.bool false)) 4)) W.heap.size (flB (fun _ => false) m) := by
  rw [flB_const]
  have := Blk.new W 4 (List.replicate m (.bool false))
  simpa using this
theorem own_emptyM (W : World) (B : Nat) (hB : B ≤ W.heap.size) : (W.alloc (.cells #[] 3)).ownsRow B 3 1 (.slice (some ⟨W.heap.size, 0, none⟩) 0 0) 0 [] :=
  ⟨by simp, .inr ⟨W.heap.size, 0, #[], rfl, hB, heap_alloc_new _ _, Nat.le_refl _, by unfold maxLen; omega, by simp, by simp⟩⟩
set_option maxHeartbeats 8000000 in
set_option maxRecDepth 100000 in
theorem refMost_any (A : Option Addr) (cT n m k gr cr : Nat) (ls : List (List Int)) (ρ : Nat → Nat) (w : World) (T : Tab w.heap.size w A ls) (G : Good n m ls) (h1 : 1 ≤ n) (h2 : n ≤ m) (h3 : m ≤ 64)
    (hr : Vals w (some ⟨gr, 0, none⟩) (fl (fun j => (ρ j : Int)) k)) (hρ : ∀ j, j < k → ρ j < n) (hinj : ∀ a b, a < k → b < k → ρ a = ρ b → a = b) (hk : k ≤ 64) :
    Calls Try.prog 36 #[.slice A n cT, .slice (some ⟨gr, 0, none⟩) k cr] w fun e w' => ∃ (o : Nat → Int) (c : Nat), e = .returned (.int .i64 (c : Int)) ∧ MstR m (mayC (cst ls)) ρ k o c ∧ Below w.heap.size w w' := by
  have hmk := fun W => makeI m h3 W
  have hmb := fun W => makeB m h3 W
  obtain ⟨i0, hi0, hz0, hz1, hz2⟩ := info_parts infoI
  obtain ⟨g, off, Ai, ci, rfl, hg, hrow, _⟩ := G.at_ T (i := 0) (by omega)
  rw [Nat.add_zero] at hrow
  have hn0 : ¬ (n : Int) = 0 := by omega
  have hn1 : ((n : Int) == 0) = false := by simp; omega
  have hn2 : (0 : Int) < (n : Int) := by omega
  have hn3 : 0 < n := by omega
  have HT := Lib.hid T
  have HG := Lib.hid G
  have HRW := Lib.hid hr
  have HP := Lib.hid hρ
  have HINJ := Lib.hid hinj
  clear T G hr hρ hinj hg
  go_enter Try.func36, Try.ntmps36
  go_wp2_with (fail)
  have hb0 : Blk 3 (w.alloc (.cells (Array.replicate m (.int .i64 0)) 3)) w.heap.size (fl (fun _ => 0) m) := by
    have e : fl (fun _ => (0 : Int)) m = List.replicate m (.int .i64 0) := by
      apply List.ext_getElem?
      intro i
      by_cases h : i < m
      · rw [fl_at h, List.getElem?_replicate, if_pos h]
      · rw [List.getElem?_eq_none (by rw [fl_len]; omega), List.getElem?_eq_none (by simp; omega)]
    rw [e]
    have := Blk.new w 3 (List.replicate m (.int .i64 0))
    simpa using this
  have hbl0 := below_new w (.cells (Array.replicate m (.int .i64 0)) 3)
  have HB0 := Lib.hid hb0
  have HL0 := Lib.hid hbl0
  clear hb0 hbl0 hrow
  generalize w.alloc (.cells (Array.replicate m (.int .i64 0)) 3) = W1 at *
  obtain ⟨g0, hg0⟩ : ∃ g0, g0 = w.heap.size := ⟨_, rfl⟩
  rw [← hg0] at HB0
  rw [← hg0]
  have HG0 := Lib.hid hg0
  clear hg0
  go_loopw [6] (fun t wr => ∃ (i : Nat) (f : Nat → Int), i ≤ m ∧ t = .int .i64 (i : Int) ∧ Blk 3 wr g0 (fl f m) ∧ Hid (∀ j, j < i → f j = -1) ∧ Below w.heap.size w wr) (fun t _ => m - (intOf t).toNat)
  case atStart => exact ⟨0, _, Nat.zero_le _, rfl, HB0.out, Lib.hid (fun j hj => by omega), HL0.out⟩
  case round =>
    clear HB0 HL0
    obtain ⟨i, f, hi, rfl, hB, HF, hl⟩ := hrel
    by_cases hlt : i < m
    · have hlt2 : (i : Int) < (m : Int) := by omega
      have c0 := hB.int hlt
      have f0 := hB.frozen i
      have HS := Lib.hid (hB.setI i (-1))
      have HL2 := Lib.hid (below_set hl (g := g0) (i := i) (by rw [HG0.out]; exact Nat.le_refl _) (.int .i64 (-1)))
      have HF2 : Hid (∀ j, j < i + 1 → upd f i (-1) j = -1) := Lib.hid (fun j hj => by
        by_cases e : j = i
        · rw [e, upd_at]
        · rw [upd_ne e]; exact HF.out j (by omega))
      clear hB hl
      go_wp2_with (fail)
      go_roundw
      case rel => exact ⟨i + 1, _, by omega, by go_num, HS.out, HF2, HL2.out⟩
      case measure => simp [intOf]; omega
    · obtain rfl : m = i := by omega
      have hB2 : Hd 3 wr g0 m (fl (fun _ => -1) m) := by
        have e : fl f m = fl (fun _ => -1) m := by
          unfold fl
          apply List.map_congr_left
          intro j hj
          rw [HF.out j (List.mem_range.1 hj)]
        rw [e] at hB
        have := Hd.of_blk hB
        rwa [fl_len] at this
      have HB2 := Lib.hid hB2
      have HL2 := Lib.hid hl
      clear hB hB2 hl HF hi hlt hmk
      go_wp2_with (fail)
      go_loopw [5, 7, 8, 9, 10, 11] (fun a q t _ _ _ wr => ∃ (i c go co : Nat) (o : Nat → Int), i ≤ k ∧ c ≤ i ∧ a = .slice (some ⟨go, 0, none⟩) m co ∧ q = .int .i64 (c : Int) ∧ t = .int .i64 (i : Int) ∧ w.heap.size ≤ go ∧ Hd 3 wr go co (fl o m) ∧ Hid (MstR m (mayC (cst ls)) ρ i o c) ∧ Below w.heap.size w wr) (fun _ _ t _ _ _ _ => k - (intOf t).toNat)
      case atStart => exact ⟨0, 0, g0, _, _, Nat.zero_le _, Nat.le_refl _, rfl, rfl, rfl, by rw [HG0.out]; exact Nat.le_refl _, HB2.out, Lib.hid MstR.zero, HL2.out⟩
      case round =>
        clear HB2 HL2
        obtain ⟨i, cc, go, co, o, hi, hci, rfl, rfl, rfl, hgo, hH, HS, hl⟩ := hrel
        by_cases hlt : i < k
        · have hlt2 : (i : Int) < (k : Int) := by omega
          obtain ⟨gr', or', er, hgr', hcr⟩ := (Vals.keep HRW.out hl) (by rw [fl_len]; omega)
          injection er with er
          injection er with er1 er2
          subst er1 er2
          have cr0 := hcr i _ (fl_at hlt)
          rw [Nat.zero_add] at cr0
          have hrl := HP.out i hlt
          have hm1 : 0 < m := by omega
          have hmx1 : 0 + m ≤ maxLen := by unfold maxLen; omega
          have hmb1 : (0 + m) * 8 ≤ 140737488355328 := by omega
          have hV : ∀ X, Below wr.heap.size wr X → Vals X (some ⟨go, 0, none⟩) (fl o m) := fun X h => (hH.keep h).vals
          have HV := Lib.hid hV
          have HFD : Hid (∀ (X : World) (g5 c5 gs : Nat), Below wr.heap.size wr X → FdM wr.heap.size X g5 c5 gs m o (fun _ => false) → Calls Try.prog 62 #[.slice (some ⟨g, off, none⟩) n cT, .int .i64 (ρ i : Int), .slice (some ⟨g5, 0, none⟩) m c5, .slice (some ⟨gs, 0, none⟩) m m] X fun e w' =>
              ∃ b o' s', e = .returned (.tuple #[.slice (some ⟨g5, 0, none⟩) m c5, .slice (some ⟨gs, 0, none⟩) m m, .bool b]) ∧ Room m (mayC (cst ls)) (ρ i) 0 o (fun _ => false) b o' s' ∧ FdM wr.heap.size w' g5 c5 gs m o' s' ∧ Below wr.heap.size X w') := Lib.hid (fun X g5 c5 gs hX hF => find_any wr.heap.size g5 c5 gs n m cT _ ls wr HG.out ((HT.out.keep hl).mono hl.size) h3 (cntB (fun _ => false) m + 1) (ρ i) o _ X (Nat.lt_succ_self _) hX hrl HS.out.dom (fun j hj q e => by
            obtain ⟨a, ha, rfl⟩ := (HS.out.own (fun a b ha hb => HINJ.out a b (by omega) (by omega))).2 q ⟨j, hj, e⟩
            exact HP.out a (by omega)) hF)
          have b1 := below_on (Below.refl wr.heap.size wr).drew (Nat.le_refl _) (below_new wr.drew (.cells #[] 3))
          have b2 := below_on b1 b1.size (below_new (wr.drew.alloc (.cells #[] 3)) (.cells (Array.replicate m (.bool false)) 4))
          have b3 := below_on (Below.refl wr.heap.size wr).drew (Nat.le_refl _) (below_new wr.drew (.cells (Array.replicate m (.bool false)) 4))
          have b4 := below_on b3 b3.size (below_new (wr.drew.alloc (.cells (Array.replicate m (.bool false)) 4)) (.cells #[] 3))
          have z1 : (wr.drew.alloc (.cells (Array.replicate m (.bool false)) 4)).heap.size = wr.heap.size + 1 := by simp
          have z2 : (wr.drew.alloc (.cells #[] 3)).heap.size = wr.heap.size + 1 := by simp
          have o1 := own_emptyM wr.drew wr.heap.size (Nat.le_refl _)
          have o2 := ownsRow_keep o1 (below_new (wr.drew.alloc (.cells #[] 3)) (.cells (Array.replicate m (.bool false)) 4))
          have o4 := own_emptyM (wr.drew.alloc (.cells (Array.replicate m (.bool false)) 4)) wr.heap.size b3.size
          rw [z1] at o4
          have e2 : Blk 4 ((wr.drew.alloc (.cells #[] 3)).alloc (.cells (Array.replicate m (.bool false)) 4)) (wr.heap.size + 1) (flB (fun _ => false) m) := by rw [← z2]; exact seen_new _ m
          have e3 : Blk 4 (wr.drew.alloc (.cells (Array.replicate m (.bool false)) 4)) wr.drew.heap.size (flB (fun _ => false) m) := seen_new _ m
          have e4 := e3.keep (below_new (wr.drew.alloc (.cells (Array.replicate m (.bool false)) 4)) (.cells #[] 3))
          have hw1 : ∀ X, Below wr.heap.size wr X → X.cell? ⟨gr, i, none⟩ = some (.int .i64 (ρ i : Int)) := fun X h => (h.cell (p := ⟨gr, i, none⟩) hgr').trans cr0
          have HW1 := Lib.hid hw1
          have B1 := Lib.hid b1
          have B2 := Lib.hid b2
          have B3 := Lib.hid b3
          have B4 := Lib.hid b4
          have O1 := Lib.hid o1
          have O2 := Lib.hid o2
          have O4 := Lib.hid o4
          have E2 := Lib.hid e2
          have E4 := Lib.hid e4
          have y0 := hw1 _ (Below.refl wr.heap.size wr).drew
          have HH := Lib.hid hH
          have HL := Lib.hid hl
          generalize hri : ρ i = ri at *
          have HRI := Lib.hid hri
          clear b1 b2 b3 b4 o1 o2 o4 e2 e3 e4 z1 z2 hw1 hV hH hl hcr cr0 hri
          go_upto_region 12 with (fail)
          go_cut [9, 10, 11] from 36 to 54 (fun a _ b ww => ∃ (bb : Bool) (o' : Nat → Int) (s' : Nat → Bool) (g5 c5 : Nat), a = .slice (some ⟨g5, 0, none⟩) m c5 ∧ b = .bool bb ∧ wr.heap.size ≤ g5 ∧ Room m (mayC (cst ls)) ri 0 o (fun _ => false) bb o' s' ∧ Hd 3 ww g5 c5 (fl o' m) ∧ Below wr.heap.size wr ww)
          case first =>
            go_region_held_law (fun w' => w'.cell? ⟨gr, i, none⟩ = some (.int .i64 (ri : Int)))
              (first | exact y0 | exact HW1.out _ B1.out | exact HW1.out _ B2.out | exact HW1.out _ B3.out | exact HW1.out _ B4.out | exact HW1.out _ hb8 | exact HW1.out _ hb6 | exact HW1.out _ hb5 | go_keep)
              (first
                | (refine step_append_lies _ rfl (.tmp 41) (.tmp 42) 23 rfl wr.heap.size 3 i0 (.int .i64 0) 1 8 Try.underlying23 hi0 hz0 hz1 hz2 rfl (by decide) (.slice (some ⟨wr.drew.heap.size, 0, none⟩) 0 0) 0 [] rfl O1.out ⟨go, 0, none⟩ m co (fl o m) rfl (by rw [fl_len, Nat.mul_one]) (vals_cells (HV.out _ B1.out)) (fl_oneM o m) hm1 hmx1 hmb1 B1.out.size _ rfl ?_; intro g5 cap5 w5 hown5 hgr5 hat5 hlt5; rw [Nat.zero_add, List.nil_append] at hown5; have hb5 := B1.out.grown hgr5 B1.out.size (own_geM (by simp)); obtain ⟨hg5, hH5⟩ := own_hdM hown5; have hb6 := below_on hb5 hb5.size (below_new w5 (.cells (Array.replicate m (.bool false)) 4)); have f6 : FdM wr.heap.size (w5.alloc (.cells (Array.replicate m (.bool false)) 4)) g5 cap5 w5.heap.size m o (fun _ => false) := ⟨hH5.keep (below_new _ _), seen_new w5 m, hg5, hb5.size, Nat.ne_of_lt hlt5, hb6.size⟩)
                | (refine step_append_lies _ rfl (.tmp 41) (.tmp 42) 23 rfl wr.heap.size 3 i0 (.int .i64 0) 1 8 Try.underlying23 hi0 hz0 hz1 hz2 rfl (by decide) (.slice (some ⟨wr.drew.heap.size, 0, none⟩) 0 0) 0 [] rfl O2.out ⟨go, 0, none⟩ m co (fl o m) rfl (by rw [fl_len, Nat.mul_one]) (vals_cells (HV.out _ B2.out)) (fl_oneM o m) hm1 hmx1 hmb1 B2.out.size _ rfl ?_; intro g5 cap5 w5 hown5 hgr5 hat5 hlt5; rw [Nat.zero_add, List.nil_append] at hown5; have hb5 := B2.out.grown hgr5 B2.out.size (own_geM (by simp)); obtain ⟨hg5, hH5⟩ := own_hdM hown5; have hb6 := hb5; have f6 : FdM wr.heap.size w5 g5 cap5 (wr.heap.size + 1) m o (fun _ => false) := ⟨hH5, E2.out.grown hgr5 (nrowM (by simp)), hg5, by omega, (by rcases hat5 with h | h <;> simp [Value.ownBlock] at h <;> omega), hb6.size⟩)
                | (refine step_append_lies _ rfl (.tmp 41) (.tmp 42) 23 rfl wr.heap.size 3 i0 (.int .i64 0) 1 8 Try.underlying23 hi0 hz0 hz1 hz2 rfl (by decide) (.slice (some ⟨(wr.heap.size + 1), 0, none⟩) 0 0) 0 [] rfl O4.out ⟨go, 0, none⟩ m co (fl o m) rfl (by rw [fl_len, Nat.mul_one]) (vals_cells (HV.out _ B4.out)) (fl_oneM o m) hm1 hmx1 hmb1 B4.out.size _ rfl ?_; intro g5 cap5 w5 hown5 hgr5 hat5 hlt5; rw [Nat.zero_add, List.nil_append] at hown5; have hb5 := B4.out.grown hgr5 B4.out.size (own_geM (by simp)); obtain ⟨hg5, hH5⟩ := own_hdM hown5; have hb6 := hb5; have f6 : FdM wr.heap.size w5 g5 cap5 wr.drew.heap.size m o (fun _ => false) := ⟨hH5, E4.out.grown hgr5 (nrowM (by simp)), hg5, Nat.le_refl _, (by rcases hat5 with h | h <;> simp [Value.ownBlock] at h <;> simp <;> omega), hb6.size⟩)
                | (go_at_call 62; refine (HFD.out _ g5 cap5 _ hb6 f6).mono ?_; rintro e w8 ⟨bb, o', s', rfl, hroom, hF8, hbx⟩; have hb8 := hb6.trans hbx))
            all_goals
              go_wp2_with (fail)
              go_meet
              case rel => exact ⟨bb, o', s', g5, cap5, rfl, rfl, hg5, hroom, hF8.own, hb8⟩
          case rest =>
            obtain ⟨bb, o', s', g5, c5, rfl, rfl, hg5, hroom, hH2, hb2⟩ := hcut
            clear B1 B2 B3 B4 O1 O2 O4 E2 E4 HV HFD HW1
            have HRM := Lib.hid hroom
            have HB2 := Lib.hid hb2
            have HH2 := Lib.hid hH2
            clear hroom hb2 hH2 y0
            cases bb with
            | true =>
              have HS2 := Lib.hid (MstR.hit HS.out (HRI.out ▸ HRM.out))
              go_wp2_with (fail)

              go_roundw

              case rel => exact ⟨i + 1, cc + 1, g5, c5, o', by omega, by omega, rfl, by go_num, by go_num, Nat.le_trans HL.out.size hg5, HH2.out, HS2, HL.out.trans (HB2.out.mono HL.out.size)⟩
              case measure => simp [intOf]; omega
            | false =>
              have hoo := HRM.out.frame.2 rfl
              subst hoo
              have HS2 := Lib.hid (MstR.miss HS.out (HRI.out ▸ HRM.out))
              go_wp2_with (fail)
              go_roundw
              case rel => exact ⟨i + 1, cc, go, co, _, by omega, by omega, rfl, rfl, by go_num, hgo, HH.out.keep HB2.out, HS2, HL.out.trans (HB2.out.mono HL.out.size)⟩
              case measure => simp [intOf]; omega
        · obtain rfl : i = k := by omega
          go_wp2_with (fail)
          go_ret
          exact ⟨o, cc, rfl, HS.out, hl⟩
end Go.Proofs.Ytncmfjncdhhjoaa

/- The reference's All: the numbers of the rows. -/
namespace Go.Proofs.Ytncmfjncdhhjoaa
open Go.RowKit

theorem fl_snoc (f : Nat → Int) (n : Nat) : fl f n ++ is [f n] = fl f (n + 1) := by
  simp [fl, is, List.range_succ]
set_option maxHeartbeats 4000000 in
set_option maxRecDepth 100000 in
theorem all_own (A : Option Addr) (cT L : Nat) (hL : L ≤ 64) (w : World) :
    Calls Try.prog 37 #[.slice A L cT] w fun e w' => ∃ g cap, e = .returned (.slice (some ⟨g, 0, none⟩) L cap) ∧ Vals w' (some ⟨g, 0, none⟩) (fl (fun j => (j : Int)) L) ∧ Below w.heap.size w w' := by
  obtain ⟨i0, hi0, hz0, hz1, hz2⟩ := info_parts infoI
  go_enter Try.func37, Try.ntmps37
  go_wp2_with (fail)
  have hlA := below_new w (.cells #[] 3)
  have o1 := own_emptyM w w.heap.size (Nat.le_refl _)
  have HO1 := Lib.hid o1
  clear o1
  generalize w.alloc (.cells #[] 3) = W1 at *
  go_loopw [3, 4] (fun v t wr => ∃ (k g cap : Nat), k ≤ L ∧ w.heap.size ≤ g ∧ t = .int .i64 (k : Int) ∧ v = .slice (some ⟨g, 0, none⟩) k cap ∧ Hid (wr.ownsRow w.heap.size 3 1 (.slice (some ⟨g, 0, none⟩) k cap) k (fl (fun j => (j : Int)) k)) ∧ Below w.heap.size w wr) (fun _ t _ => L - (intOf t).toNat)
  case atStart => exact ⟨0, w.heap.size, 0, Nat.zero_le _, Nat.le_refl _, rfl, rfl, HO1, hlA⟩
  case round =>
    clear HO1 hlA
    obtain ⟨k, g, cap, hkm, hg4, rfl, rfl, HOW, hl⟩ := hrel
    by_cases hlk : k < L
    · have hlk2 : (k : Int) < (L : Int) := by omega
      have ho2 := ownsRow_keep HOW.out (below_new wr (.cells #[.int .i64 (k : Int)] 3))
      have hl5 : Below w.heap.size w (wr.alloc (.cells #[.int .i64 (k : Int)] 3)) := bel_alloc hl hl.size
      have hv2 : Vals (wr.alloc (.cells #[.int .i64 (k : Int)] 3)) (some ⟨wr.heap.size, 0, none⟩) (is [(k : Int)]) := (Blk.new wr 3 [.int .i64 (k : Int)]).vals0
      have HO2 := Lib.hid ho2
      have HV2 := Lib.hid hv2
      have hsz := hl.size
      clear ho2 hv2
      go_wp2_with (at_builtin
                   refine wpList_append_own _ rfl _ _ 23 rfl w.heap.size 3 i0 (.int .i64 0) 1 8 Try.underlying23 hi0 hz0 hz1 hz2 rfl (by decide) _ _ _ rfl HO2.out ⟨wr.heap.size, 0, none⟩ 1 1 (is [(k : Int)]) rfl rfl (vals_cells HV2.out) (is_one _) ?c4 ?c5 ?c6 ?_)
      case c4 => unfold maxLen; omega
      case c5 => omega
      case c6 => simp; omega
      intro v' w6 hown hgr hne
      have hv : v' ≠ .slice none 0 0 := by simpa using hne
      have hl6 : Below w.heap.size w w6 := hl5.grown hgr hl5.size (by simp [Value.ownBlock]; omega)
      rw [fl_snoc] at hown
      obtain ⟨g', cap', he, hg', hnn, _⟩ := Hd.of_owns hown hv
      rw [fl_len] at he
      subst he
      have HOW2 := Lib.hid hown
      clear hown hgr hne hv hnn HOW HO2 HV2
      go_wp2
      go_roundw
      case rel => exact ⟨k + 1, g', cap', by omega, hg', by go_num, rfl, HOW2, hl6⟩
      case measure => simp [intOf]; omega
    · obtain rfl : L = k := by omega
      obtain ⟨g', cap', he, hg', hnn, hH'⟩ := Hd.of_owns HOW.out (by simp)
      rw [fl_len] at he
      injection he with he1 he2 he3
      injection he1 with he1
      injection he1 with he1
      subst he1 he3
      have HH := Lib.hid hH'
      clear hH' hnn HOW
      go_wp2
      go_ret
      exact ⟨g, ⟨cap, rfl⟩, HH.out.vals, hl⟩
end Go.Proofs.Ytncmfjncdhhjoaa

/- Plain: without any one of its rows, the rows of a Hall set can all have columns at the same time. -/
namespace Go.Proofs.Ytncmfjncdhhjoaa

/-- Who is found by the search: whatever the row holds and passes on. -/
theorem Room.reach {m : Nat} {may : Nat → Nat → Bool} {r k : Nat} {o o' : Nat → Int} {s s' : Nat → Bool} {b : Bool}
    (h : Room m may r k o s b o' s') : b = false → ∀ P : Nat → Prop, P r → (∀ r k q : Nat, P r → k < m → may r k = true → o k = (q : Int) → P q) →
      ∀ j, j < m → s' j = true → s j = true ∨ ∃ q : Nat, o j = (q : Int) ∧ P q := by
  induction h with
  | done hk => intro _ P _ _ j _ h; exact .inl h
  | skip hk hs hh ih => exact ih
  | free hk h1 h2 h3 => intro e; cases e
  | move hk h1 h2 h3 h4 ih => intro e; cases e
  | stay hk h1 h2 h3 h4 h5 ih1 ih2 =>
    rename_i r k q o o1 o' s s1 s' b
    intro e P hr hc j hj hs
    have ho : o1 = o := h4.frame.2 rfl
    subst ho
    have hq := hc r k q hr hk h2 h3
    rcases ih2 e P hr hc j hj hs with h | h
    · rcases ih1 rfl P hq hc j hj h with h | h
      · by_cases e : j = k
        · subst e; exact .inr ⟨q, h3, hq⟩
        · rw [upd_ne e] at h; exact .inl h
      · exact .inr h
    · exact .inr h

/-- One of a Hall set's rows. -/
def HalR (m i : Nat) (o : Nat → Int) (s : Nat → Bool) (p : Nat) : Prop := p = i ∨ ∃ k, k < m ∧ s k = true ∧ o k = (p : Int)

theorem MstR.all {m : Nat} {may : Nat → Nat → Bool} {ρ : Nat → Nat} {i c : Nat} {o : Nat → Int} (h : MstR m may ρ i o c) : (∀ a b, a < i → b < i → ρ a = ρ b → a = b) →
    c = i ∨ ∃ j, j < i ∧ ∃ (o' : Nat → Int) (s' : Nat → Bool), Inj m o' ∧ (∀ q, Has m o' q → ∃ a, a < j ∧ q = ρ a) ∧ Room m may (ρ j) 0 o' (fun _ => false) false o' s' := by
  induction h with
  | zero => intro _; exact .inl rfl
  | hit h R ih =>
    intro hi
    rcases ih (fun a b ha hb => hi a b (by omega) (by omega)) with rfl | ⟨j, hj, h2⟩
    · exact .inl rfl
    · exact .inr ⟨j, by omega, h2⟩
  | miss h R ih =>
    intro hi
    obtain ⟨h1, h2⟩ := h.own (fun a b ha hb => hi a b (by omega) (by omega))
    exact .inr ⟨_, Nat.lt_succ_self _, _, _, h1, h2, R⟩

theorem hall_least {m i n : Nat} {may : Nat → Nat → Bool} {o : Nat → Int} {s : Nat → Bool} (S : PairSt m may o i) (R : Room m may i 0 o (fun _ => false) false o s)
    {ρ : Nat → Nat} {c : Nat} {o2 : Nat → Int} (hρ : ∀ j, j < n → HalR m i o s (ρ j)) (hinj : ∀ a b, a < n → b < n → ρ a = ρ b → a = b)
    {p : Nat} (hp : HalR m i o s p) (hpn : ∀ j, j < n → ρ j ≠ p) (h : MstR m may ρ n o2 c) : c = n := by
  classical
  rcases h.all hinj with h | ⟨j, hj, o', s', hI, hO, R'⟩
  · exact h
  exfalso
  obtain ⟨v1, v2⟩ := R'.vain rfl
  have hX : Shut m may o' (fun k => s' k = true) := fun k hk hs => v1 k hk rfl hs
  have hnr : ¬ Has m o' (ρ j) := fun hh => by
    obtain ⟨a, ha, e⟩ := hO _ hh
    have := hinj j a hj (by omega) e
    omega
  let Q : Nat → Prop := fun q => q = ρ j ∨ ∃ k, k < m ∧ s' k = true ∧ o' k = ((q : Nat) : Int)
  have hQH : ∀ q, Q q → HalR m i o s q ∧ ∃ a, a < n ∧ q = ρ a := by
    rintro q (rfl | ⟨k, hk, _, e⟩)
    · exact ⟨hρ j hj, j, hj, rfl⟩
    · obtain ⟨a, ha, rfl⟩ := hO q ⟨k, hk, e⟩
      exact ⟨hρ a (by omega), a, by omega, rfl⟩
  have hQs : ∀ q, Q q → ∀ k, k < m → may q k = true → s' k = true := by
    rintro q (rfl | ⟨k, hk, hs, e⟩) k' hk' hm
    · exact v2 k' (Nat.zero_le _) hk' hm
    · obtain ⟨q', e', hc⟩ := v1 k hk rfl hs
      rw [e] at e'
      have : q = q' := by omega
      subst this
      exact hc k' hk' hm
  -- the own column
  have hown : ∀ q, HalR m i o s q → q ≠ i → ∃ k, k < m ∧ o k = (q : Int) := by
    rintro q (rfl | ⟨k, hk, _, e⟩) hne
    · exact absurd rfl hne
    · exact ⟨k, hk, e⟩
  let κ : Nat → Nat := fun q => if hq : HalR m i o s q ∧ q ≠ i then (hown q hq.1 hq.2).choose else 0
  have hκ : ∀ q, HalR m i o s q → q ≠ i → κ q < m ∧ o (κ q) = (q : Int) ∧ may q (κ q) = true := fun q h1 h2 => by
    have e : κ q = (hown q h1 h2).choose := by simp only [κ, dif_pos (⟨h1, h2⟩ : HalR m i o s q ∧ q ≠ i)]
    obtain ⟨h3, h4⟩ := (hown q h1 h2).choose_spec
    rw [e]
    exact ⟨h3, h4, S.edge _ h3 q h4⟩
  by_cases hi : Q i
  · have hcl : ∀ r k q : Nat, Q r → k < m → may r k = true → o k = (q : Int) → Q q := by
      intro r k q hr hk hm ho
      refine Classical.byContradiction fun hnq => ?_
      have hsk := hQs r hr k hk hm
      let τ : Nat → Nat := fun x => if x = i then k else κ x
      have hτi : τ i = k := by simp [τ]
      have hτn : ∀ x, x ≠ i → τ x = κ x := fun x hx => by simp [τ, hx]
      have hto : ∀ x, Q x → τ x < m ∧ s' (τ x) = true := fun x hx => by
        by_cases e : x = i
        · rw [e, hτi]; exact ⟨hk, hsk⟩
        · rw [hτn x e]
          obtain ⟨k1, _, k3⟩ := hκ x (hQH x hx).1 e
          exact ⟨k1, hQs x hx _ k1 k3⟩
      refine stuck (X := fun k => s' k = true) (may := fun _ k => s' k) (o := o') (r := ρ j) (τ := τ) (fun k' hk' hs' => ?_) hI hnr (hto _ (.inl rfl)) (fun q hh => hto q (.inr hh)) ?_
      · obtain ⟨q', e', _⟩ := v1 k' hk' rfl hs'
        exact ⟨q', e', fun _ _ h => h⟩
      · intro x y hx hy e
        by_cases e1 : x = i <;> by_cases e2 : y = i
        · rw [e1, e2]
        · exfalso
          rw [e1, hτi, hτn y e2] at e
          obtain ⟨_, k2, _⟩ := hκ y (hQH y hy).1 e2
          rw [← e, ho] at k2
          have : q = y := by omega
          subst this
          exact hnq hy
        · exfalso
          rw [e2, hτi, hτn x e1] at e
          obtain ⟨_, k2, _⟩ := hκ x (hQH x hx).1 e1
          rw [e, ho] at k2
          have : q = x := by omega
          subst this
          exact hnq hx
        · rw [hτn x e1, hτn y e2] at e
          obtain ⟨_, k2, _⟩ := hκ x (hQH x hx).1 e1
          obtain ⟨_, k3, _⟩ := hκ y (hQH y hy).1 e2
          rw [e, k3] at k2
          omega
    have hall := R.reach rfl Q hi hcl
    have hpq : Q p := by
      rcases hp with rfl | ⟨k, hk, hs, e⟩
      · exact hi
      · rcases hall k hk hs with h | ⟨q, e', hq⟩
        · cases h
        · rw [e] at e'
          have : p = q := by omega
          subst this
          exact hq
    obtain ⟨a, ha, e⟩ := (hQH p hpq).2
    exact hpn a ha e.symm
  · have hne : ∀ q, Q q → q ≠ i := fun q hq e => hi (e ▸ hq)
    refine stuck (X := fun k => s' k = true) (may := may) (o := o') (r := ρ j) (τ := κ) hX hI hnr ?_ (fun q hh => ?_) ?_
    · obtain ⟨k1, _, k3⟩ := hκ (ρ j) (hρ j hj) (hne _ (.inl rfl))
      exact ⟨k1, v2 _ (Nat.zero_le _) k1 k3⟩
    · obtain ⟨k1, _, k3⟩ := hκ q (hQH q (.inr hh)).1 (hne _ (.inr hh))
      exact ⟨k1, k3⟩
    · intro x y hx hy e
      obtain ⟨_, k2, _⟩ := hκ x (hQH x hx).1 (hne _ hx)
      obtain ⟨_, k3, _⟩ := hκ y (hQH y hy).1 (hne _ hy)
      rw [e, k3] at k2
      omega

/-- The columns that some row of a Hall set may have are the ones that the search came to. -/
theorem hall_near {m i k : Nat} {may : Nat → Nat → Bool} {o : Nat → Int} {s : Nat → Bool} (S : PairSt m may o i) (R : Room m may i 0 o (fun _ => false) false o s) (hk : k < m) :
    s k = true ↔ ∃ q, HalR m i o s q ∧ may q k = true := by
  obtain ⟨v1, v2⟩ := R.vain rfl
  constructor
  · intro h
    obtain ⟨q, e, _⟩ := v1 k hk rfl h
    exact ⟨q, .inr ⟨k, hk, h, e⟩, S.edge k hk q e⟩
  · rintro ⟨q, rfl | ⟨k', hk', hs', e⟩, hm⟩
    · exact v2 k (Nat.zero_le _) hk hm
    · obtain ⟨q', e', hc⟩ := v1 k' hk' rfl hs'
      rw [e] at e'
      have : q = q' := by omega
      subst this
      exact hc k hk hm
end Go.Proofs.Ytncmfjncdhhjoaa

/- The reference's Near: how many columns at least one of some rows may have. -/
namespace Go.Proofs.Ytncmfjncdhhjoaa
open Go.RowKit

/-- Whether one of the first j rows may have a column. -/
def metF (ls : List (List Int)) (ρ : Nat → Nat) (c j : Nat) : Bool := (List.range j).any (fun a => mayC (cst ls) (ρ a) c)
theorem metF_succ (ls : List (List Int)) (ρ : Nat → Nat) (c j : Nat) : metF ls ρ c (j + 1) = (metF ls ρ c j || mayC (cst ls) (ρ j) c) := by
  unfold metF
  rw [List.range_succ, List.any_append]
  simp
def nearN (ls : List (List Int)) (ρ : Nat → Nat) (k c : Nat) : Nat := ((List.range c).filter (fun c => metF ls ρ c k)).length
theorem nearN_t {ls : List (List Int)} {ρ : Nat → Nat} {k c : Nat} (h : metF ls ρ c k = true) : nearN ls ρ k (c + 1) = nearN ls ρ k c + 1 := by
  unfold nearN; rw [List.range_succ, List.filter_append]; simp [h]
theorem nearN_f {ls : List (List Int)} {ρ : Nat → Nat} {k c : Nat} (h : metF ls ρ c k = false) : nearN ls ρ k (c + 1) = nearN ls ρ k c := by
  unfold nearN; rw [List.range_succ, List.filter_append]; simp [h]
theorem nearN_le {ls : List (List Int)} {ρ : Nat → Nat} {k c : Nat} : nearN ls ρ k c ≤ c := by
  unfold nearN
  have := List.length_filter_le (fun c => metF ls ρ c k) (List.range c)
  rwa [List.length_range] at this
set_option maxHeartbeats 8000000 in
set_option maxRecDepth 100000 in
theorem near_rows (A : Option Addr) (cT n m k gr cr : Nat) (ls : List (List Int)) (ρ : Nat → Nat) (w : World) (T : Tab w.heap.size w A ls) (G : Good n m ls) (h1 : 1 ≤ n) (h3 : m ≤ 64)
    (hr : Vals w (some ⟨gr, 0, none⟩) (fl (fun j => (ρ j : Int)) k)) (hρ : ∀ j, j < k → ρ j < n) (hk : k ≤ 64) :
    Calls Try.prog 39 #[.slice A n cT, .slice (some ⟨gr, 0, none⟩) k cr] w fun e w' => e = .returned (.int .i64 ((nearN ls ρ k m : Nat) : Int)) ∧ Below w.heap.size w w' := by
  obtain ⟨g, off, Ai, ci, rfl, hg, hrow, _⟩ := G.at_ T (i := 0) (by omega)
  rw [Nat.add_zero] at hrow
  have hn2 : (0 : Int) < (n : Int) := by omega
  have hn3 : 0 < n := by omega
  have HT := Lib.hid T
  have HG := Lib.hid G
  have HRW := Lib.hid hr
  have HP := Lib.hid hρ
  have HROW := Lib.hid hrow
  have HGG := Lib.hid hg
  clear T G hr hρ hrow hg
  go_enter Try.func39, Try.ntmps39
  go_wp2_with (fail)
  go_loopw [5, 6, 7, 8] (fun a t _ _ wr => ∃ (c : Nat), c ≤ m ∧ a = .int .i64 ((nearN ls ρ k c : Nat) : Int) ∧ t = .int .i64 (c : Int) ∧ Below w.heap.size w wr) (fun _ t _ _ _ => m - (intOf t).toNat)
  case atStart => exact ⟨0, Nat.zero_le _, rfl, rfl, Below.refl _ _⟩
  case round =>
    obtain ⟨c, hc, rfl, rfl, hl⟩ := hrel
    have q0 : wr.cell? ⟨g, off, none⟩ = some (.slice Ai m ci) := (hl.cell (p := ⟨g, off, none⟩) HGG.out).trans HROW.out
    by_cases hlc : c < m
    · have hlc2 : (c : Int) < (m : Int) := by omega
      have hnl := nearN_le (ls := ls) (ρ := ρ) (k := k) (c := c)
      have HNL := Lib.hid hnl
      clear hnl
      generalize hN : nearN ls ρ k c = N at *
      have HN := Lib.hid hN
      clear hN
      go_wp2_with (fail)
      go_loopw [7, 8] (fun b t wr2 => ∃ (j : Nat), j ≤ k ∧ b = .bool (metF ls ρ c j) ∧ t = .int .i64 (j : Int) ∧ Below w.heap.size w wr2) (fun _ t _ => k - (intOf t).toNat)
      case atStart => exact ⟨0, Nat.zero_le _, rfl, rfl, hl⟩
      case round =>
        obtain ⟨j, hj, rfl, rfl, hl2⟩ := hrel
        by_cases hlj : j < k
        · have hlj2 : (j : Int) < (k : Int) := by omega
          cases hmt : metF ls ρ c j with
          | true =>
            have hm2 : metF ls ρ c (j + 1) = true := by rw [metF_succ, hmt]; rfl
            clear hmt
            go_wp2_with (fail)
            go_roundw
            case rel => exact ⟨j + 1, by omega, by rw [hm2], by go_num, hl2⟩
            case measure => simp [intOf]; omega
          | false =>
            have hm2 : metF ls ρ c (j + 1) = mayC (cst ls) (ρ j) c := by rw [metF_succ, hmt]; rfl
            obtain ⟨gr', or', er, hgr', hcr⟩ := (Vals.keep HRW.out hl2) (by rw [fl_len]; omega)
            injection er with er
            injection er with er1 er2
            subst er1 er2
            have cr0 := hcr j _ (fl_at hlj)
            rw [Nat.zero_add] at cr0
            have hrk := HP.out j hlj
            obtain ⟨g', off', Ai', ci', e', hg', hrow', hcell'⟩ := HG.out.at_ (HT.out.keep hl2) hrk
            injection e' with e'
            injection e' with e1 e2
            subst e1 e2
            obtain ⟨g2, off2, rfl, hg2, hcl⟩ := hcell' (by omega)
            have hcc := hcl c hlc
            have hrg := (HG.out.rng (ρ j) c hrk hlc).1
            have hme : mayC (cst ls) (ρ j) c = (cst ls (ρ j) c != -1) := rfl
            have hrk2 : ((ρ j : Nat) : Int) < (n : Int) := by omega
            rw [hme] at hm2
            clear hmt hcl hcell' hme hcr
            generalize hx : cst ls (ρ j) c = x at *
            generalize hri : ρ j = ri at *
            have HRI := Lib.hid hri
            have HXX := Lib.hid hx
            have HM2 := Lib.hid hm2
            clear hx hri hm2
            by_cases hx0 : 0 ≤ x
            · have hd : decide (0 ≤ x) = true := by simpa using hx0
              have hm3 : metF ls ρ c (j + 1) = true := by rw [HM2.out]; simp; omega
              clear hrg hx0 HM2
              go_wp2_with (fail)
              go_roundw
              case rel => exact ⟨j + 1, by omega, by rw [hm3], by go_num, hl2⟩
              case measure => simp [intOf]; omega
            · have hd : decide (0 ≤ x) = false := by simpa using hx0
              have hm3 : metF ls ρ c (j + 1) = false := by rw [HM2.out]; simp; omega
              clear hrg hx0 HM2
              go_wp2_with (fail)
              go_roundw
              case rel => exact ⟨j + 1, by omega, by rw [hm3], by go_num, hl2⟩
              case measure => simp [intOf]; omega
        · obtain rfl : k = j := by omega
          cases hmt : metF ls ρ c k with
          | true =>
            have HE := Lib.hid (nearN_t (ls := ls) (ρ := ρ) (k := k) (c := c) hmt)
            clear hmt
            have hNb := HNL.out
            go_wp2_with (fail)
            go_roundw
            case rel => exact ⟨c + 1, by omega, by rw [HE.out, HN.out]; go_num, by go_num, hl2⟩
            case measure => simp [intOf]; omega
          | false =>
            have HE := Lib.hid (nearN_f (ls := ls) (ρ := ρ) (k := k) (c := c) hmt)
            clear hmt
            go_wp2_with (fail)
            go_roundw
            case rel => exact ⟨c + 1, by omega, by rw [HE.out, HN.out], by go_num, hl2⟩
            case measure => simp [intOf]; omega
    · obtain rfl : m = c := by omega
      go_wp2_with (fail)
      go_ret
      exact ⟨rfl, hl⟩
end Go.Proofs.Ytncmfjncdhhjoaa

/- Plain: what Hall's rows are. -/
namespace Go.Proofs.Ytncmfjncdhhjoaa

theorem getD_mem {l : List Int} {x : Int} : (∃ k, k < l.length ∧ l.getD k 0 = x) ↔ x ∈ l := by
  constructor
  · rintro ⟨k, hk, rfl⟩
    rw [List.getD_eq_getElem?_getD, List.getElem?_eq_getElem hk]
    exact List.getElem_mem hk
  · intro h
    obtain ⟨k, hk, e⟩ := List.mem_iff_getElem.1 h
    exact ⟨k, hk, by rw [List.getD_eq_getElem?_getD, List.getElem?_eq_getElem hk]; exact e⟩
theorem getD_inj {l : List Int} (h : l.Nodup) {a b : Nat} (ha : a < l.length) (hb : b < l.length) (e : l.getD a 0 = l.getD b 0) : a = b := by
  rw [List.getD_eq_getElem?_getD, List.getD_eq_getElem?_getD, List.getElem?_eq_getElem ha, List.getElem?_eq_getElem hb] at e
  refine (List.getElem?_inj ha h).1 ?_
  rw [List.getElem?_eq_getElem ha, List.getElem?_eq_getElem hb]
  simpa using e

theorem hall_rows {m i n N : Nat} {ls : List (List Int)} {o f : Nat → Int} {s : Nat → Bool} (S : PairSt m (mayC (cst ls)) o i) (R : Room m (mayC (cst ls)) i 0 o (fun _ => false) false o s) (hin : i < n)
    (hN : N = (hallL i o s m).length) (hw : Swp N (fun k => (hallL i o s m).getD k 0) f) (hs : Srt f N) :
    ∃ ρ : Nat → Nat, (∀ j, j < N → f j = (ρ j : Int)) ∧ (∀ j, j < N → HalR m i o s (ρ j)) ∧ (∀ j, j < N → ρ j < n) ∧ (∀ a b, a < N → b < N → ρ a = ρ b → a = b) ∧ (∀ j, j + 1 < N → ρ j < ρ (j + 1)) ∧ 1 ≤ N ∧ N ≤ n ∧ nearN ls ρ N m + 1 = N := by
  obtain ⟨v1, v2⟩ := R.vain rfl
  have hv : ∀ k, k < m → s k = true → ∃ q : Nat, o k = (q : Int) := fun k hk h => by
    obtain ⟨q, e, _⟩ := v1 k hk rfl h
    exact ⟨q, e⟩
  have hmem : ∀ x : Int, x ∈ hallL i o s m ↔ ∃ p : Nat, x = (p : Int) ∧ HalR m i o s p := by
    intro x
    unfold hallL
    simp only [List.mem_cons, List.mem_map, List.mem_filter, List.mem_range]
    constructor
    · rintro (rfl | ⟨k, ⟨hk, hsk⟩, rfl⟩)
      · exact ⟨i, rfl, .inl rfl⟩
      · obtain ⟨q, e⟩ := hv k hk hsk
        exact ⟨q, e, .inr ⟨k, hk, hsk, e⟩⟩
    · rintro ⟨p, rfl, rfl | ⟨k, hk, hsk, e⟩⟩
      · exact .inl rfl
      · exact .inr ⟨k, ⟨hk, hsk⟩, e⟩
  have hnd : (hallL i o s m).Nodup := by
    unfold hallL
    refine List.nodup_cons.2 ⟨fun h => ?_, ?_⟩
    · obtain ⟨k, hk, e⟩ := List.mem_map.1 h
      have := (S.rows i).1 ⟨k, List.mem_range.1 (List.mem_filter.1 hk).1, e⟩
      omega
    · have h0 : ((List.range m).filter s).Nodup := List.Pairwise.filter _ List.nodup_range
      unfold List.Nodup at h0 ⊢
      rw [List.pairwise_map]
      refine h0.imp_of_mem fun {a b} ha hb hne e => hne ?_
      obtain ⟨ha1, ha2⟩ := List.mem_filter.1 ha
      obtain ⟨hb1, _⟩ := List.mem_filter.1 hb
      obtain ⟨q, e2⟩ := hv a (List.mem_range.1 ha1) ha2
      exact S.inj a b (List.mem_range.1 ha1) (List.mem_range.1 hb1) e (by omega)
  subst hN
  have hf : ∀ x, (∃ k, k < (hallL i o s m).length ∧ f k = x) ↔ ∃ p : Nat, x = (p : Int) ∧ HalR m i o s p := fun x => by
    rw [hw.1 x, ← hmem x]
    exact getD_mem
  have hfi : ∀ a b, a < (hallL i o s m).length → b < (hallL i o s m).length → f a = f b → a = b := hw.2 fun a b ha hb e => getD_inj hnd ha hb e
  have hq : ∀ j, j < (hallL i o s m).length → f j = ((f j).toNat : Int) ∧ HalR m i o s (f j).toNat := fun j hj => by
    obtain ⟨p, e, h⟩ := (hf (f j)).1 ⟨j, hj, rfl⟩
    rw [e]
    simpa using h
  have hlt : ∀ p, HalR m i o s p → p ≤ i := by
    rintro p (rfl | ⟨k, hk, _, e⟩)
    · exact Nat.le_refl _
    · have := (S.rows p).1 ⟨k, hk, e⟩; omega
  have hon : ∀ p, HalR m i o s p → ∃ j, j < (hallL i o s m).length ∧ (f j).toNat = p := fun p hp => by
    obtain ⟨j, hj, e⟩ := (hf (p : Int)).2 ⟨p, rfl, hp⟩
    exact ⟨j, hj, by rw [e]; simp⟩
  have hlen : (hallL i o s m).length = ((List.range m).filter s).length + 1 := by unfold hallL; simp
  have hmet : ∀ c, c < m → metF ls (fun j => (f j).toNat) c (hallL i o s m).length = s c := fun c hc => by
    have h1 : metF ls (fun j => (f j).toNat) c (hallL i o s m).length = true ↔ s c = true := by
      rw [hall_near S R hc]
      unfold metF
      simp only [List.any_eq_true, List.mem_range]
      constructor
      · rintro ⟨a, ha, h⟩
        exact ⟨_, (hq a ha).2, h⟩
      · rintro ⟨q, hq, h⟩
        obtain ⟨a, ha, rfl⟩ := hon q hq
        exact ⟨a, ha, h⟩
    exact Bool.eq_iff_iff.2 h1
  refine ⟨fun j => (f j).toNat, fun j hj => (hq j hj).1, fun j hj => (hq j hj).2, fun j hj => by have := hlt _ (hq j hj).2; show (f j).toNat < n; omega,
    fun a b ha hb e => hfi a b ha hb (by rw [(hq a ha).1, (hq b hb).1]; exact congrArg _ e), fun j hj => ?_, by omega, ?_, ?_⟩
  · show (f j).toNat < (f (j + 1)).toNat
    have h1 := hs j (j + 1) (by omega) hj
    have h2 := (hq j (by omega)).1
    have h3 := (hq (j + 1) hj).1
    have h4 : f j ≠ f (j + 1) := fun e => by have := hfi _ _ (by omega) hj e; omega
    omega
  · have := hallL_le S (fun j hj h => hv j hj h)
    omega
  · rw [hlen]
    unfold nearN
    congr 1
    refine congrArg List.length (List.filter_congr fun c hc => ?_)
    have h := hmet c (List.mem_range.1 hc)
    rw [hlen] at h
    exact h

/-- The rows without the a-th of them. -/
def butR (ρ : Nat → Nat) (a j : Nat) : Nat := if j < a then ρ j else ρ (j + 1)
theorem rest_all {m i N : Nat} {may : Nat → Nat → Bool} {o : Nat → Int} {s : Nat → Bool} (S : PairSt m may o i) (R : Room m may i 0 o (fun _ => false) false o s)
    {ρ : Nat → Nat} (h1 : ∀ j, j < N → HalR m i o s (ρ j)) (h2 : ∀ a b, a < N → b < N → ρ a = ρ b → a = b) {a : Nat} (ha : a < N) {o2 : Nat → Int} {c : Nat} (h : MstR m may (butR ρ a) (N - 1) o2 c) : c = N - 1 := by
  refine hall_least S R (fun j hj => ?_) (fun x y hx hy e => ?_) (h1 a ha) (fun j hj e => ?_) h
  · unfold butR; split
    · exact h1 j (by omega)
    · exact h1 (j + 1) (by omega)
  · unfold butR at e
    split at e <;> split at e
    · exact h2 x y (by omega) (by omega) e
    · have := h2 x (y + 1) (by omega) (by omega) e; omega
    · have := h2 (x + 1) y (by omega) (by omega) e; omega
    · have := h2 (x + 1) (y + 1) (by omega) (by omega) e; omega
  · unfold butR at e
    split at e
    · have := h2 j a (by omega) ha e; omega
    · have := h2 (j + 1) a (by omega) ha e; omega
theorem butR_lt {N n : Nat} {ρ : Nat → Nat} (h1 : ∀ j, j < N → ρ j < n) {a : Nat} (ha : a < N) : ∀ j, j < N - 1 → butR ρ a j < n := fun j hj => by
  unfold butR; split
  · exact h1 j (by omega)
  · exact h1 (j + 1) (by omega)
theorem butR_inj {N : Nat} {ρ : Nat → Nat} (h2 : ∀ a b, a < N → b < N → ρ a = ρ b → a = b) {a : Nat} (ha : a < N) : ∀ x y, x < N - 1 → y < N - 1 → butR ρ a x = butR ρ a y → x = y := fun x y hx hy e => by
  unfold butR at e
  split at e <;> split at e
  · exact h2 x y (by omega) (by omega) e
  · have := h2 x (y + 1) (by omega) (by omega) e; omega
  · have := h2 (x + 1) y (by omega) (by omega) e; omega
  · have := h2 (x + 1) (y + 1) (by omega) (by omega) e; omega
/-- Its values are two pieces of the rows' values. -/
theorem butR_fl {N : Nat} {ρ : Nat → Nat} {a : Nat} (ha : a < N) : fl (fun j => (butR ρ a j : Int)) (N - 1) = (fl (fun j => (ρ j : Int)) N).take a ++ (fl (fun j => (ρ j : Int)) N).drop (a + 1) := by
  apply List.ext_getElem?
  intro j
  have hL : (fl (fun j => (ρ j : Int)) N).length = N := fl_len _ _
  by_cases h : j < a
  · rw [List.getElem?_append_left (by rw [List.length_take, hL]; omega), List.getElem?_take, if_pos h, fl_at (by omega), fl_at (by omega)]
    unfold butR; rw [if_pos h]
  · rw [List.getElem?_append_right (by rw [List.length_take, hL]; omega), List.length_take, hL, Nat.min_eq_left (by omega), List.getElem?_drop]
    by_cases h2 : j < N - 1
    · rw [fl_at h2, show a + 1 + (j - a) = j + 1 by omega, fl_at (by omega)]
      unfold butR; rw [if_neg h]
    · rw [List.getElem?_eq_none (by rw [fl_len]; omega), List.getElem?_eq_none (by rw [fl_len]; omega)]
end Go.Proofs.Ytncmfjncdhhjoaa

/- The walk of MatchHalls. -/
namespace Go.Proofs.Ytncmfjncdhhjoaa
open Go.RowKit

/-- An append at a step of a region that draws its order; nothing may be appended. -/
theorem step_ownM {P : Program} {ops : Array Oper} {o : Oper} {a : Act} {w : World} {K : Act → World → Prop} {Q : Exit → Act → World → Prop} {E : Prop} (hw : Region.wanted o (yielded ops a.tmps) = true) (s x : Operand) (t : TypeId)
    (ho : o.op = .call { callee := .builtin .append, args := #[s, x], argTypes := #[t, t] })
    (base : Nat) (e : TypeId) (i : TypeInfo) (z : Value) (size bytes : Nat) (ht : P.underlying t = some (.slice e)) (hi : P.info? e = some i) (hz : i.zero = some z)
    (hsize : i.size = size) (hby : i.bytes = bytes) (hzs : z.cells.size = size) (hsz : 0 < size)
    (v : Value) (n : Nat) (xs : List Value) (hs : a.eval s = v) (hown : w.ownsRow base e size v n xs)
    (ad : Addr) (m c : Nat) (news : List Value) (hx : a.eval x = .slice (some ad) m c) (hl : news.length = m * size) (hnews : ∀ j u, news[j]? = some u → w.cell? (ad.add j) = some u) (h1 : ∀ u ∈ news, u.oneCell' = true)
    (h63 : n + m ≤ maxLen) (hbytes : (n + m) * bytes ≤ 140737488355328) (hbase : base ≤ w.heap.size)
    (h : ∀ v' w', w'.ownsRow base e size v' (n + m) (xs ++ news) → w.grownBy w' v.ownBlock → (v' = .slice none 0 0 ↔ v = .slice none 0 0 ∧ m = 0) → K (a.put o.dst v') w') :
    if Region.wanted o (yielded ops a.tmps) = true then Oper.wp P o a w K Q else E := by
  rw [if_pos hw]
  exact wp_append_own w s x t ho base e i z size bytes ht hi hz hsize hby hzs hsz v n xs hs hown ad m c news hx hl hnews h1 h63 hbytes hbase h

set_option maxHeartbeats 16000000 in
set_option maxRecDepth 100000 in
theorem matchHalls_any (A : Option Addr) (c L : Nat) (ls : List (List Int)) (w : World) (T : TabIn w A ls) (hL : L = ls.length) :
    Calls Try.prog 7 #[.slice A L c] w fun e w' => e = .returned (.bool true) ∧ Below w.heap.size w w' := by
  obtain ⟨i0, hi0, hz0, hz1, hz2⟩ := info_parts infoI
  have htb := table_any A c L 66 66 ls w T hL (by omega) (by omega)
  have HTB := Lib.hid htb
  have hsz : (tblL ls 66 66).length ≤ 66 := by unfold tblL; simp; omega
  generalize tblL ls 66 66 = ts at *
  clear htb T hL
  go_enter Try.func7, Try.ntmps7
  go_upto_region 2 with (go_at_call 21; refine (HTB.out).mono ?_; rintro e w1 ⟨v, es, rfl, hH, hv, hN, hE, hl1⟩
                         obtain ⟨g, cap, he, hT⟩ := hH.tab hv hN
                         rw [hE] at hT
                         rw [show es.length = ts.length by rw [← hE, List.length_map]] at he
                         have HTT := Lib.hid hT
                         clear hH hv hN hE hT
                         subst he)
  have hha := hall_any 1000000 sortK_any (some ⟨g, 0, none⟩) cap ts.length ts _ HTT.out rfl (by omega)
  have HHA := Lib.hid hha
  have HSZ := Lib.hid hsz
  clear hha hsz
  go_upto_region 3 with (go_at_call 38; refine (HHA.out).mono ?_; intro e w2 hph; have hl2 := hph.1; rcases hph.2 with ⟨hf, rfl⟩ | ⟨n, m, o, hc, hn, G, h123, S, rfl⟩ | ⟨n, m, i, o, s, gh, ch, N, f, hc, hn, G, h123, hin, S, R, hNl, hSw, hSr, hgh, hHd, rfl⟩ <;> try (have HNL9 := Lib.hid hNl; clear hNl))
  · have q2 := hl1.trans (hl2.mono hl1.size)
    have hT2 := (HTT.out.keep hl2).mono hl2.size
    have hck := refCheck_any w2.heap.size (some ⟨g, 0, none⟩) cap ts.length ts w2 hT2 rfl
    have hce : ckE ts = 1 := by unfold ckE; rw [hf]; rfl
    rw [hce] at hck
    have HCK := Lib.hid hck
    clear hck hce hf hph HHA HTT
    go_wp2_with (first
      | (go_at_call 23; refine (HCK.out).mono ?_; rintro e w3 ⟨rfl, hl3⟩; have q3 := q2.trans (hl3.mono q2.size))
      | (go_at_call 26; refine (lives_any _).mono ?_; rintro e w4 ⟨rfl, hl4⟩))
    go_ret
    exact ⟨rfl, q3.trans (hl4.mono q3.size)⟩
  · have q2 := hl1.trans (hl2.mono hl1.size)
    have hT2 := (HTT.out.keep hl2).mono hl2.size
    have hck := refCheck_any w2.heap.size (some ⟨g, 0, none⟩) cap ts.length ts w2 hT2 rfl
    have hce : ckE ts = 0 := by unfold ckE; rw [hc]; rfl
    rw [hce] at hck
    have HCK := Lib.hid hck
    have HG := Lib.hid G
    have HS := Lib.hid S
    have HT2 := Lib.hid hT2
    obtain ⟨h1, h2, h3⟩ := h123
    clear hck hce hph HHA HTT hc S hT2 G
    subst hn
    have hal := all_own (some ⟨g, 0, none⟩) cap ts.length (by omega)
    have HAL := Lib.hid hal
    have hfull : ∀ (o' : Nat → Int) (c' : Nat), MstR m (mayC (cst ts)) (fun j => j) ts.length o' c' → c' = ts.length := fun o' c' hM => by
      obtain ⟨τ, hτ⟩ := HS.out.asg (fun i k hi hk => (HG.out.rng i k hi hk).1)
      rcases (hM.id (fun j _ => rfl)).part with ⟨h, _⟩ | ⟨_, j, hj, hst⟩
      · exact h
      · exact absurd hτ (hst.no hj τ)
    have HFU := Lib.hid hfull
    clear hal hfull
    go_wp2_with (first
      | (go_at_call 23; refine (HCK.out).mono ?_; rintro e w3 ⟨rfl, hl3⟩; have q3 := q2.trans (hl3.mono q2.size); have HT3 := Lib.hid ((HT2.out.keep hl3).mono hl3.size))
      | (go_at_call 37; refine (HAL.out _).mono ?_; rintro e w5 ⟨gr, cr, rfl, hv5, hl5⟩; have q5 := q3.trans (hl5.mono q3.size); have HT5 := Lib.hid ((HT3.out.keep hl5).mono hl5.size); have HV5 := Lib.hid hv5)
      | (go_at_call 36; refine (refMost_any (some ⟨g, 0, none⟩) cap ts.length m ts.length gr cr ts (fun j => j) _ HT5.out HG.out h1 h2 h3 HV5.out (fun j hj => hj) (fun a b _ _ e => e) (by omega)).mono ?_; rintro e w6 ⟨o', c', rfl, hMR, hl6⟩; have q6 := q5.trans (hl6.mono q5.size); obtain rfl := HFU.out _ _ hMR; clear hMR)
      | (go_at_call 26; refine (lives_any _).mono ?_; rintro e w4 ⟨rfl, hl4⟩))
    go_ret
    exact ⟨rfl, q6.trans (hl4.mono q6.size)⟩
  · have q2 := hl1.trans (hl2.mono hl1.size)
    have hT2 := (HTT.out.keep hl2).mono hl2.size
    have hck := refCheck_any w2.heap.size (some ⟨g, 0, none⟩) cap ts.length ts w2 hT2 rfl
    have hce : ckE ts = 0 := by unfold ckE; rw [hc]; rfl
    rw [hce] at hck
    obtain ⟨ρ, r1, r2, r3, r4, r5, r6, r7, r8⟩ := hall_rows S R hin HNL9.out hSw hSr
    have hfl : fl f N = fl (fun j => (ρ j : Int)) N := fl_congr r1
    rw [hfl] at hHd
    have HCK := Lib.hid hck
    have HG := Lib.hid G
    have HT2 := Lib.hid hT2
    have HH2 := Lib.hid hHd
    have hrest : ∀ a, a < N → ∀ (o' : Nat → Int) (c' : Nat), MstR m (mayC (cst ts)) (butR ρ a) (N - 1) o' c' → c' = N - 1 := fun a ha o' c' hM => rest_all S R r2 r4 ha hM
    have HREST := Lib.hid hrest
    obtain ⟨h1, h2, h3⟩ := h123
    subst hn
    have hless : ∀ (o' : Nat → Int) (c' : Nat), MstR m (mayC (cst ts)) (fun j => j) ts.length o' c' → ((c' : Int) == (ts.length : Int)) = false := fun o' c' hM => by
      rcases (hM.id (fun j _ => rfl)).part with ⟨h, S2⟩ | ⟨h, _⟩
      · exfalso
        obtain ⟨τ, hτ⟩ := S2.asg (fun i k hi hk => (HG.out.rng i k hi hk).1)
        exact StuckAt.no ⟨o, s, S, R⟩ hin τ hτ
      · simp; omega
    have HLESS := Lib.hid hless
    have HR3 := Lib.hid r3
    have HR4 := Lib.hid r4
    have HR5 := Lib.hid r5
    have HR8 := Lib.hid r8
    clear hck hce hph HHA HTT hc S R hT2 G HNL9 hSw hSr hfl hHd r1 r2 hrest hless r3 r4 r5 r8
    have hal := all_own (some ⟨g, 0, none⟩) cap ts.length (by omega)
    have HAL := Lib.hid hal
    clear hal
    go_upto_region 9 with (first
      | (go_at_call 23; refine (HCK.out).mono ?_; rintro e w3 ⟨rfl, hl3⟩; have q3 := q2.trans (hl3.mono q2.size); have HT3 := Lib.hid ((HT2.out.keep hl3).mono hl3.size))
      | (go_at_call 37; refine (HAL.out _).mono ?_; rintro e w5 ⟨gr, cr, rfl, hv5, hl5⟩; have q5 := q3.trans (hl5.mono q3.size); have HT5 := Lib.hid ((HT3.out.keep hl5).mono hl5.size); have HV5 := Lib.hid hv5)
      | (go_at_call 36; refine (refMost_any (some ⟨g, 0, none⟩) cap ts.length m ts.length gr cr ts (fun j => j) _ HT5.out HG.out h1 h2 h3 HV5.out (fun j hj => hj) (fun a b _ _ e => e) (by omega)).mono ?_; rintro e w6 ⟨o', c', rfl, hMR, hl6⟩; have q6 := q5.trans (hl6.mono q5.size); have hcl := HLESS.out _ _ hMR; clear hMR))
    have hH6 := ((HH2.out.keep hl3).keep (hl5.mono (Nat.le_refl _))).keep hl6
    have HT6 := Lib.hid ((HT5.out.keep hl6).mono hl6.size)
    have HH6 := Lib.hid hH6
    have hcell : ∀ j, j < N → w6.cell? ⟨gh, j, none⟩ = some (.int .i64 (ρ j : Int)) := fun j hj => hH6.cell (fl_at hj)
    have HC6 := Lib.hid hcell
    clear hcell hH6 HCK HT2 HH2 HT3 HT5 HV5 hv5 HAL HLESS hl3 hl5 hl6 hcl hl1 hl2 q2 q3 q5
    go_loopw [7] (fun t wr => ∃ j z : Nat, j ≤ N ∧ t = .int .i64 (j : Int) ∧ wr = w6.drewN z) (fun t _ => N - (intOf t).toNat)
    case atStart => exact ⟨0, 0, Nat.zero_le _, rfl, rfl⟩
    case round =>
      obtain ⟨j, z, hj, rfl, rfl⟩ := hrel
      by_cases hlj : j < N
      · have hlj2 : (j : Int) < (N : Int) := by omega
        have c1 := HC6.out j hlj
        have d1 : decide ((ρ j : Int) < 0) = false := by simp; try omega
        have d2 : decide ((ts.length : Int) ≤ (ρ j : Int)) = false := by have := HR3.out j hlj; simp; omega
        have d2' : decide (ts.length ≤ ρ j) = false := by have := HR3.out j hlj; simp; omega
        by_cases hz : j = 0
        · have d3 : decide ((0 : Int) < (j : Int)) = false := by simp; omega
          have d3' : decide (0 < j) = false := by simp; omega
          clear hz
          generalize ρ j = rj at *
          go_wp2_with (fail)
          go_quiet (fail)
          go_wp2_with (fail)
          go_roundw
          case rel => exact ⟨j + 1, _, by omega, by go_num, rfl⟩
          case measure => simp [intOf]; omega
        · have d3 : decide ((0 : Int) < (j : Int)) = true := by simp; omega
          have d3' : decide (0 < j) = true := by simp; omega
          obtain ⟨p, hp⟩ : ∃ p, j = p + 1 := ⟨j - 1, by omega⟩
          have hsub : (j : Int) - 1 = (p : Int) := by omega
          have hlp : (p : Int) < (N : Int) := by omega
          have c2 := HC6.out p (by omega)
          have d4 : decide ((ρ j : Int) ≤ (ρ p : Int)) = false := by
            have := HR5.out p (by omega)
            rw [← hp] at this
            simp; omega
          have d4' : decide (ρ j ≤ ρ p) = false := by simpa using d4
          clear hz hp
          generalize ρ j = rj at *
          generalize ρ p = rp at *
          go_wp2_with (fail)
          go_quiet (fail)
          go_wp2_with (fail)
          go_roundw
          case rel => exact ⟨j + 1, _, by omega, by go_num, rfl⟩
          case measure => simp [intOf]; omega
      · obtain rfl : N = j := by omega
        have bz : Below w6.heap.size w6 (w6.drewN z) := below_drewN (Below.refl _ _) z
        have HTz := Lib.hid ((HT6.out.keep bz).mono bz.size)
        have HHz := Lib.hid (HH6.out.keep bz)
        have hdq : (((nearN ts ρ N m : Nat) : Int) != (N : Int) - 1) = false := by have := HR8.out; simp; omega
        have hN0 : ((N : Int) == 0) = false := by simp; omega
        have qz := q6.trans (bz.mono q6.size)
        have hN64 : N ≤ 64 := by omega
        clear HC6 HH6 HT6 HR5 HR8
        generalize w6.drewN z = w7 at *
        go_upto_region 16 with (first
          | (go_at_call 39; refine (near_rows (some ⟨g, 0, none⟩) cap ts.length m N gh ch ts ρ _ HTz.out HG.out h1 h3 HHz.out.vals HR3.out hN64).mono ?_; rintro e w8 ⟨rfl, hl8⟩; have q8 := qz.trans (hl8.mono qz.size); have HT8 := Lib.hid ((HTz.out.keep hl8).mono hl8.size); have HH8 := Lib.hid (HHz.out.keep hl8))
          | (go_at_call 26; refine (lives_any _).mono ?_; rintro e w9 ⟨rfl, hl9⟩; have q9 := q8.trans (hl9.mono q8.size); have HT9 := Lib.hid ((HT8.out.keep hl9).mono hl9.size); have HH9 := Lib.hid (HH8.out.keep hl9)))
        clear HTz HHz HT8 HH8 hdq hN0 hl8 hl9 bz
        go_loopw [8, 9] (fun t _ wr => ∃ a : Nat, a ≤ N ∧ t = .int .i64 (a : Int) ∧ Below w9.heap.size w9 wr) (fun t _ _ => N - (intOf t).toNat)
        case atStart => exact ⟨0, Nat.zero_le _, rfl, Below.refl _ _⟩
        case round =>
          obtain ⟨a, ha, rfl, hl⟩ := hrel
          by_cases hla : a < N
          · have hla2 : (a : Int) < (N : Int) := by omega
            have hV : ∀ X, Below wr.heap.size wr X → Vals X (some ⟨gh, 0, none⟩) (fl (fun j => (ρ j : Int)) N) := fun X h => ((HH9.out.keep hl).keep h).vals
            have HV := Lib.hid hV
            have hch : N ≤ ch := by
              obtain ⟨rest, h, _⟩ := HH9.out
              rw [fl_len] at h; omega
            have hac : (a : Int) ≤ (ch : Int) := by omega
            obtain ⟨M, hM⟩ : ∃ M, M = N - 1 := ⟨_, rfl⟩
            have HREST2 := Lib.hid (HREST.out a hla)
            have HBF := Lib.hid (butR_fl (ρ := ρ) hla)
            obtain ⟨p, hpa⟩ : ∃ p, p = a + 1 := ⟨_, rfl⟩
            have hwp : IntKind.i64.wrap ((a : Int) + 1) = (p : Int) := by rw [wrapI (by omega) (by omega)]; omega
            have hpN : (p : Int) ≤ (N : Int) := by omega
            have hex : ∃ ad2, (if ch = p then (some ⟨gh, 0, none⟩ : Option Addr) else some ⟨gh, p, none⟩) = some ad2 ∧ ∀ X, Below wr.heap.size wr X → Vals X (some ad2) ((fl (fun j => (ρ j : Int)) N).drop p) := by
              by_cases hcp : ch = p
              · rw [if_pos hcp, List.drop_eq_nil_of_le (by rw [fl_len]; omega)]
                exact ⟨_, rfl, fun X _ => Vals.nil⟩
              · rw [if_neg hcp]
                refine ⟨_, rfl, fun X h => ?_⟩
                have := (HV.out X h).drop p
                rwa [Nat.zero_add] at this
            obtain ⟨ad2, had2, hvd⟩ := hex
            have HVD := Lib.hid hvd
            clear hvd
            rw [← hpa] at HBF
            have HBL := Lib.hid (butR_lt HR3.out hla)
            have HBI := Lib.hid (butR_inj HR4.out hla)
            rw [← hM] at HREST2 HBF HBL HBI
            have hMN : M + 1 = N := by omega
            clear hV hM
            have b1 := below_on (Below.refl wr.heap.size wr).drew (Nat.le_refl _) (below_new wr.drew (.cells #[] 3))
            have o1 := own_emptyM wr.drew wr.heap.size (Nat.le_refl _)
            have O1 := Lib.hid o1
            have B1 := Lib.hid b1
            clear o1 b1
            have hlen1 : ((fl (fun j => (ρ j : Int)) N).take a).length = a * 1 := by rw [List.length_take, fl_len]; omega
            have hlen2 : ((fl (fun j => (ρ j : Int)) N).drop p).length = (N - p) * 1 := by rw [List.length_drop, fl_len]; omega
            have HL1 := Lib.hid hlen1
            have HL2 := Lib.hid hlen2
            clear hlen1 hlen2
            have hmx1 : 0 + a ≤ maxLen := by unfold maxLen; omega
            have hmb1 : (0 + a) * 8 ≤ 140737488355328 := by omega
            have hmx2 : a + (N - p) ≤ maxLen := by unfold maxLen; omega
            have hmb2 : (a + (N - p)) * 8 ≤ 140737488355328 := by omega
            clear hpa
            have HMX2 := Lib.hid hmx2
            have HMB2 := Lib.hid hmb2
            have hnn1 : ∀ v ∈ (fl (fun j => (ρ j : Int)) N).take a, v.oneCell' = true := fun v hv => fl_oneM _ _ v (List.mem_of_mem_take hv)
            have hnn2 : ∀ v ∈ (fl (fun j => (ρ j : Int)) N).drop p, v.oneCell' = true := fun v hv => fl_oneM _ _ v (List.mem_of_mem_drop hv)
            have HN1 := Lib.hid hnn1
            have HN2 := Lib.hid hnn2
            clear hmx2 hmb2 hnn1 hnn2
            go_upto_region 18 with (fail)
            go_cut [9] from 105 to 114 (fun v ww => ∃ g5 c5, v = .slice (some ⟨g5, 0, none⟩) M c5 ∧ Vals ww (some ⟨g5, 0, none⟩) (fl (fun j => (butR ρ a j : Int)) M) ∧ Below wr.heap.size wr ww)
            case first =>
              go_region_law (first
                | (refine step_ownM (by first | rfl | (simp [Region.wanted]) | (kernel_rfl)) (.tmp 105) (.tmp 108) 23 rfl wr.heap.size 3 i0 (.int .i64 0) 1 8 Try.underlying23 hi0 hz0 hz1 hz2 rfl (by decide) (.slice (some ⟨wr.drew.heap.size, 0, none⟩) 0 0) 0 [] rfl O1.out ⟨gh, 0, none⟩ a ch ((fl (fun j => (ρ j : Int)) N).take a) rfl HL1.out (vals_cells ((HV.out _ B1.out).take a)) HN1.out hmx1 hmb1 B1.out.size ?_
                   intro v5 w5 hown5 hgr5 hne5
                   rw [Nat.zero_add, List.nil_append] at hown5
                   have hb5 := B1.out.grown hgr5 B1.out.size (own_geM (Nat.le_refl _))
                   have hn5 : v5 ≠ .slice none 0 0 := (fun e => by have := (hne5.1 e).1; cases this)
                   obtain ⟨g5, cap5, he5, hg5, hx1, hx2⟩ := Hd.of_owns hown5 hn5
                   have HO5 := Lib.hid hown5
                   have HE5 := Lib.hid he5
                   have HG5 := Lib.hid hg5
                   have HNE5 := Lib.hid hn5
                   have HB5 := Lib.hid hb5
                   clear hown5 hne5 he5 hg5 hn5 hb5 hgr5 hx1 hx2)
                | (refine step_ownM (by first | rfl | (simp [Region.wanted]) | (kernel_rfl)) (.tmp 109) (.tmp 113) 23 rfl wr.heap.size 3 i0 (.int .i64 0) 1 8 Try.underlying23 hi0 hz0 hz1 hz2 rfl (by decide) v5 a ((fl (fun j => (ρ j : Int)) N).take a) rfl HO5.out ad2 (N - p) _ ((fl (fun j => (ρ j : Int)) N).drop p) rfl HL2.out (vals_cells (HVD.out _ HB5.out)) HN2.out HMX2.out HMB2.out HB5.out.size ?_
                   intro v6 w6 hown6 hgr6 hne6
                   rw [← HBF.out] at hown6
                   have hb6 := HB5.out.grown hgr6 HB5.out.size (by rw [HE5.out]; exact own_geM HG5.out)
                   obtain ⟨g6, cap6, he6, hg6, hx3, hHd6⟩ := Hd.of_owns hown6 (fun e => HNE5.out (hne6.1 e).1)
                   rw [fl_len] at he6
                   have HV6 := Lib.hid hHd6.vals
                   have HB6 := Lib.hid hb6
                   have HG6 := Lib.hid hg6
                   clear hown6 hne6 hHd6 hb6 hg6 hgr6 hx3
                   subst he6))
              all_goals
                go_wp2_with (fail)
                go_meet
                case rel => exact ⟨g6, cap6, rfl, HV6.out, HB6.out⟩
            case rest =>
              obtain ⟨g5, c5, rfl, hv5, hb5⟩ := hcut
              have hq := hl.trans (hb5.mono hl.size)
              have HT5 := Lib.hid ((HT9.out.keep hq).mono hq.size)
              have HV5 := Lib.hid hv5
              clear hv5 hb5 O1 B1 HV HVD HL1 HL2 had2 hwp HBF
              go_wp2_with (go_at_call 36; refine (refMost_any (some ⟨g, 0, none⟩) cap ts.length m M g5 c5 ts (butR ρ a) _ HT5.out HG.out h1 h2 h3 HV5.out HBL.out HBI.out (by omega)).mono ?_; rintro e w11 ⟨o'', c'', rfl, hMR, hl11⟩; have q11 := hq.trans (hl11.mono hq.size); obtain rfl := HREST2.out _ _ hMR; clear hMR)
              go_roundw
              case rel => exact ⟨a + 1, by omega, by go_num, q11⟩
              case measure => simp [intOf]; omega
          · obtain rfl : N = a := by omega
            go_wp2_with (fail)
            go_ret
            exact ⟨rfl, q9.trans (hl.mono q9.size)⟩
end Go.Proofs.Ytncmfjncdhhjoaa

