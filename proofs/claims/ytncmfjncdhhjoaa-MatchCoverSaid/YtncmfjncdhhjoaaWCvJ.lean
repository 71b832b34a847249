/- Most is the least cover: the reference's search, plain laws, the walk. -/
import Derived.Test.YtncmfjncdhhjoaaWHall
import Derived.Test.YtncmfjncdhhjoaaMMst
import Derived.Deep.AppendLies
import Derived.Deep.RegionHeldLaw
import Derived.Deep.CutRange
import Derived.Test.YtncmfjncdhhjoaaWMst
import Derived.Test.YtncmfjncdhhjoaaWFor

/- The reference's find: a row finds a column by turning others out. -/
namespace Go.Proofs.Ytncmfjncdhhjoaa
open Go.RowKit


theorem unhideF {p : Prop} (h : Hid p) : p := h.out
structure FdM (B : Nat) (w : World) (go co gs m : Nat) (o : Nat → Int) (s : Nat → Bool) : Prop where
  own : Hd 3 w go co (fl o m)
  seen : Blk 4 w gs (flB s m)
  far : B ≤ go ∧ B ≤ gs ∧ go ≠ gs ∧ B ≤ w.heap.size
theorem FdM.keepAll {B : Nat} {w w' : World} {go co gs m : Nat} {o : Nat → Int} {s : Nat → Bool} (h : FdM B w go co gs m o s) (hb : Below w.heap.size w w') : FdM B w' go co gs m o s :=
  ⟨h.own.keep hb, h.seen.keep hb, ⟨h.far.1, h.far.2.1, h.far.2.2.1, Nat.le_trans h.far.2.2.2 hb.size⟩⟩
theorem FdM.setS {B : Nat} {w : World} {go co gs m : Nat} {o : Nat → Int} {s : Nat → Bool} (h : FdM B w go co gs m o s) (k : Nat) (b : Bool) : FdM B (w.setCell ⟨gs, k, none⟩ (.bool b)) go co gs m o (upd s k b) :=
  ⟨h.own.setOther (a := ⟨gs, k, none⟩) h.far.2.2.1 _, h.seen.setB k b, by have := h.far; simpa using this⟩
theorem FdM.setO {B : Nat} {w : World} {go co gs m : Nat} {o : Nat → Int} {s : Nat → Bool} (h : FdM B w go co gs m o s) {k : Nat} (hk : k < m) (x : Int) : FdM B (w.setCell ⟨go, k, none⟩ (.int .i64 x)) go co gs m (upd o k x) s :=
  ⟨Hd.setI h.own hk x, h.seen.setOther (a := ⟨go, k, none⟩) (Ne.symm h.far.2.2.1) _, by have := h.far; simpa using this⟩
set_option maxHeartbeats 4000000 in
set_option maxRecDepth 100000 in
theorem find_any (B go co gs n m cT : Nat) (A : Option Addr) (ls : List (List Int)) (w0 : World) (G : Good n m ls) (T : Tab B w0 A ls) (hm : m ≤ 64) (N : Nat) :
    ∀ (row : Nat) (o : Nat → Int) (s : Nat → Bool) (w : World), cntB s m < N → Below B w0 w → row < n → (∀ j, j < m → -1 ≤ o j) → (∀ j, j < m → ∀ q : Nat, o j = (q : Int) → q < n) →
      FdM B w go co gs m o s →
      Calls Try.prog 62 #[.slice A n cT, .int .i64 (row : Int), .slice (some ⟨go, 0, none⟩) m co, .slice (some ⟨gs, 0, none⟩) m m] w fun e w' =>
        ∃ b o' s', e = .returned (.tuple #[.slice (some ⟨go, 0, none⟩) m co, .slice (some ⟨gs, 0, none⟩) m m, .bool b]) ∧ Room m (mayC (cst ls)) row 0 o s b o' s' ∧ FdM B w' go co gs m o' s' ∧ Below B w w' := by
  induction N with
  | zero => intro row o s w h; omega
  | succ N ih =>
    intro row o s w hN hw hrk hdom hown hP
    have HP0 := Lib.hid hP
    have HG := Lib.hid G
    have HT := Lib.hid T
    have HIH := Lib.hid ih
    have HDOM := Lib.hid hdom
    have HOWN := Lib.hid hown
    have hrn : (row : Int) < (n : Int) := by omega
    clear hP ih hdom hown G T
    go_enter Try.func62, Try.ntmps62
    go_wp2_with (fail)
    go_loopw [2, 3, 11, 12] (fun a b t _ wr => ∃ (k : Nat) (s1 : Nat → Bool), k ≤ m ∧ a = .slice (some ⟨go, 0, none⟩) m co ∧ b = .slice (some ⟨gs, 0, none⟩) m m ∧ t = .int .i64 (k : Int) ∧ Hid (∀ b o' s', Room m (mayC (cst ls)) row k o s1 b o' s' → Room m (mayC (cst ls)) row 0 o s b o' s') ∧ cntB s1 m < N + 1 ∧ FdM B wr go co gs m o s1 ∧ Below B w wr) (fun _ _ t _ _ => m - (intOf t).toNat)
    case atStart => exact ⟨0, s, Nat.zero_le _, rfl, rfl, rfl, Lib.hid (fun _ _ _ h => h), hN, HP0.out, Below.refl _ _⟩
    case round =>
      clear HP0 hN
      obtain ⟨k, s1, hk, rfl, rfl, rfl, HR, hN, hP, hl⟩ := hrel
      by_cases hlt : k < m
      · have hT := HT.out.keep (hw.trans hl)
        obtain ⟨g, off, Ai, ci, rfl, hg, hrow, hcell⟩ := HG.out.at_ hT hrk
        obtain ⟨g2, off2, rfl, hg2, hcl⟩ := hcell (by omega)
        have hcc := hcl k hlt
        have hlt2 : (k : Int) < (m : Int) := by omega
        have hrg := (HG.out.rng row k hrk hlt).1
        have hme : mayC (cst ls) row k = (cst ls row k != -1) := rfl
        have cs := hP.seen.bool hlt
        clear hT hcl hcell
        have HME := Lib.hid hme
        clear hme
        generalize hx : cst ls row k = x at *
        have HXX := Lib.hid hx
        clear hx
        by_cases hx0 : x < 0
        · have hd : decide (x < 0) = true := by simpa using hx0
          have hmy : mayC (cst ls) row k = false := by rw [HME.out]; simp; omega
          have HR2 : Hid (∀ b o' s', Room m (mayC (cst ls)) row (k + 1) o s1 b o' s' → Room m (mayC (cst ls)) row 0 o s b o' s') := Lib.hid (fun b o' s' h => HR.out b o' s' (Room.skip hlt (by rw [hmy]; simp) h))
          clear hmy hrg hx0
          go_wp2_with (fail)
          go_roundw
          case rel => exact ⟨k + 1, s1, by omega, rfl, rfl, by go_num, HR2, hN, hP, hl⟩
          case measure => simp [intOf]; omega
        · have hd : decide (x < 0) = false := by simpa using hx0
          have hmy : mayC (cst ls) row k = true := by rw [HME.out]; simp; omega
          have HMY := Lib.hid hmy
          clear hmy hrg hx0
          cases hs : s1 k with
          | true =>
            have HR2 : Hid (∀ b o' s', Room m (mayC (cst ls)) row (k + 1) o s1 b o' s' → Room m (mayC (cst ls)) row 0 o s b o' s') := Lib.hid (fun b o' s' h => HR.out b o' s' (Room.skip hlt (by rw [hs]; rfl) h))
            rw [hs] at cs
            clear hs
            go_wp2_with (fail)
            go_roundw
            case rel => exact ⟨k + 1, s1, by omega, rfl, rfl, by go_num, HR2, hN, hP, hl⟩
            case measure => simp [intOf]; omega
          | false =>
            rw [hs] at cs
            have hcnt := cntB_upd hs hlt
            have HCNT := Lib.hid hcnt
            have HS := Lib.hid hs
            have fs := hP.seen.frozen k
            have hfar := hP.far
            have HP2 := Lib.hid (hP.setS k true)
            have HL3 := Lib.hid (below_set hl (g := gs) (i := k) (by omega) (.bool true))
            clear hs hcnt hP hl
            by_cases ho : o k = -1
            · have hend := HR.out _ _ _ (Room.free (may := mayC (cst ls)) hlt HS.out HMY.out ho)
              have HE := Lib.hid hend
              have a5 := Hd.int HP2.out.own hlt
              have a6 := HP2.out.own.frozen k
              rw [ho] at a5
              have HP3 := Lib.hid (HP2.out.setO hlt (row : Int))
              have HL4 := Lib.hid (below_set HL3.out (g := go) (i := k) (by omega) (.int .i64 (row : Int)))
              clear hend ho HME
              go_wp2_with (fail)
              go_ret3
              exact ⟨_, _, _, rfl, HE.out, HP3.out, HL4.out⟩
            · obtain ⟨q, hq⟩ : ∃ q : Nat, o k = (q : Int) := ⟨(o k).toNat, by have := HDOM.out k hlt; omega⟩
              have hne : decide ((q : Int) < 0) = false := by simp
              have HQ := Lib.hid hq
              have hic := HIH.out q o (upd s1 k true) _ (by have := HCNT.out; omega) (hw.trans HL3.out) (HOWN.out k hlt q hq) HDOM.out HOWN.out HP2.out
              have HIC := Lib.hid hic
              have a5 := Hd.int HP2.out.own hlt
              rw [hq] at a5
              clear ho hq hic HME
              go_wp2_with (go_at_call 62; refine (HIC.out).mono ?_; rintro e w2 ⟨b, o', s', rfl, hroom, hP4, hl4⟩
                           have HRM := Lib.hid hroom
                           have HP4 := Lib.hid hP4
                           have b5 := Hd.int hP4.own hlt
                           have b6 := hP4.own.frozen k
                           have HL5 := Lib.hid (HL3.out.trans hl4)
                           clear hroom hP4 hl4; refine unhideF ?_)
              refine Lib.hid ?_
              cases b with
              | true =>
                have hend := HR.out _ _ _ (Room.move hlt HS.out HMY.out HQ.out HRM.out)
                have HP3 := Lib.hid (HP4.out.setO hlt (row : Int))
                have HE := Lib.hid hend
                have HL6 := Lib.hid (below_set HL5.out (g := go) (i := k) (by omega) (.int .i64 (row : Int)))
                clear hend
                go_wp2_with (fail)
                go_ret3
                exact ⟨_, _, _, rfl, HE.out, HP3.out, HL6.out⟩
              | false =>
                have hoo := HRM.out.frame.2 rfl
                subst hoo
                have HR2 : Hid (∀ b o2 s2, Room m (mayC (cst ls)) row (k + 1) o' s' b o2 s2 → Room m (mayC (cst ls)) row 0 o' s b o2 s2) := Lib.hid (fun b o2 s2 h => HR.out b o2 s2 (Room.stay hlt HS.out HMY.out HQ.out HRM.out h))
                have hcnt2 : cntB s' m ≤ cntB (upd s1 k true) m := cntB_mono fun j _ h => (HRM.out.frame.1 j h).1
                have hcnt3 : cntB s' m < N + 1 := by have := HCNT.out; omega
                clear hcnt2
                go_wp2_with (fail)
                go_roundw
                case rel => exact ⟨k + 1, s', by omega, rfl, rfl, by go_num, HR2, hcnt3, HP4.out, HL5.out⟩
                case measure => simp [intOf]; omega
      · obtain rfl : k = m := by omega
        have hend := HR.out _ _ _ (Room.done (Nat.le_refl _))
        have HE := Lib.hid hend
        clear hend
        go_wp2_with (fail)
        go_ret3
        exact ⟨_, _, _, rfl, HE.out, hP, hl⟩
end Go.Proofs.Ytncmfjncdhhjoaa

/- The reference's Most: of any rows, how many can have columns at the same time. -/
namespace Go.Proofs.Ytncmfjncdhhjoaa
open Go.RowKit

/-- The first i of some rows have looked for columns; c of them have one. -/
inductive MstR (m : Nat) (may : Nat → Nat → Bool) (ρ : Nat → Nat) : Nat → (Nat → Int) → Nat → Prop
  | zero : MstR m may ρ 0 (fun _ => -1) 0
  | hit {i c : Nat} {o o' : Nat → Int} {s : Nat → Bool} : MstR m may ρ i o c → Room m may (ρ i) 0 o (fun _ => false) true o' s → MstR m may ρ (i + 1) o' (c + 1)
  | miss {i c : Nat} {o : Nat → Int} {s : Nat → Bool} : MstR m may ρ i o c → Room m may (ρ i) 0 o (fun _ => false) false o s → MstR m may ρ (i + 1) o c
theorem MstR.id {m : Nat} {may : Nat → Nat → Bool} {ρ : Nat → Nat} {i c : Nat} {o : Nat → Int} (h : MstR m may ρ i o c) : (∀ j, j < i → ρ j = j) → Mst m may i o c := by
  induction h with
  | zero => intro _; exact Mst.zero
  | hit h R ih =>
    intro hr
    rw [hr _ (Nat.lt_succ_self _)] at R
    exact Mst.hit (ih fun j hj => hr j (by omega)) R
  | miss h R ih =>
    intro hr
    rw [hr _ (Nat.lt_succ_self _)] at R
    exact Mst.miss (ih fun j hj => hr j (by omega)) R
theorem MstR.dom {m : Nat} {may : Nat → Nat → Bool} {ρ : Nat → Nat} {i c : Nat} {o : Nat → Int} (h : MstR m may ρ i o c) : ∀ j, j < m → -1 ≤ o j := by
  induction h with
  | zero => intro j _; show (-1 : Int) ≤ -1; omega
  | hit h R ih => exact R.dom ih
  | miss h R ih => exact ih
theorem MstR.le {m : Nat} {may : Nat → Nat → Bool} {ρ : Nat → Nat} {i c : Nat} {o : Nat → Int} (h : MstR m may ρ i o c) : c ≤ i := by
  induction h with
  | zero => exact Nat.le_refl _
  | hit h R ih => omega
  | miss h R ih => omega
theorem MstR.own {m : Nat} {may : Nat → Nat → Bool} {ρ : Nat → Nat} {i c : Nat} {o : Nat → Int} (h : MstR m may ρ i o c) : (∀ a b, a < i → b < i → ρ a = ρ b → a = b) → Inj m o ∧ ∀ q, Has m o q → ∃ j, j < i ∧ q = ρ j := by
  induction h with
  | zero =>
    intro _
    refine ⟨fun i j _ _ _ h => ?_, fun q ⟨j, _, e⟩ => ?_⟩
    · (try dsimp only at h); omega
    · (try dsimp only at e); omega
  | hit h R ih =>
    rename_i i c o o' s
    intro hinj
    obtain ⟨h1, h2⟩ := ih (fun a b ha hb => hinj a b (by omega) (by omega))
    have A := R.found h1 (fun hh => by
      obtain ⟨j, hj, e⟩ := h2 _ hh
      have := hinj i j (by omega) (by omega) e
      omega)
    refine ⟨A.inj, fun q hq => ?_⟩
    rcases (A.rows q).1 hq with h3 | rfl
    · obtain ⟨j, hj, e⟩ := h2 q h3
      exact ⟨j, by omega, e⟩
    · exact ⟨i, by omega, rfl⟩
  | miss h R ih =>
    intro hinj
    obtain ⟨h1, h2⟩ := ih (fun a b ha hb => hinj a b (by omega) (by omega))
    refine ⟨h1, fun q hq => ?_⟩
    obtain ⟨j, hj, e⟩ := h2 q hq
    exact ⟨j, by omega, e⟩

theorem fl_oneM (f : Nat → Int) (n : Nat) : ∀ v ∈ fl f n, v.oneCell' = true := by
  intro v hv
  simp only [fl, List.mem_map] at hv
  obtain ⟨x, _, rfl⟩ := hv
  rfl
theorem own_geM {B g n c : Nat} (h : B ≤ g) : ∀ b, (Value.slice (some ⟨g, 0, none⟩) n c).ownBlock = some b → B ≤ b := by
  intro b hb
  simp only [Value.ownBlock, Option.some.injEq] at hb
  omega
theorem own_hdM {B g m cap : Nat} {w : World} {o : Nat → Int} (h : w.ownsRow B 3 1 (.slice (some ⟨g, 0, none⟩) m cap) m (fl o m)) : B ≤ g ∧ Hd 3 w g cap (fl o m) := by
  obtain ⟨g', cap', e, h1, _, h2⟩ := Hd.of_owns h (by intro e; injection e with e; cases e)
  rw [fl_len] at e
  injection e with e1 e2 e3
  injection e1 with e1
  injection e1 with e1
  subst e1 e3
  exact ⟨h1, h2⟩
theorem nrowM {g g' : Nat} {n c : Nat} (h : g ≠ g') : some g ≠ (Value.slice (some ⟨g', 0, none⟩) n c).ownBlock := by
  simp only [Value.ownBlock, ne_eq, Option.some.injEq]
  exact h
theorem seen_new (W : World) (m : Nat) : Blk 4 (W.alloc (.cells (Array.replicate m (.bool false)) 4)) W.heap.size (flB (fun _ => false) m) := by
  rw [flB_const]
  have := Blk.new W 4 (List.replicate m (.bool false))
  simpa using this
theorem own_emptyM (W : World) (B : Nat) (hB : B ≤ W.heap.size) : (W.alloc (.cells #[] 3)).ownsRow B 3 1 (.slice (some ⟨W.heap.size, 0, none⟩) 0 0) 0 [] :=
  ⟨by simp, .inr ⟨W.heap.size, 0, #[], rfl, hB, heap_alloc_new _ _, Nat.le_refl _, by unfold maxLen; omega, by simp, by simp⟩⟩
set_option maxHeartbeats 8000000 in
set_option maxRecDepth 100000 in
theorem refMost_any (A : Option Addr) (cT n m k gr cr : Nat) (ls : List (List Int)) (ρ : Nat → Nat) (w : World) (T : Tab w.heap.size w A ls) (G : Good n m ls) (h1 : 1 ≤ n) (h2 : n ≤ m) (h3 : m ≤ 64)
    (hr : Vals w (some ⟨gr, 0, none⟩) (fl (fun j => (ρ j : Int)) k)) (hρ : ∀ j, j < k → ρ j < n) (hinj : ∀ a b, a < k → b < k → ρ a = ρ b → a = b) (hk : k ≤ 64) :
    Calls Try.prog 36 #[.slice A n cT, .slice (some ⟨gr, 0, none⟩) k cr] w fun e w' => ∃ (o : Nat → Int) (c : Nat), e = .returned (.int .i64 (c : Int)) ∧ MstR m (mayC (cst ls)) ρ k o c ∧ Below w.heap.size w w' := by
  have hmk := fun W => makeI m h3 W
  have hmb := fun W => makeB m h3 W
  obtain ⟨i0, hi0, hz0, hz1, hz2⟩ := info_parts infoI
  obtain ⟨g, off, Ai, ci, rfl, hg, hrow, _⟩ := G.at_ T (i := 0) (by omega)
  rw [Nat.add_zero] at hrow
  have hn0 : ¬ (n : Int) = 0 := by omega
  have hn1 : ((n : Int) == 0) = false := by simp; omega
  have hn2 : (0 : Int) < (n : Int) := by omega
  have hn3 : 0 < n := by omega
  have HT := Lib.hid T
  have HG := Lib.hid G
  have HRW := Lib.hid hr
  have HP := Lib.hid hρ
  have HINJ := Lib.hid hinj
  clear T G hr hρ hinj hg
  go_enter Try.func36, Try.ntmps36
  go_wp2_with (fail)
  have hb0 : Blk 3 (w.alloc (.cells (Array.replicate m (.int .i64 0)) 3)) w.heap.size (fl (fun _ => 0) m) := by
    have e : fl (fun _ => (0 : Int)) m = List.replicate m (.int .i64 0) := by
      apply List.ext_getElem?
      intro i
      by_cases h : i < m
      · rw [fl_at h, List.getElem?_replicate, if_pos h]
      · rw [List.getElem?_eq_none (by rw [fl_len]; omega), List.getElem?_eq_none (by simp; omega)]
    rw [e]
    have := Blk.new w 3 (List.replicate m (.int .i64 0))
    simpa using this
  have hbl0 := below_new w (.cells (Array.replicate m (.int .i64 0)) 3)
  have HB0 := Lib.hid hb0
  have HL0 := Lib.hid hbl0
  clear hb0 hbl0 hrow
  generalize w.alloc (.cells (Array.replicate m (.int .i64 0)) 3) = W1 at *
  obtain ⟨g0, hg0⟩ : ∃ g0, g0 = w.heap.size := ⟨_, rfl⟩
  rw [← hg0] at HB0
  rw [← hg0]
  have HG0 := Lib.hid hg0
  clear hg0
  go_loopw [6] (fun t wr => ∃ (i : Nat) (f : Nat → Int), i ≤ m ∧ t = .int .i64 (i : Int) ∧ Blk 3 wr g0 (fl f m) ∧ Hid (∀ j, j < i → f j = -1) ∧ Below w.heap.size w wr) (fun t _ => m - (intOf t).toNat)
  case atStart => exact ⟨0, _, Nat.zero_le _, rfl, HB0.out, Lib.hid (fun j hj => by omega), HL0.out⟩
  case round =>
    clear HB0 HL0
    obtain ⟨i, f, hi, rfl, hB, HF, hl⟩ := hrel
    by_cases hlt : i < m
    · have hlt2 : (i : Int) < (m : Int) := by omega
      have c0 := hB.int hlt
      have f0 := hB.frozen i
      have HS := Lib.hid (hB.setI i (-1))
      have HL2 := Lib.hid (below_set hl (g := g0) (i := i) (by rw [HG0.out]; exact Nat.le_refl _) (.int .i64 (-1)))
      have HF2 : Hid (∀ j, j < i + 1 → upd f i (-1) j = -1) := Lib.hid (fun j hj => by
        by_cases e : j = i
        · rw [e, upd_at]
        · rw [upd_ne e]; exact HF.out j (by omega))
      clear hB hl
      go_wp2_with (fail)
      go_roundw
      case rel => exact ⟨i + 1, _, by omega, by go_num, HS.out, HF2, HL2.out⟩
      case measure => simp [intOf]; omega
    · obtain rfl : m = i := by omega
      have hB2 : Hd 3 wr g0 m (fl (fun _ => -1) m) := by
        have e : fl f m = fl (fun _ => -1) m := by
          unfold fl
          apply List.map_congr_left
          intro j hj
          rw [HF.out j (List.mem_range.1 hj)]
        rw [e] at hB
        have := Hd.of_blk hB
        rwa [fl_len] at this
      have HB2 := Lib.hid hB2
      have HL2 := Lib.hid hl
      clear hB hB2 hl HF hi hlt hmk
      go_wp2_with (fail)
      go_loopw [5, 7, 8, 9, 10, 11] (fun a q t _ _ _ wr => ∃ (i c go co : Nat) (o : Nat → Int), i ≤ k ∧ c ≤ i ∧ a = .slice (some ⟨go, 0, none⟩) m co ∧ q = .int .i64 (c : Int) ∧ t = .int .i64 (i : Int) ∧ w.heap.size ≤ go ∧ Hd 3 wr go co (fl o m) ∧ Hid (MstR m (mayC (cst ls)) ρ i o c) ∧ Below w.heap.size w wr) (fun _ _ t _ _ _ _ => k - (intOf t).toNat)
      case atStart => exact ⟨0, 0, g0, _, _, Nat.zero_le _, Nat.le_refl _, rfl, rfl, rfl, by rw [HG0.out]; exact Nat.le_refl _, HB2.out, Lib.hid MstR.zero, HL2.out⟩
      case round =>
        clear HB2 HL2
        obtain ⟨i, cc, go, co, o, hi, hci, rfl, rfl, rfl, hgo, hH, HS, hl⟩ := hrel
        by_cases hlt : i < k
        · have hlt2 : (i : Int) < (k : Int) := by omega
          obtain ⟨gr', or', er, hgr', hcr⟩ := (Vals.keep HRW.out hl) (by rw [fl_len]; omega)
          injection er with er
          injection er with er1 er2
          subst er1 er2
          have cr0 := hcr i _ (fl_at hlt)
          rw [Nat.zero_add] at cr0
          have hrl := HP.out i hlt
          have hm1 : 0 < m := by omega
          have hmx1 : 0 + m ≤ maxLen := by unfold maxLen; omega
          have hmb1 : (0 + m) * 8 ≤ 140737488355328 := by omega
          have hV : ∀ X, Below wr.heap.size wr X → Vals X (some ⟨go, 0, none⟩) (fl o m) := fun X h => (hH.keep h).vals
          have HV := Lib.hid hV
          have HFD : Hid (∀ (X : World) (g5 c5 gs : Nat), Below wr.heap.size wr X → FdM wr.heap.size X g5 c5 gs m o (fun _ => false) → Calls Try.prog 62 #[.slice (some ⟨g, off, none⟩) n cT, .int .i64 (ρ i : Int), .slice (some ⟨g5, 0, none⟩) m c5, .slice (some ⟨gs, 0, none⟩) m m] X fun e w' =>
              ∃ b o' s', e = .returned (.tuple #[.slice (some ⟨g5, 0, none⟩) m c5, .slice (some ⟨gs, 0, none⟩) m m, .bool b]) ∧ Room m (mayC (cst ls)) (ρ i) 0 o (fun _ => false) b o' s' ∧ FdM wr.heap.size w' g5 c5 gs m o' s' ∧ Below wr.heap.size X w') := Lib.hid (fun X g5 c5 gs hX hF => find_any wr.heap.size g5 c5 gs n m cT _ ls wr HG.out ((HT.out.keep hl).mono hl.size) h3 (cntB (fun _ => false) m + 1) (ρ i) o _ X (Nat.lt_succ_self _) hX hrl HS.out.dom (fun j hj q e => by
            obtain ⟨a, ha, rfl⟩ := (HS.out.own (fun a b ha hb => HINJ.out a b (by omega) (by omega))).2 q ⟨j, hj, e⟩
            exact HP.out a (by omega)) hF)
          have b1 := below_on (Below.refl wr.heap.size wr).drew (Nat.le_refl _) (below_new wr.drew (.cells #[] 3))
          have b2 := below_on b1 b1.size (below_new (wr.drew.alloc (.cells #[] 3)) (.cells (Array.replicate m (.bool false)) 4))
          have b3 := below_on (Below.refl wr.heap.size wr).drew (Nat.le_refl _) (below_new wr.drew (.cells (Array.replicate m (.bool false)) 4))
          have b4 := below_on b3 b3.size (below_new (wr.drew.alloc (.cells (Array.replicate m (.bool false)) 4)) (.cells #[] 3))
          have z1 : (wr.drew.alloc (.cells (Array.replicate m (.bool false)) 4)).heap.size = wr.heap.size + 1 := by simp
          have z2 : (wr.drew.alloc (.cells #[] 3)).heap.size = wr.heap.size + 1 := by simp
          have o1 := own_emptyM wr.drew wr.heap.size (Nat.le_refl _)
          have o2 := ownsRow_keep o1 (below_new (wr.drew.alloc (.cells #[] 3)) (.cells (Array.replicate m (.bool false)) 4))
          have o4 := own_emptyM (wr.drew.alloc (.cells (Array.replicate m (.bool false)) 4)) wr.heap.size b3.size
          rw [z1] at o4
          have e2 : Blk 4 ((wr.drew.alloc (.cells #[] 3)).alloc (.cells (Array.replicate m (.bool false)) 4)) (wr.heap.size + 1) (flB (fun _ => false) m) := by rw [← z2]; exact seen_new _ m
          have e3 : Blk 4 (wr.drew.alloc (.cells (Array.replicate m (.bool false)) 4)) wr.drew.heap.size (flB (fun _ => false) m) := seen_new _ m
          have e4 := e3.keep (below_new (wr.drew.alloc (.cells (Array.replicate m (.bool false)) 4)) (.cells #[] 3))
          have hw1 : ∀ X, Below wr.heap.size wr X → X.cell? ⟨gr, i, none⟩ = some (.int .i64 (ρ i : Int)) := fun X h => (h.cell (p := ⟨gr, i, none⟩) hgr').trans cr0
          have HW1 := Lib.hid hw1
          have B1 := Lib.hid b1
          have B2 := Lib.hid b2
          have B3 := Lib.hid b3
          have B4 := Lib.hid b4
          have O1 := Lib.hid o1
          have O2 := Lib.hid o2
          have O4 := Lib.hid o4
          have E2 := Lib.hid e2
          have E4 := Lib.hid e4
          have y0 := hw1 _ (Below.refl wr.heap.size wr).drew
          have HH := Lib.hid hH
          have HL := Lib.hid hl
          generalize hri : ρ i = ri at *
          have HRI := Lib.hid hri
          clear b1 b2 b3 b4 o1 o2 o4 e2 e3 e4 z1 z2 hw1 hV hH hl hcr cr0 hri
          go_upto_region 12 with (fail)
          go_cut [9, 10, 11] from 36 to 54 (fun a _ b ww => ∃ (bb : Bool) (o' : Nat → Int) (s' : Nat → Bool) (g5 c5 : Nat), a = .slice (some ⟨g5, 0, none⟩) m c5 ∧ b = .bool bb ∧ wr.heap.size ≤ g5 ∧ Room m (mayC (cst ls)) ri 0 o (fun _ => false) bb o' s' ∧ Hd 3 ww g5 c5 (fl o' m) ∧ Below wr.heap.size wr ww)
          case first =>
            go_region_held_law (fun w' => w'.cell? ⟨gr, i, none⟩ = some (.int .i64 (ri : Int)))
              (first | exact y0 | exact HW1.out _ B1.out | exact HW1.out _ B2.out | exact HW1.out _ B3.out | exact HW1.out _ B4.out | exact HW1.out _ hb8 | exact HW1.out _ hb6 | exact HW1.out _ hb5 | go_keep)
              (first
                | (refine step_append_lies _ rfl (.tmp 41) (.tmp 42) 23 rfl wr.heap.size 3 i0 (.int .i64 0) 1 8 Try.underlying23 hi0 hz0 hz1 hz2 rfl (by decide) (.slice (some ⟨wr.drew.heap.size, 0, none⟩) 0 0) 0 [] rfl O1.out ⟨go, 0, none⟩ m co (fl o m) rfl (by rw [fl_len, Nat.mul_one]) (vals_cells (HV.out _ B1.out)) (fl_oneM o m) hm1 hmx1 hmb1 B1.out.size _ rfl ?_; intro g5 cap5 w5 hown5 hgr5 hat5 hlt5; rw [Nat.zero_add, List.nil_append] at hown5; have hb5 := B1.out.grown hgr5 B1.out.size (own_geM (by simp)); obtain ⟨hg5, hH5⟩ := own_hdM hown5; have hb6 := below_on hb5 hb5.size (below_new w5 (.cells (Array.replicate m (.bool false)) 4)); have f6 : FdM wr.heap.size (w5.alloc (.cells (Array.replicate m (.bool false)) 4)) g5 cap5 w5.heap.size m o (fun _ => false) := ⟨hH5.keep (below_new _ _), seen_new w5 m, hg5, hb5.size, Nat.ne_of_lt hlt5, hb6.size⟩)
                | (refine step_append_lies _ rfl (.tmp 41) (.tmp 42) 23 rfl wr.heap.size 3 i0 (.int .i64 0) 1 8 Try.underlying23 hi0 hz0 hz1 hz2 rfl (by decide) (.slice (some ⟨wr.drew.heap.size, 0, none⟩) 0 0) 0 [] rfl O2.out ⟨go, 0, none⟩ m co (fl o m) rfl (by rw [fl_len, Nat.mul_one]) (vals_cells (HV.out _ B2.out)) (fl_oneM o m) hm1 hmx1 hmb1 B2.out.size _ rfl ?_; intro g5 cap5 w5 hown5 hgr5 hat5 hlt5; rw [Nat.zero_add, List.nil_append] at hown5; have hb5 := B2.out.grown hgr5 B2.out.size (own_geM (by simp)); obtain ⟨hg5, hH5⟩ := own_hdM hown5; have hb6 := hb5; have f6 : FdM wr.heap.size w5 g5 cap5 (wr.heap.size + 1) m o (fun _ => false) := ⟨hH5, E2.out.grown hgr5 (nrowM (by simp)), hg5, by omega, (by rcases hat5 with h | h <;> simp [Value.ownBlock] at h <;> omega), hb6.size⟩)
                | (refine step_append_lies _ rfl (.tmp 41) (.tmp 42) 23 rfl wr.heap.size 3 i0 (.int .i64 0) 1 8 Try.underlying23 hi0 hz0 hz1 hz2 rfl (by decide) (.slice (some ⟨(wr.heap.size + 1), 0, none⟩) 0 0) 0 [] rfl O4.out ⟨go, 0, none⟩ m co (fl o m) rfl (by rw [fl_len, Nat.mul_one]) (vals_cells (HV.out _ B4.out)) (fl_oneM o m) hm1 hmx1 hmb1 B4.out.size _ rfl ?_; intro g5 cap5 w5 hown5 hgr5 hat5 hlt5; rw [Nat.zero_add, List.nil_append] at hown5; have hb5 := B4.out.grown hgr5 B4.out.size (own_geM (by simp)); obtain ⟨hg5, hH5⟩ := own_hdM hown5; have hb6 := hb5; have f6 : FdM wr.heap.size w5 g5 cap5 wr.drew.heap.size m o (fun _ => false) := ⟨hH5, E4.out.grown hgr5 (nrowM (by simp)), hg5, Nat.le_refl _, (by rcases hat5 with h | h <;> simp [Value.ownBlock] at h <;> simp <;> omega), hb6.size⟩)
                | (go_at_call 62; refine (HFD.out _ g5 cap5 _ hb6 f6).mono ?_; rintro e w8 ⟨bb, o', s', rfl, hroom, hF8, hbx⟩; have hb8 := hb6.trans hbx))
            all_goals
              go_wp2_with (fail)
              go_meet
              case rel => exact ⟨bb, o', s', g5, cap5, rfl, rfl, hg5, hroom, hF8.own, hb8⟩
          case rest =>
            obtain ⟨bb, o', s', g5, c5, rfl, rfl, hg5, hroom, hH2, hb2⟩ := hcut
            clear B1 B2 B3 B4 O1 O2 O4 E2 E4 HV HFD HW1
            have HRM := Lib.hid hroom
            have HB2 := Lib.hid hb2
            have HH2 := Lib.hid hH2
            clear hroom hb2 hH2 y0
            cases bb with
            | true =>
              have HS2 := Lib.hid (MstR.hit HS.out (HRI.out ▸ HRM.out))
              go_wp2_with (fail)

              go_roundw

              case rel => exact ⟨i + 1, cc + 1, g5, c5, o', by omega, by omega, rfl, by go_num, by go_num, Nat.le_trans HL.out.size hg5, HH2.out, HS2, HL.out.trans (HB2.out.mono HL.out.size)⟩
              case measure => simp [intOf]; omega
            | false =>
              have hoo := HRM.out.frame.2 rfl
              subst hoo
              have HS2 := Lib.hid (MstR.miss HS.out (HRI.out ▸ HRM.out))
              go_wp2_with (fail)
              go_roundw
              case rel => exact ⟨i + 1, cc, go, co, _, by omega, by omega, rfl, rfl, by go_num, hgo, HH.out.keep HB2.out, HS2, HL.out.trans (HB2.out.mono HL.out.size)⟩
              case measure => simp [intOf]; omega
        · obtain rfl : i = k := by omega
          go_wp2_with (fail)
          go_ret
          exact ⟨o, cc, rfl, HS.out, hl⟩
end Go.Proofs.Ytncmfjncdhhjoaa

/- Plain: without any one of its rows, the rows of a Hall set can all have columns at the same time. -/
namespace Go.Proofs.Ytncmfjncdhhjoaa

/-- Who is found by the search: whatever the row holds and passes on. -/
theorem Room.reach {m : Nat} {may : Nat → Nat → Bool} {r k : Nat} {o o' : Nat → Int} {s s' : Nat → Bool} {b : Bool}
    (h : Room m may r k o s b o' s') : b = false → ∀ P : Nat → Prop, P r → (∀ r k q : Nat, P r → k < m → may r k = true → o k = (q : Int) → P q) →
      ∀ j, j < m → s' j = true → s j = true ∨ ∃ q : Nat, o j = (q : Int) ∧ P q := by
  induction h with
  | done hk => intro _ P _ _ j _ h; exact .inl h
  | skip hk hs hh ih => exact ih
  | free hk h1 h2 h3 => intro e; cases e
  | move hk h1 h2 h3 h4 ih => intro e; cases e
  | stay hk h1 h2 h3 h4 h5 ih1 ih2 =>
    rename_i r k q o o1 o' s s1 s' b
    intro e P hr hc j hj hs
    have ho : o1 = o := h4.frame.2 rfl
    subst ho
    have hq := hc r k q hr hk h2 h3
    rcases ih2 e P hr hc j hj hs with h | h
    · rcases ih1 rfl P hq hc j hj h with h | h
      · by_cases e : j = k
        · subst e; exact .inr ⟨q, h3, hq⟩
        · rw [upd_ne e] at h; exact .inl h
      · exact .inr h
    · exact .inr h

/-- One of a Hall set's rows. -/
def HalR (m i : Nat) (o : Nat → Int) (s : Nat → Bool) (p : Nat) : Prop := p = i ∨ ∃ k, k < m ∧ s k = true ∧ o k = (p : Int)

theorem MstR.all {m : Nat} {may : Nat → Nat → Bool} {ρ : Nat → Nat} {i c : Nat} {o : Nat → Int} (h : MstR m may ρ i o c) : (∀ a b, a < i → b < i → ρ a = ρ b → a = b) →
    c = i ∨ ∃ j, j < i ∧ ∃ (o' : Nat → Int) (s' : Nat → Bool), Inj m o' ∧ (∀ q, Has m o' q → ∃ a, a < j ∧ q = ρ a) ∧ Room m may (ρ j) 0 o' (fun _ => false) false o' s' := by
  induction h with
  | zero => intro _; exact .inl rfl
  | hit h R ih =>
    intro hi
    rcases ih (fun a b ha hb => hi a b (by omega) (by omega)) with rfl | ⟨j, hj, h2⟩
    · exact .inl rfl
    · exact .inr ⟨j, by omega, h2⟩
  | miss h R ih =>
    intro hi
    obtain ⟨h1, h2⟩ := h.own (fun a b ha hb => hi a b (by omega) (by omega))
    exact .inr ⟨_, Nat.lt_succ_self _, _, _, h1, h2, R⟩

theorem hall_least {m i n : Nat} {may : Nat → Nat → Bool} {o : Nat → Int} {s : Nat → Bool} (S : PairSt m may o i) (R : Room m may i 0 o (fun _ => false) false o s)
    {ρ : Nat → Nat} {c : Nat} {o2 : Nat → Int} (hρ : ∀ j, j < n → HalR m i o s (ρ j)) (hinj : ∀ a b, a < n → b < n → ρ a = ρ b → a = b)
    {p : Nat} (hp : HalR m i o s p) (hpn : ∀ j, j < n → ρ j ≠ p) (h : MstR m may ρ n o2 c) : c = n := by
  classical
  rcases h.all hinj with h | ⟨j, hj, o', s', hI, hO, R'⟩
  · exact h
  exfalso
  obtain ⟨v1, v2⟩ := R'.vain rfl
  have hX : Shut m may o' (fun k => s' k = true) := fun k hk hs => v1 k hk rfl hs
  have hnr : ¬ Has m o' (ρ j) := fun hh => by
    obtain ⟨a, ha, e⟩ := hO _ hh
    have := hinj j a hj (by omega) e
    omega
  let Q : Nat → Prop := fun q => q = ρ j ∨ ∃ k, k < m ∧ s' k = true ∧ o' k = ((q : Nat) : Int)
  have hQH : ∀ q, Q q → HalR m i o s q ∧ ∃ a, a < n ∧ q = ρ a := by
    rintro q (rfl | ⟨k, hk, _, e⟩)
    · exact ⟨hρ j hj, j, hj, rfl⟩
    · obtain ⟨a, ha, rfl⟩ := hO q ⟨k, hk, e⟩
      exact ⟨hρ a (by omega), a, by omega, rfl⟩
  have hQs : ∀ q, Q q → ∀ k, k < m → may q k = true → s' k = true := by
    rintro q (rfl | ⟨k, hk, hs, e⟩) k' hk' hm
    · exact v2 k' (Nat.zero_le _) hk' hm
    · obtain ⟨q', e', hc⟩ := v1 k hk rfl hs
      rw [e] at e'
      have : q = q' := by omega
      subst this
      exact hc k' hk' hm
  -- the own column
  have hown : ∀ q, HalR m i o s q → q ≠ i → ∃ k, k < m ∧ o k = (q : Int) := by
    rintro q (rfl | ⟨k, hk, _, e⟩) hne
    · exact absurd rfl hne
    · exact ⟨k, hk, e⟩
  let κ : Nat → Nat := fun q => if hq : HalR m i o s q ∧ q ≠ i then (hown q hq.1 hq.2).choose else 0
  have hκ : ∀ q, HalR m i o s q → q ≠ i → κ q < m ∧ o (κ q) = (q : Int) ∧ may q (κ q) = true := fun q h1 h2 => by
    have e : κ q = (hown q h1 h2).choose := by simp only [κ, dif_pos (⟨h1, h2⟩ : HalR m i o s q ∧ q ≠ i)]
    obtain ⟨h3, h4⟩ := (hown q h1 h2).choose_spec
    rw [e]
    exact ⟨h3, h4, S.edge _ h3 q h4⟩
  by_cases hi : Q i
  · have hcl : ∀ r k q : Nat, Q r → k < m → may r k = true → o k = (q : Int) → Q q := by
      intro r k q hr hk hm ho
      refine Classical.byContradiction fun hnq => ?_
      have hsk := hQs r hr k hk hm
      let τ : Nat → Nat := fun x => if x = i then k else κ x
      have hτi : τ i = k := by simp [τ]
      have hτn : ∀ x, x ≠ i → τ x = κ x := fun x hx => by simp [τ, hx]
      have hto : ∀ x, Q x → τ x < m ∧ s' (τ x) = true := fun x hx => by
        by_cases e : x = i
        · rw [e, hτi]; exact ⟨hk, hsk⟩
        · rw [hτn x e]
          obtain ⟨k1, _, k3⟩ := hκ x (hQH x hx).1 e
          exact ⟨k1, hQs x hx _ k1 k3⟩
      refine stuck (X := fun k => s' k = true) (may := fun _ k => s' k) (o := o') (r := ρ j) (τ := τ) (fun k' hk' hs' => ?_) hI hnr (hto _ (.inl rfl)) (fun q hh => hto q (.inr hh)) ?_
      · obtain ⟨q', e', _⟩ := v1 k' hk' rfl hs'
        exact ⟨q', e', fun _ _ h => h⟩
      · intro x y hx hy e
        by_cases e1 : x = i <;> by_cases e2 : y = i
        · rw [e1, e2]
        · exfalso
          rw [e1, hτi, hτn y e2] at e
          obtain ⟨_, k2, _⟩ := hκ y (hQH y hy).1 e2
          rw [← e, ho] at k2
          have : q = y := by omega
          subst this
          exact hnq hy
        · exfalso
          rw [e2, hτi, hτn x e1] at e
          obtain ⟨_, k2, _⟩ := hκ x (hQH x hx).1 e1
          rw [e, ho] at k2
          have : q = x := by omega
          subst this
          exact hnq hx
        · rw [hτn x e1, hτn y e2] at e
          obtain ⟨_, k2, _⟩ := hκ x (hQH x hx).1 e1
          obtain ⟨_, k3, _⟩ := hκ y (hQH y hy).1 e2
          rw [e, k3] at k2
          omega
    have hall := R.reach rfl Q hi hcl
    have hpq : Q p := by
      rcases hp with rfl | ⟨k, hk, hs, e⟩
      · exact hi
      · rcases hall k hk hs with h | ⟨q, e', hq⟩
        · cases h
        · rw [e] at e'
          have : p = q := by omega
          subst this
          exact hq
    obtain ⟨a, ha, e⟩ := (hQH p hpq).2
    exact hpn a ha e.symm
  · have hne : ∀ q, Q q → q ≠ i := fun q hq e => hi (e ▸ hq)
    refine stuck (X := fun k => s' k = true) (may := may) (o := o') (r := ρ j) (τ := κ) hX hI hnr ?_ (fun q hh => ?_) ?_
    · obtain ⟨k1, _, k3⟩ := hκ (ρ j) (hρ j hj) (hne _ (.inl rfl))
      exact ⟨k1, v2 _ (Nat.zero_le _) k1 k3⟩
    · obtain ⟨k1, _, k3⟩ := hκ q (hQH q (.inr hh)).1 (hne _ (.inr hh))
      exact ⟨k1, k3⟩
    · intro x y hx hy e
      obtain ⟨_, k2, _⟩ := hκ x (hQH x hx).1 (hne _ hx)
      obtain ⟨_, k3, _⟩ := hκ y (hQH y hy).1 (hne _ hy)
      rw [e, k3] at k2
      omega

/-- The columns that some row of a Hall set may have are the ones that the search came to. -/
theorem hall_near {m i k : Nat} {may : Nat → Nat → Bool} {o : Nat → Int} {s : Nat → Bool} (S : PairSt m may o i) (R : Room m may i 0 o (fun _ => false) false o s) (hk : k < m) :
    s k = true ↔ ∃ q, HalR m i o s q ∧ may q k = true := by
  obtain ⟨v1, v2⟩ := R.vain rfl
  constructor
  · intro h
    obtain ⟨q, e, _⟩ := v1 k hk rfl h
    exact ⟨q, .inr ⟨k, hk, h, e⟩, S.edge k hk q e⟩
  · rintro ⟨q, rfl | ⟨k', hk', hs', e⟩, hm⟩
    · exact v2 k (Nat.zero_le _) hk hm
    · obtain ⟨q', e', hc⟩ := v1 k' hk' rfl hs'
      rw [e] at e'
      have : q = q' := by omega
      subst this
      exact hc k hk hm
end Go.Proofs.Ytncmfjncdhhjoaa

/- The reference's Near: how many columns at least one of some rows may have. -/
namespace Go.Proofs.Ytncmfjncdhhjoaa
open Go.RowKit

/-- Whether one of the first j rows may have a column. -/
def metF (ls : List (List Int)) (ρ : Nat → Nat) (c j : Nat) : Bool := (List.range j).any (fun a => mayC (cst ls) (ρ a) c)
theorem metF_succ (ls : List (List Int)) (ρ : Nat → Nat) (c j : Nat) : metF ls ρ c (j + 1) = (metF ls ρ c j || mayC (cst ls) (ρ j) c) := by
  unfold metF
  rw [List.range_succ, List.any_append]
  simp
def nearN (ls : List (List Int)) (ρ : Nat → Nat) (k c : Nat) : Nat := ((List.range c).filter (fun c => metF ls ρ c k)).length
theorem nearN_t {ls : List (List Int)} {ρ : Nat → Nat} {k c : Nat} (h : metF ls ρ c k = true) : nearN ls ρ k (c + 1) = nearN ls ρ k c + 1 := by
  unfold nearN; rw [List.range_succ, List.filter_append]; simp [h]
theorem nearN_f {ls : List (List Int)} {ρ : Nat → Nat} {k c : Nat} (h : metF ls ρ c k = false) : nearN ls ρ k (c + 1) = nearN ls ρ k c := by
  unfold nearN; rw [List.range_succ, List.filter_append]; simp [h]
theorem nearN_le {ls : List (List Int)} {ρ : Nat → Nat} {k c : Nat} : nearN ls ρ k c ≤ c := by
  unfold nearN
  have := List.length_filter_le (fun c => metF ls ρ c k) (List.range c)
  rwa [List.length_range] at this
set_option maxHeartbeats 8000000 in
set_option maxRecDepth 100000 in
theorem near_rows (A : Option Addr) (cT n m k gr cr : Nat) (ls : List (List Int)) (ρ : Nat → Nat) (w : World) (T : Tab w.heap.size w A ls) (G : Good n m ls) (h1 : 1 ≤ n) (h3 : m ≤ 64)
    (hr : Vals w (some ⟨gr, 0, none⟩) (fl (fun j => (ρ j : Int)) k)) (hρ : ∀ j, j < k → ρ j < n) (hk : k ≤ 64) :
    Calls Try.prog 39 #[.slice A n cT, .slice (some ⟨gr, 0, none⟩) k cr] w fun e w' => e = .returned (.int .i64 ((nearN ls ρ k m : Nat) : Int)) ∧ Below w.heap.size w w' := by
  obtain ⟨g, off, Ai, ci, rfl, hg, hrow, _⟩ := G.at_ T (i := 0) (by omega)
  rw [Nat.add_zero] at hrow
  have hn2 : (0 : Int) < (n : Int) := by omega
  have hn3 : 0 < n := by omega
  have HT := Lib.hid T
  have HG := Lib.hid G
  have HRW := Lib.hid hr
  have HP := Lib.hid hρ
  have HROW := Lib.hid hrow
  have HGG := Lib.hid hg
  clear T G hr hρ hrow hg
  go_enter Try.func39, Try.ntmps39
  go_wp2_with (fail)
  go_loopw [5, 6, 7, 8] (fun a t _ _ wr => ∃ (c : Nat), c ≤ m ∧ a = .int .i64 ((nearN ls ρ k c : Nat) : Int) ∧ t = .int .i64 (c : Int) ∧ Below w.heap.size w wr) (fun _ t _ _ _ => m - (intOf t).toNat)
  case atStart => exact ⟨0, Nat.zero_le _, rfl, rfl, Below.refl _ _⟩
  case round =>
    obtain ⟨c, hc, rfl, rfl, hl⟩ := hrel
    have q0 : wr.cell? ⟨g, off, none⟩ = some (.slice Ai m ci) := (hl.cell (p := ⟨g, off, none⟩) HGG.out).trans HROW.out
    by_cases hlc : c < m
    · have hlc2 : (c : Int) < (m : Int) := by omega
      have hnl := nearN_le (ls := ls) (ρ := ρ) (k := k) (c := c)
      have HNL := Lib.hid hnl
      clear hnl
      generalize hN : nearN ls ρ k c = N at *
      have HN := Lib.hid hN
      clear hN
      go_wp2_with (fail)
      go_loopw [7, 8] (fun b t wr2 => ∃ (j : Nat), j ≤ k ∧ b = .bool (metF ls ρ c j) ∧ t = .int .i64 (j : Int) ∧ Below w.heap.size w wr2) (fun _ t _ => k - (intOf t).toNat)
      case atStart => exact ⟨0, Nat.zero_le _, rfl, rfl, hl⟩
      case round =>
        obtain ⟨j, hj, rfl, rfl, hl2⟩ := hrel
        by_cases hlj : j < k
        · have hlj2 : (j : Int) < (k : Int) := by omega
          cases hmt : metF ls ρ c j with
          | true =>
            have hm2 : metF ls ρ c (j + 1) = true := by rw [metF_succ, hmt]; rfl
            clear hmt
            go_wp2_with (fail)
            go_roundw
            case rel => exact ⟨j + 1, by omega, by rw [hm2], by go_num, hl2⟩
            case measure => simp [intOf]; omega
          | false =>
            have hm2 : metF ls ρ c (j + 1) = mayC (cst ls) (ρ j) c := by rw [metF_succ, hmt]; rfl
            obtain ⟨gr', or', er, hgr', hcr⟩ := (Vals.keep HRW.out hl2) (by rw [fl_len]; omega)
            injection er with er
            injection er with er1 er2
            subst er1 er2
            have cr0 := hcr j _ (fl_at hlj)
            rw [Nat.zero_add] at cr0
            have hrk := HP.out j hlj
            obtain ⟨g', off', Ai', ci', e', hg', hrow', hcell'⟩ := HG.out.at_ (HT.out.keep hl2) hrk
            injection e' with e'
            injection e' with e1 e2
            subst e1 e2
            obtain ⟨g2, off2, rfl, hg2, hcl⟩ := hcell' (by omega)
            have hcc := hcl c hlc
            have hrg := (HG.out.rng (ρ j) c hrk hlc).1
            have hme : mayC (cst ls) (ρ j) c = (cst ls (ρ j) c != -1) := rfl
            have hrk2 : ((ρ j : Nat) : Int) < (n : Int) := by omega
            rw [hme] at hm2
            clear hmt hcl hcell' hme hcr
            generalize hx : cst ls (ρ j) c = x at *
            generalize hri : ρ j = ri at *
            have HRI := Lib.hid hri
            have HXX := Lib.hid hx
            have HM2 := Lib.hid hm2
            clear hx hri hm2
            by_cases hx0 : 0 ≤ x
            · have hd : decide (0 ≤ x) = true := by simpa using hx0
              have hm3 : metF ls ρ c (j + 1) = true := by rw [HM2.out]; simp; omega
              clear hrg hx0 HM2
              go_wp2_with (fail)
              go_roundw
              case rel => exact ⟨j + 1, by omega, by rw [hm3], by go_num, hl2⟩
              case measure => simp [intOf]; omega
            · have hd : decide (0 ≤ x) = false := by simpa using hx0
              have hm3 : metF ls ρ c (j + 1) = false := by rw [HM2.out]; simp; omega
              clear hrg hx0 HM2
              go_wp2_with (fail)
              go_roundw
              case rel => exact ⟨j + 1, by omega, by rw [hm3], by go_num, hl2⟩
              case measure => simp [intOf]; omega
        · obtain rfl : k = j := by omega
          cases hmt : metF ls ρ c k with
          | true =>
            have HE := Lib.hid (nearN_t (ls := ls) (ρ := ρ) (k := k) (c := c) hmt)
            clear hmt
            have hNb := HNL.out
            go_wp2_with (fail)
            go_roundw
            case rel => exact ⟨c + 1, by omega, by rw [HE.out, HN.out]; go_num, by go_num, hl2⟩
            case measure => simp [intOf]; omega
          | false =>
            have HE := Lib.hid (nearN_f (ls := ls) (ρ := ρ) (k := k) (c := c) hmt)
            clear hmt
            go_wp2_with (fail)
            go_roundw
            case rel => exact ⟨c + 1, by omega, by rw [HE.out, HN.out], by go_num, hl2⟩
            case measure => simp [intOf]; omega
    · obtain rfl : m = c := by omega
      go_wp2_with (fail)
      go_ret
      exact ⟨rfl, hl⟩
end Go.Proofs.Ytncmfjncdhhjoaa

/- Plain: Koenig: how many rows can have columns is the least number of rows and columns that contain all. -/
namespace Go.Proofs.Ytncmfjncdhhjoaa

def cntP (p : Nat → Prop) [DecidablePred p] (n : Nat) : Nat := ((List.range n).filter (fun k => decide (p k))).length
theorem cntP_le {p q : Nat → Prop} [DecidablePred p] [DecidablePred q] {n m : Nat} {f : Nat → Nat} (hf : ∀ k, k < n → p k → f k < m ∧ q (f k)) (hi : ∀ a b, a < n → b < n → p a → p b → f a = f b → a = b) : cntP p n ≤ cntP q m := by
  unfold cntP
  have h := nodup_le (l1 := ((List.range n).filter (fun k => decide (p k))).map f) (l2 := (List.range m).filter (fun k => decide (q k)))
    (nodup_map (List.Pairwise.filter _ List.nodup_range) fun a b ha hb e => by
      simp only [List.mem_filter, List.mem_range, decide_eq_true_eq] at ha hb
      exact hi a b ha.1 hb.1 ha.2 hb.2 e)
    (by
      intro x hx
      obtain ⟨k, hk, rfl⟩ := List.mem_map.1 hx
      simp only [List.mem_filter, List.mem_range, decide_eq_true_eq] at hk ⊢
      exact hf k hk.1 hk.2)
  rwa [List.length_map] at h
theorem cntP_split (p q : Nat → Prop) [DecidablePred p] [DecidablePred q] (n : Nat) : cntP p n = cntP (fun k => p k ∧ q k) n + cntP (fun k => p k ∧ ¬ q k) n := by
  unfold cntP
  induction n with
  | zero => rfl
  | succ n ih =>
    simp only [List.range_succ, List.filter_append, List.length_append]
    rw [ih]
    by_cases hp : p n <;> by_cases hq : q n <;> simp [hp, hq] <;> omega
theorem cntP_succ (p : Nat → Prop) [DecidablePred p] (n : Nat) : cntP p (n + 1) = cntP p n + (if p n then 1 else 0) := by
  unfold cntP
  rw [List.range_succ, List.filter_append, List.length_append]
  by_cases h : p n <;> simp [h]
theorem cntP_congr {p q : Nat → Prop} [DecidablePred p] [DecidablePred q] {n : Nat} (h : ∀ k, k < n → (p k ↔ q k)) : cntP p n = cntP q n := by
  unfold cntP
  refine congrArg List.length (List.filter_congr fun k hk => ?_)
  exact decide_eq_decide.2 (h k (List.mem_range.1 hk))

open Classical in
/-- What the search leaves: a matching, and columns that show that it is a greatest one. -/
structure Kon (m : Nat) (may : Nat → Nat → Bool) (i : Nat) (o : Nat → Int) (c : Nat) (X : Nat → Prop) : Prop where
  inj : Inj m o
  own : ∀ q, Has m o q → q < i
  edge : ∀ j, j < m → ∀ q : Nat, o j = (q : Int) → may q j = true
  cnt : c = cntP (fun q => Has m o q) i
  shut : Shut m may o X
  bare : ∀ q, q < i → ¬ Has m o q → ∀ k, k < m → may q k = true → X k

open Classical in
theorem Mst.kon {m : Nat} {may : Nat → Nat → Bool} {i c : Nat} {o : Nat → Int} (h : Mst m may i o c) : ∃ X, Kon m may i o c X := by
  induction h with
  | zero =>
    refine ⟨fun _ => False, ⟨fun i j _ _ _ h => ?_, fun q ⟨j, _, e⟩ => ?_, fun j _ q e => ?_, rfl, fun j _ h => h.elim, fun q h => by omega⟩⟩
    all_goals first | (exfalso; (try dsimp only at h); omega) | (exfalso; (try dsimp only at e); omega)
  | hit h R ih =>
    rename_i i c o o' s
    obtain ⟨X, K⟩ := ih
    have hr : ¬ Has m o i := fun hh => by have := K.own i hh; omega
    have A := R.found K.inj hr
    obtain ⟨e1, _⟩ := R.shut K.shut
    refine ⟨X, ⟨A.inj, fun q hq => ?_, fun j hj q e => ?_, ?_, fun j hj hX => ?_, fun q hq hn k hk hm => ?_⟩⟩
    · rcases (A.rows q).1 hq with h3 | rfl
      · have := K.own q h3; omega
      · omega
    · rcases A.edge j hj q e with h1 | h1
      · exact K.edge j hj q h1
      · exact h1
    · rw [cntP_succ, if_pos ((A.rows i).2 (.inr rfl)), K.cnt]
      congr 1
      refine cntP_congr fun q hq => ⟨fun h => (A.rows q).2 (.inl h), fun h => ?_⟩
      rcases (A.rows q).1 h with h | rfl
      · exact h
      · omega
    · obtain ⟨q, e, hc⟩ := K.shut j hj hX
      exact ⟨q, by rw [e1 j hX]; exact e, hc⟩
    · have hqi : q ≠ i := fun e => hn ((A.rows q).2 (.inr e))
      exact K.bare q (by omega) (fun h => hn ((A.rows q).2 (.inl h))) k hk hm
  | miss h R ih =>
    rename_i i c o s
    obtain ⟨X, K⟩ := ih
    obtain ⟨v1, v2⟩ := R.vain rfl
    have hr : ¬ Has m o i := fun hh => by have := K.own i hh; omega
    refine ⟨fun k => X k ∨ s k = true, ⟨K.inj, fun q hq => by have := K.own q hq; omega, K.edge, ?_, fun j hj hX => ?_, fun q hq hn k hk hm => ?_⟩⟩
    · rw [cntP_succ, if_neg hr, K.cnt]
      rfl
    · rcases hX with hX | hX
      · obtain ⟨q, e, hc⟩ := K.shut j hj hX
        exact ⟨q, e, fun k hk hm => .inl (hc k hk hm)⟩
      · obtain ⟨q, e, hc⟩ := v1 j hj rfl hX
        exact ⟨q, e, fun k hk hm => .inr (hc k hk hm)⟩
    · by_cases e : q = i
      · subst e
        exact .inr (v2 k (Nat.zero_le _) hk hm)
      · exact .inl (K.bare q (by omega) hn k hk hm)

open Classical in
/-- Rows and columns that contain all are at least as many. -/
theorem Kon.least {m n c : Nat} {may : Nat → Nat → Bool} {o : Nat → Int} {X : Nat → Prop} (K : Kon m may n o c X) (S : Nat → Prop) :
    c ≤ cntP S n + cntP (fun k => ∃ q, q < n ∧ ¬ S q ∧ may q k = true) m := by
  rw [K.cnt, cntP_split _ S]
  have h1 : cntP (fun q => Has m o q ∧ S q) n ≤ cntP S n := cntP_le (f := fun q => q) (fun k hk h => ⟨hk, h.2⟩) (fun a b _ _ _ _ e => e)
  let κ : Nat → Nat := fun q => if h : Has m o q then h.choose else 0
  have hκ : ∀ q, Has m o q → κ q < m ∧ o (κ q) = (q : Int) := fun q h => by
    simp only [κ, dif_pos h]
    exact h.choose_spec
  have h2 : cntP (fun q => Has m o q ∧ ¬ S q) n ≤ cntP (fun k => ∃ q, q < n ∧ ¬ S q ∧ may q k = true) m := cntP_le (f := κ) (fun q hq h => by
      obtain ⟨k1, k2⟩ := hκ q h.1
      exact ⟨k1, q, hq, h.2, K.edge _ k1 q k2⟩) (fun a b _ _ ha hb e => by
      have h1 := (hκ a ha.1).2
      have h2 := (hκ b hb.1).2
      rw [e, h2] at h1
      omega)
  omega

open Classical in
/-- Some rows and columns that contain all are no more. -/
theorem Kon.cover {m n c : Nat} {may : Nat → Nat → Bool} {o : Nat → Int} {X : Nat → Prop} (K : Kon m may n o c X) :
    ∃ S : Nat → Prop, cntP S n + cntP (fun k => ∃ q, q < n ∧ ¬ S q ∧ may q k = true) m ≤ c := by
  obtain ⟨S, hS⟩ : ∃ S : Nat → Prop, ∀ q, S q ↔ (Has m o q ∧ ¬ ∃ k, k < m ∧ X k ∧ o k = (q : Int)) := ⟨_, fun _ => Iff.rfl⟩
  refine ⟨S, ?_⟩
  have e1 : cntP S n = cntP (fun q => Has m o q ∧ ¬ ∃ k, k < m ∧ X k ∧ o k = (q : Int)) n := cntP_congr fun q _ => hS q
  rw [K.cnt, cntP_split (fun q => Has m o q) (fun q => ∃ k, k < m ∧ X k ∧ o k = (q : Int)), e1, Nat.add_comm]
  refine Nat.add_le_add ?_ (Nat.le_of_eq (cntP_congr fun _ _ => Iff.rfl))
  have hX : ∀ k, k < m → (∃ q, q < n ∧ ¬ S q ∧ may q k = true) → X k := by
    rintro k hk ⟨q, hq, hn, hm⟩
    rw [hS] at hn
    by_cases h : Has m o q
    · have : ∃ k, k < m ∧ X k ∧ o k = (q : Int) := Classical.byContradiction fun h2 => hn ⟨h, h2⟩
      obtain ⟨j, hj, hXj, e⟩ := this
      obtain ⟨q', e', hc⟩ := K.shut j hj hXj
      rw [e] at e'
      have : q = q' := by omega
      subst this
      exact hc k hk hm
    · exact K.bare q hq h k hk hm
  refine cntP_le (f := fun k => (o k).toNat) (fun k hk h => ?_) (fun a b ha hb h1 h2 e => ?_)
  · have hx := hX k hk h
    obtain ⟨q, e, _⟩ := K.shut k hk hx
    have e2 : (o k).toNat = q := by rw [e]; simp
    rw [e2]
    exact ⟨K.own q ⟨k, hk, e⟩, ⟨k, hk, e⟩, k, hk, hx, e⟩
  · obtain ⟨p, e1, _⟩ := K.shut a ha (hX a ha h1)
    obtain ⟨q, e2, _⟩ := K.shut b hb (hX b hb h2)
    exact K.inj a b ha hb (by omega) (by omega)
end Go.Proofs.Ytncmfjncdhhjoaa

/- Plain: all sets of rows are tried; the least of rows and columns. -/
namespace Go.Proofs.Ytncmfjncdhhjoaa

def setB (s i : Nat) : Bool := s.testBit i
def rowsN (s n : Nat) : Nat := ((List.range n).filter (fun i => setB s i)).length
def othL (s n : Nat) : List Nat := (List.range n).filter (fun i => !setB s i)
theorem rowsN_t {s n : Nat} (h : setB s n = true) : rowsN s (n + 1) = rowsN s n + 1 := by
  unfold rowsN; rw [List.range_succ, List.filter_append]; simp [h]
theorem rowsN_f {s n : Nat} (h : setB s n = false) : rowsN s (n + 1) = rowsN s n := by
  unfold rowsN; rw [List.range_succ, List.filter_append]; simp [h]
theorem othL_t {s n : Nat} (h : setB s n = true) : othL s (n + 1) = othL s n := by
  unfold othL; rw [List.range_succ, List.filter_append]; simp [h]
theorem othL_f {s n : Nat} (h : setB s n = false) : othL s (n + 1) = othL s n ++ [n] := by
  unfold othL; rw [List.range_succ, List.filter_append]; simp [h]
theorem rowsN_le {s n : Nat} : rowsN s n ≤ n := by
  unfold rowsN
  have := List.length_filter_le (fun i => setB s i) (List.range n)
  rwa [List.length_range] at this
theorem othL_le {s n : Nat} : (othL s n).length ≤ n := by
  unfold othL
  have := List.length_filter_le (fun i => !setB s i) (List.range n)
  rwa [List.length_range] at this
theorem othL_mem {s n q : Nat} : q ∈ othL s n ↔ q < n ∧ setB s q = false := by
  unfold othL; simp
def othF (s n j : Nat) : Nat := (othL s n).getD j 0
theorem othF_lt {s n : Nat} : ∀ j, j < (othL s n).length → othF s n j < n := fun j hj => by
  have h : othF s n j ∈ othL s n := by
    unfold othF
    rw [List.getD_eq_getElem?_getD, List.getElem?_eq_getElem hj]
    exact List.getElem_mem hj
  exact (othL_mem.1 h).1
def covV (ls : List (List Int)) (n m s : Nat) : Nat := rowsN s n + nearN ls (othF s n) (othL s n).length m
def covM (ls : List (List Int)) (n m : Nat) : Nat → Nat
  | 0 => n
  | s + 1 => min (covM ls n m s) (covV ls n m s)
theorem covM_le {ls : List (List Int)} {n m s : Nat} : covM ls n m s ≤ n := by
  induction s with
  | zero => exact Nat.le_refl _
  | succ s ih => exact Nat.le_trans (Nat.min_le_left _ _) ih

theorem bits_of (S : Nat → Prop) [DecidablePred S] : ∀ n, ∃ s, s < 2 ^ n ∧ ∀ q, q < n → (setB s q = true ↔ S q) := by
  intro n
  induction n with
  | zero => exact ⟨0, by simp, fun q h => by omega⟩
  | succ n ih =>
    obtain ⟨s, hs, h⟩ := ih
    by_cases hn : S n
    · refine ⟨2 ^ n + s, by rw [Nat.pow_succ]; omega, fun q hq => ?_⟩
      by_cases e : q = n
      · subst e
        have : setB (2 ^ q + s) q = true := by
          unfold setB
          rw [Nat.testBit_two_pow_add_eq, Nat.testBit_lt_two_pow hs]; rfl
        simp [this, hn]
      · rw [← h q (by omega)]
        unfold setB
        rw [Nat.testBit_two_pow_add_gt (by omega)]
    · refine ⟨s, by rw [Nat.pow_succ]; omega, fun q hq => ?_⟩
      by_cases e : q = n
      · subst e
        have : setB s q = false := by unfold setB; exact Nat.testBit_lt_two_pow hs
        simp [this, hn]
      · exact h q (by omega)

open Classical in
theorem covV_eq (ls : List (List Int)) (n m s : Nat) : covV ls n m s = cntP (fun q => setB s q = true) n + cntP (fun k => ∃ q, q < n ∧ ¬ (setB s q = true) ∧ mayC (cst ls) q k = true) m := by
  unfold covV
  congr 1
  · unfold rowsN cntP
    refine congrArg List.length (List.filter_congr fun k _ => ?_)
    cases h : setB s k <;> simp [h]
  · unfold nearN cntP
    refine congrArg List.length (List.filter_congr fun k _ => ?_)
    refine Bool.eq_iff_iff.2 ?_
    unfold metF
    simp only [List.any_eq_true, List.mem_range, decide_eq_true_eq]
    constructor
    · rintro ⟨a, ha, h⟩
      have hm : othF s n a ∈ othL s n := by
        unfold othF
        rw [List.getD_eq_getElem?_getD, List.getElem?_eq_getElem ha]
        exact List.getElem_mem ha
      obtain ⟨h1, h2⟩ := othL_mem.1 hm
      exact ⟨_, h1, by simp [h2], h⟩
    · rintro ⟨q, hq, hb, h⟩
      have hm : q ∈ othL s n := othL_mem.2 ⟨hq, by simpa using hb⟩
      obtain ⟨a, ha, e⟩ := List.mem_iff_getElem.1 hm
      refine ⟨a, ha, ?_⟩
      have : othF s n a = q := by
        unfold othF
        rw [List.getD_eq_getElem?_getD, List.getElem?_eq_getElem ha]
        exact e
      rw [this]; exact h

theorem covM_min {ls : List (List Int)} {n m : Nat} : ∀ {P s : Nat}, s < P → covM ls n m P ≤ covV ls n m s := by
  intro P
  induction P with
  | zero => intro s h; omega
  | succ P ih =>
    intro s h
    by_cases e : s = P
    · subst e; exact Nat.min_le_right _ _
    · exact Nat.le_trans (Nat.min_le_left _ _) (ih (by omega))

/-- Koenig, as the sets are tried. -/
theorem cover_eq {ls : List (List Int)} {n m c : Nat} {o : Nat → Int} (h : Mst m (mayC (cst ls)) n o c) : covM ls n m (2 ^ n) = c := by
  classical
  obtain ⟨X, K⟩ := h.kon
  have h0 : c ≤ n := by
    rcases h.part with ⟨e, _⟩ | ⟨e, _⟩ <;> omega
  have h1 : ∀ P, c ≤ covM ls n m P := by
    intro P
    induction P with
    | zero => exact h0
    | succ P ih =>
      refine Nat.le_min.2 ⟨ih, ?_⟩
      rw [covV_eq]
      obtain ⟨S, hS⟩ : ∃ S : Nat → Prop, ∀ q, S q ↔ setB P q = true := ⟨_, fun _ => Iff.rfl⟩
      refine Nat.le_trans (K.least S) (Nat.le_of_eq ?_)
      refine congr (congrArg _ (cntP_congr fun q _ => hS q)) (cntP_congr fun k _ => ?_)
      constructor
      · rintro ⟨q, hq, h1, h2⟩; exact ⟨q, hq, fun h => h1 ((hS q).2 h), h2⟩
      · rintro ⟨q, hq, h1, h2⟩; exact ⟨q, hq, fun h => h1 ((hS q).1 h), h2⟩
  refine Nat.le_antisymm ?_ (h1 _)
  obtain ⟨S, hS⟩ := K.cover
  obtain ⟨s, hs, hb⟩ := bits_of S n
  refine Nat.le_trans (covM_min hs) (Nat.le_trans ?_ hS)
  rw [covV_eq]
  refine Nat.le_of_eq (congr (congrArg _ (cntP_congr fun q hq => hb q hq)) (cntP_congr fun k _ => ?_))
  constructor
  · rintro ⟨q, hq, h1, h2⟩; exact ⟨q, hq, fun h => h1 ((hb q hq).2 h), h2⟩
  · rintro ⟨q, hq, h1, h2⟩; exact ⟨q, hq, fun h => h1 ((hb q hq).1 h), h2⟩
end Go.Proofs.Ytncmfjncdhhjoaa

/- The walk of MatchCover. -/
namespace Go.Proofs.Ytncmfjncdhhjoaa
open Go.RowKit

theorem fl_nat (l : List Nat) : fl (fun j => ((l.getD j 0 : Nat) : Int)) l.length = l.map (fun x => Value.int .i64 ((x : Nat) : Int)) := by
  apply List.ext_getElem?
  intro j
  by_cases hj : j < l.length
  · rw [fl_at hj, List.getElem?_map, List.getElem?_eq_getElem hj, List.getD_eq_getElem?_getD, List.getElem?_eq_getElem hj]; rfl
  · rw [List.getElem?_eq_none (by rw [fl_len]; omega), List.getElem?_eq_none (by rw [List.length_map]; omega)]
theorem and_oneM (q : Nat) (h : q < 9223372036854775808) : bits .and .i64 (q : Int) 1 = ((q % 2 : Nat) : Int) := by
  have e : (BitVec.ofInt 64 (q : Int)).toNat = q := by rw [BitVec.ofInt_natCast, BitVec.toNat_ofNat]; exact Nat.mod_eq_of_lt (by omega)
  show IntKind.i64.wrap ((BitVec.ofInt 64 (q : Int) &&& BitVec.ofInt 64 1).toNat : Int) = _
  rw [BitVec.toNat_and, e, show (BitVec.ofInt 64 1).toNat = 1 from rfl, Nat.and_one_is_mod, IntKind.wrap_i64]
  omega
set_option maxHeartbeats 16000000 in
set_option maxRecDepth 100000 in
theorem matchCover_any (A : Option Addr) (c L : Nat) (ls : List (List Int)) (w : World) (T : TabIn w A ls) (hL : L = ls.length) :
    Calls Try.prog 15 #[.slice A L c] w fun e w' => e = .returned (.bool true) ∧ Below w.heap.size w w' := by
  obtain ⟨i0, hi0, hz0, hz1, hz2⟩ := info_parts infoI
  have htb := table_any A c L 8 12 ls w T hL (by omega) (by omega)
  have HTB := Lib.hid htb
  have hsz : (tblL ls 8 12).length ≤ 8 := by unfold tblL; simp; omega
  generalize tblL ls 8 12 = ts at *
  clear htb T hL
  go_enter Try.func15, Try.ntmps15
  go_upto_region 2 with (go_at_call 21; refine (HTB.out).mono ?_; rintro e w1 ⟨v, es, rfl, hH, hv, hN, hE, hl1⟩
                         obtain ⟨g, cap, he, hT⟩ := hH.tab hv hN
                         rw [hE] at hT
                         rw [show es.length = ts.length by rw [← hE, List.length_map]] at he
                         have HTT := Lib.hid hT
                         clear hH hv hN hE hT
                         subst he)
  have hck := refCheck_any w1.heap.size (some ⟨g, 0, none⟩) cap ts.length ts w1 HTT.out rfl
  cases hchk : chkT ts with
  | false =>
    have hce : ckE ts = 1 := by unfold ckE; rw [hchk]; rfl
    rw [hce] at hck
    have HCK := Lib.hid hck
    clear hck hce hchk
    go_wp2_with (first
      | (go_at_call 23; refine (HCK.out).mono ?_; rintro e w3 ⟨rfl, hl3⟩; have q3 := hl1.trans (hl3.mono hl1.size))
      | (go_at_call 26; refine (lives_any _).mono ?_; rintro e w4 ⟨rfl, hl4⟩))
    go_ret
    exact ⟨rfl, q3.trans (hl4.mono q3.size)⟩
  | true =>
    have hce : ckE ts = 0 := by unfold ckE; rw [hchk]; rfl
    rw [hce] at hck
    have HCK := Lib.hid hck
    have HCH := Lib.hid hchk
    clear hck hce hchk
    go_upto_region 4 with (go_at_call 23; refine (HCK.out).mono ?_; rintro e w3 ⟨rfl, hl3⟩; have q3 := hl1.trans (hl3.mono hl1.size); have HT3 := Lib.hid ((HTT.out.keep hl3).mono hl3.size); have HMO := Lib.hid (most_any (some ⟨g, 0, none⟩) cap ts.length ts _ HT3.out rfl))
    go_upto_region 7 with (go_at_call 35; refine (HMO.out).mono ?_; intro e w4 hpm; have hl4 := hpm.1; rcases hpm.2 with ⟨hf, rfl⟩ | ⟨n, m, o, cc, hc, hn, G, h123, hM, rfl⟩ <;> try (have HN9 := Lib.hid hn; clear hn))
    · rw [HCH.out] at hf; cases hf
    · obtain ⟨h1, h2, h3⟩ := h123
      have hn := HN9.out
      subst hn
      have q4 := q3.trans (hl4.mono q3.size)
      have HT4 := Lib.hid ((HT3.out.keep hl4).mono hl4.size)
      have HG := Lib.hid G
      have HM := Lib.hid hM
      clear HN9 hpm G hM HMO HT3 HTT HCK hl1 hl3 hl4 q3 hc
      generalize hnn : ts.length = n at *
      obtain ⟨P, hP⟩ : ∃ P, P = 2 ^ n := ⟨_, rfl⟩
      have hP8 : P ≤ 256 := by rw [hP]; exact Nat.pow_le_pow_right (n := 2) (by omega) (show n ≤ 8 by omega)
      have hwr : wrap64 ((2 : Int) ^ n) = (P : Int) := by
        have e : ((2 : Int) ^ n) = (P : Int) := by rw [hP]; simp
        rw [e]
        unfold wrap64
        omega
      have HPE := Lib.hid hP
      have hn8 : n ≤ 8 := by omega
      clear hP
      go_loopw [6, 7, 8, 9, 10] (fun b t _ _ _ wr => ∃ (s : Nat), s ≤ P ∧ b = .int .i64 ((covM ts n m s : Nat) : Int) ∧ t = .int .i64 (s : Int) ∧ Below w4.heap.size w4 wr) (fun _ t _ _ _ _ => P - (intOf t).toNat)
      case atStart => exact ⟨0, Nat.zero_le _, rfl, rfl, Below.refl _ _⟩
      case round =>
        obtain ⟨s, hs, rfl, rfl, hl⟩ := hrel
        by_cases hlt : s < P
        · have hlt2 : (s : Int) < (P : Int) := by omega
          generalize hcm : covM ts n m s = y at *
          have HCM := Lib.hid hcm
          clear hcm
          go_upto_region 11 with (fail)
          have HWR := Lib.hid hwr
          clear hwr
          have hlA : Below w4.heap.size w4 (wr.alloc (.cells #[] 3)) := bel_alloc hl hl.size
          have o1 := own_emptyM wr w4.heap.size hl.size
          have HO1 := Lib.hid o1
          clear o1
          generalize wr.alloc (.cells #[] 3) = W1 at *
          go_loopw [8, 9, 10] (fun r v t wr2 => ∃ (i gg cp : Nat), i ≤ n ∧ w4.heap.size ≤ gg ∧ r = .int .i64 ((rowsN s i : Nat) : Int) ∧ t = .int .i64 (i : Int) ∧ v = .slice (some ⟨gg, 0, none⟩) (othL s i).length cp ∧ Hid (wr2.ownsRow w4.heap.size 3 1 (.slice (some ⟨gg, 0, none⟩) (othL s i).length cp) (othL s i).length (fl (fun j => (othF s i j : Int)) (othL s i).length)) ∧ Below w4.heap.size w4 wr2) (fun _ _ t _ => n - (intOf t).toNat)
          case atStart => exact ⟨0, _, 0, Nat.zero_le _, hl.size, rfl, rfl, rfl, HO1, hlA⟩
          case round =>
            clear HO1 hlA
            obtain ⟨i, gg, cp, hi, hgg, rfl, rfl, rfl, HOW, hl2⟩ := hrel
            by_cases hli : i < n
            · have hli2 : (i : Int) < (n : Int) := by omega
              have hrl := rowsN_le (s := s) (n := i)
              have hol := othL_le (s := s) (n := i)
              generalize hrr : rowsN s i = r at *
              generalize hqq : (othL s i).length = q at *
              have hbit : bits .and .i64 ((s : Int) / 2 ^ i) 1 = ((s / 2 ^ i % 2 : Nat) : Int) := by
                have h := and_oneM (s / 2 ^ i) (Nat.lt_of_le_of_lt (Nat.div_le_self _ _) (by omega))
                rwa [Int.natCast_ediv, Int.natCast_pow] at h
              have htb : setB s i = decide (s / 2 ^ i % 2 = 1) := Nat.testBit_eq_decide_div_mod_eq
              cases hsb : setB s i with
              | true =>
                have hb1 : (bits .and .i64 ((s : Int) / 2 ^ i) 1 == 1) = true := by
                  rw [htb] at hsb
                  rw [hbit, of_decide_eq_true hsb]; rfl
                have HR2 := Lib.hid (rowsN_t hsb)
                have HQ2 := Lib.hid (othL_t hsb)
                have HRR := Lib.hid hrr
                have HQQ := Lib.hid hqq
                clear htb hsb hrr hqq hbit hol
                go_wp2_with (fail)
                go_roundw
                case rel => exact ⟨i + 1, gg, cp, by omega, hgg, by rw [HR2.out, HRR.out]; go_num, by go_num, by rw [HQ2.out, HQQ.out], by unfold othF; rw [HQ2.out, HQQ.out]; exact HOW, hl2⟩
                case measure => simp [intOf]; omega
              | false =>
                have hb1 : (bits .and .i64 ((s : Int) / 2 ^ i) 1 == 1) = false := by
                  rw [htb] at hsb
                  have := of_decide_eq_false hsb
                  rw [hbit, Nat.mod_two_ne_one.1 this]; rfl
                have HR2 := Lib.hid (rowsN_f hsb)
                have HQ2 := Lib.hid (othL_f hsb)
                have HRR := Lib.hid hrr
                have HQQ := Lib.hid hqq
                have ho2 := ownsRow_keep HOW.out (below_new wr (.cells #[.int .i64 (i : Int)] 3))
                have hl5 : Below w4.heap.size w4 (wr.alloc (.cells #[.int .i64 (i : Int)] 3)) := bel_alloc hl2 hl2.size
                have hv2 : Vals (wr.alloc (.cells #[.int .i64 (i : Int)] 3)) (some ⟨wr.heap.size, 0, none⟩) (is [(i : Int)]) := (Blk.new wr 3 [.int .i64 (i : Int)]).vals0
                have HO2 := Lib.hid ho2
                have HV2 := Lib.hid hv2
                have hsz := hl2.size
                clear ho2 hv2 htb hsb hrr hqq hbit
                go_wp2_with (at_builtin
                             refine wpList_append_own _ rfl _ _ 23 rfl w4.heap.size 3 i0 (.int .i64 0) 1 8 Try.underlying23 hi0 hz0 hz1 hz2 rfl (by decide) _ _ _ rfl HO2.out ⟨wr.heap.size, 0, none⟩ 1 1 (is [(i : Int)]) rfl rfl (vals_cells HV2.out) (is_one _) ?c4 ?c5 ?c6 ?_)
                case c4 => unfold maxLen; omega
                case c5 => omega
                case c6 => simp; omega
                intro v' w6 hown hgr hne
                have hv : v' ≠ .slice none 0 0 := by simpa using hne
                have hl6 : Below w4.heap.size w4 w6 := hl5.grown hgr hl5.size (by simp [Value.ownBlock]; omega)
                have hap : fl (fun j => (othF s i j : Int)) q ++ is [(i : Int)] = fl (fun j => (othF s (i + 1) j : Int)) (q + 1) := by
                  have e1 := fl_nat (othL s i)
                  have e2 := fl_nat (othL s (i + 1))
                  rw [HQQ.out] at e1
                  rw [HQ2.out, List.length_append, HQQ.out] at e2
                  show fl (fun j => (((othL s i).getD j 0 : Nat) : Int)) q ++ is [(i : Int)] = fl (fun j => (((othL s (i + 1)).getD j 0 : Nat) : Int)) (q + 1)
                  rw [HQ2.out, e1]
                  refine Eq.trans ?_ e2.symm
                  rw [List.map_append]
                  rfl
                rw [hap] at hown
                obtain ⟨g', cap', he, hg', hnn, _⟩ := Hd.of_owns hown hv
                rw [fl_len] at he
                subst he
                have HOW2 := Lib.hid hown
                clear hown hgr hne hv hnn HOW HO2 HV2 hap
                go_wp2
                go_roundw
                case rel => exact ⟨i + 1, g', cap', by omega, hg', by rw [HR2.out, HRR.out], by go_num, by rw [HQ2.out, List.length_append, HQQ.out]; rfl, by rw [HQ2.out, List.length_append, HQQ.out]; exact HOW2, hl6⟩
                case measure => simp [intOf]; omega
            · obtain rfl : n = i := by omega
              obtain ⟨g', cap', he, hg', hnn, hH'⟩ := Hd.of_owns HOW.out (by simp)
              rw [fl_len] at he
              injection he with he1 he2 he3
              injection he1 with he1
              injection he1 with he1
              subst he1 he3
              have HT5 := Lib.hid ((HT4.out.keep hl2).mono hl2.size)
              have HV5 := Lib.hid hH'.vals
              have hrl := rowsN_le (s := s) (n := n)
              have hol := othL_le (s := s) (n := n)
              have hnl := nearN_le (ls := ts) (ρ := othF s n) (k := (othL s n).length) (c := m)
              have HCV : Hid (covM ts n m (s + 1) = min y (rowsN s n + nearN ts (othF s n) (othL s n).length m)) := Lib.hid (by rw [← HCM.out]; rfl)
              have HFL := Lib.hid (othF_lt (s := s) (n := n))
              have hq64 : (othL s n).length ≤ 64 := by omega
              clear hH' hnn HOW
              generalize hrr : rowsN s n = r at *
              have HRR := Lib.hid hrr
              clear hrr
              go_wp2_with (go_at_call 39; refine (near_rows (some ⟨g, 0, none⟩) cap n m _ gg cp ts (othF s n) _ HT5.out HG.out h1 h3 HV5.out HFL.out hq64).mono ?_; rintro e w8 ⟨rfl, hl8⟩; have q8 := hl2.trans (hl8.mono hl2.size))
              go_roundw
              case rel => exact ⟨s + 1, by omega, by rw [HCV.out]; congr 1; omega, by go_num, q8⟩
              case measure => simp [intOf]; omega
        · obtain rfl : P = s := by omega
          have hce : covM ts n m P = cc := by rw [HPE.out]; exact cover_eq HM.out
          rw [hce]
          have q5 := q4.trans (hl.mono q4.size)
          go_wp2_with (go_at_call 26; refine (lives_any _).mono ?_; rintro e w9 ⟨rfl, hl9⟩)
          go_ret
          exact ⟨rfl, q5.trans (hl9.mono q5.size)⟩
end Go.Proofs.Ytncmfjncdhhjoaa

