/- The reference's find: a row finds a column by turning others out. -/
import Derived.Test.YtncmfjncdhhjoaaWHall
namespace Go.Proofs.Ytncmfjncdhhjoaa
open Go.RowKit


theorem unhideF {p : Prop} (h : Hid p) : p := h.out
structure FdM (B : Nat) (w : World) (go co gs m : Nat) (o : Nat → Int) (s : Nat → Bool) : Prop where
  own : Hd 3 w go co (fl o m)
  seen : Blk 4 w gs (flB s m)
  far : B ≤ go ∧ B ≤ gs ∧ go ≠ gs ∧ B ≤ w.heap.size
theorem FdM.keepAll {B : Nat} {w w' : World} {go co gs m : Nat} {o : Nat → Int} {s : Nat → Bool} (h : FdM B w go co gs m o s) (hb : Below w.heap.size w w') : FdM B w' go co gs m o s :=
  ⟨h.own.keep hb, h.seen.keep hb, ⟨h.far.1, h.far.2.1, h.far.2.2.1, Nat.le_trans h.far.2.2.2 hb.size⟩⟩
theorem FdM.setS {B : Nat} {w : World} {go co gs m : Nat} {o : Nat → Int} {s : Nat → Bool} (h : FdM B w go co gs m o s) (k : Nat) (b : Bool) : FdM B (w.setCell ⟨gs, k, none⟩ (.bool b)) go co gs m o (upd s k b) :=
  ⟨h.own.setOther (a := ⟨gs, k, none⟩) h.far.2.2.1 _, h.seen.setB k b, by have := h.far; simpa using this⟩
theorem FdM.setO {B : Nat} {w : World} {go co gs m : Nat} {o : Nat → Int} {s : Nat → Bool} (h : FdM B w go co gs m o s) {k : Nat} (hk : k < m) (x : Int) : FdM B (w.setCell ⟨go, k, none⟩ (.int .i64 x)) go co gs m (upd o k x) s :=
  ⟨Hd.setI h.own hk x, h.seen.setOther (a := ⟨go, k, none⟩) (Ne.symm h.far.2.2.1) _, by have := h.far; simpa using this⟩
set_option maxHeartbeats 4000000 in
set_option maxRecDepth 100000 in
theorem find_any (B go co gs n m cT : Nat) (A : Option Addr) (ls : List (List Int)) (w0 : World) (G : Good n m ls) (T : Tab B w0 A ls) (hm : m ≤ 64) (N : Nat) :
    ∀ (row : Nat) (o : Nat → Int) (s : Nat → Bool) (w : World), cntB s m < N → Below B w0 w → row < n → (∀ j, j < m → -1 ≤ o j) → (∀ j, j < m → ∀ q : Nat, o j = (q : Int) → q < n) →
      FdM B w go co gs m o s →
      Calls Try.prog 62 #[.slice A n cT, .int .i64 (row : Int), .slice (some ⟨go, 0, none⟩) m co, .slice (some ⟨gs, 0, none⟩) m m] w fun e w' =>
        ∃ b o' s', e = .returned (.tuple #[.slice (some ⟨go, 0, none⟩) m co, .slice (some ⟨gs, 0, none⟩) m m, .bool b]) ∧ Room m (mayC (cst ls)) row 0 o s b o' s' ∧ FdM B w' go co gs m o' s' ∧ Below B w w' := by
  induction N with
  | zero => intro row o s w h; omega
  | succ N ih =>
    intro row o s w hN hw hrk hdom hown hP
    have HP0 := Lib.hid hP
    have HG := Lib.hid G
    have HT := Lib.hid T
    have HIH := Lib.hid ih
    have HDOM := Lib.hid hdom
    have HOWN := Lib.hid hown
    have hrn : (row : Int) < (n : Int) := by omega
    clear hP ih hdom hown G T
    go_enter Try.func62, Try.ntmps62
    go_wp2_with (fail)
    go_loopw [2, 3, 11, 12] (fun a b t _ wr => ∃ (k : Nat) (s1 : Nat → Bool), k ≤ m ∧ a = .slice (some ⟨go, 0, none⟩) m co ∧ b = .slice (some ⟨gs, 0, none⟩) m m ∧ t = .int .i64 (k : Int) ∧ Hid (∀ b o' s', Room m (mayC (cst ls)) row k o s1 b o' s' → Room m (mayC (cst ls)) row 0 o s b o' s') ∧ cntB s1 m < N + 1 ∧ FdM B wr go co gs m o s1 ∧ Below B w wr) (fun _ _ t _ _ => m - (intOf t).toNat)
    case atStart => exact ⟨0, s, Nat.zero_le _, rfl, rfl, rfl, Lib.hid (fun _ _ _ h => h), hN, HP0.out, Below.refl _ _⟩
    case round =>
      clear HP0 hN
      obtain ⟨k, s1, hk, rfl, rfl, rfl, HR, hN, hP, hl⟩ := hrel
      by_cases hlt : k < m
      · have hT := HT.out.keep (hw.trans hl)
        obtain ⟨g, off, Ai, ci, rfl, hg, hrow, hcell⟩ := HG.out.at_ hT hrk
        obtain ⟨g2, off2, rfl, hg2, hcl⟩ := hcell (by omega)
        have hcc := hcl k hlt
        have hlt2 : (k : Int) < (m : Int) := by omega
        have hrg := (HG.out.rng row k hrk hlt).1
        have hme : mayC (cst ls) row k = (cst ls row k != -1) := rfl
        have cs := hP.seen.bool hlt
        clear hT hcl hcell
        have HME := Lib.hid hme
        clear hme
        generalize hx : cst ls row k = x at *
        have HXX := Lib.hid hx
        clear hx
        by_cases hx0 : x < 0
        · have hd : decide (x < 0) = true := by simpa using hx0
          have hmy : mayC (cst ls) row k = false := by rw [HME.out]; simp; omega
          have HR2 : Hid (∀ b o' s', Room m (mayC (cst ls)) row (k + 1) o s1 b o' s' → Room m (mayC (cst ls)) row 0 o s b o' s') := Lib.hid (fun b o' s' h => HR.out b o' s' (Room.skip hlt (by rw [hmy]; simp) h))
          clear hmy hrg hx0
          go_wp2_with (fail)
          go_roundw
          case rel => exact ⟨k + 1, s1, by omega, rfl, rfl, by go_num, HR2, hN, hP, hl⟩
          case measure => simp [intOf]; omega
        · have hd : decide (x < 0) = false := by simpa using hx0
          have hmy : mayC (cst ls) row k = true := by rw [HME.out]; simp; omega
          have HMY := Lib.hid hmy
          clear hmy hrg hx0
          cases hs : s1 k with
          | true =>
            have HR2 : Hid (∀ b o' s', Room m (mayC (cst ls)) row (k + 1) o s1 b o' s' → Room m (mayC (cst ls)) row 0 o s b o' s') := Lib.hid (fun b o' s' h => HR.out b o' s' (Room.skip hlt (by rw [hs]; rfl) h))
            rw [hs] at cs
            clear hs
            go_wp2_with (fail)
            go_roundw
            case rel => exact ⟨k + 1, s1, by omega, rfl, rfl, by go_num, HR2, hN, hP, hl⟩
            case measure => simp [intOf]; omega
          | false =>
            rw [hs] at cs
            have hcnt := cntB_upd hs hlt
            have HCNT := Lib.hid hcnt
            have HS := Lib.hid hs
            have fs := hP.seen.frozen k
            have hfar := hP.far
            have HP2 := Lib.hid (hP.setS k true)
            have HL3 := Lib.hid (below_set hl (g := gs) (i := k) (by omega) (.bool true))
            clear hs hcnt hP hl
            by_cases ho : o k = -1
            · have hend := HR.out _ _ _ (Room.free (may := mayC (cst ls)) hlt HS.out HMY.out ho)
              have HE := Lib.hid hend
              have a5 := Hd.int HP2.out.own hlt
              have a6 := HP2.out.own.frozen k
              rw [ho] at a5
              have HP3 := Lib.hid (HP2.out.setO hlt (row : Int))
              have HL4 := Lib.hid (below_set HL3.out (g := go) (i := k) (by omega) (.int .i64 (row : Int)))
              clear hend ho HME
              go_wp2_with (fail)
              go_ret3
              exact ⟨_, _, _, rfl, HE.out, HP3.out, HL4.out⟩
            · obtain ⟨q, hq⟩ : ∃ q : Nat, o k = (q : Int) := ⟨(o k).toNat, by have := HDOM.out k hlt; omega⟩
              have hne : decide ((q : Int) < 0) = false := by simp
              have HQ := Lib.hid hq
              have hic := HIH.out q o (upd s1 k true) _ (by have := HCNT.out; omega) (hw.trans HL3.out) (HOWN.out k hlt q hq) HDOM.out HOWN.out HP2.out
              have HIC := Lib.hid hic
              have a5 := Hd.int HP2.out.own hlt
              rw [hq] at a5
              clear ho hq hic HME
              go_wp2_with (go_at_call 62; refine (HIC.out).mono ?_; rintro e w2 ⟨b, o', s', rfl, hroom, hP4, hl4⟩
                           have HRM := Lib.hid hroom
                           have HP4 := Lib.hid hP4
                           have b5 := Hd.int hP4.own hlt
                           have b6 := hP4.own.frozen k
                           have HL5 := Lib.hid (HL3.out.trans hl4)
                           clear hroom hP4 hl4; refine unhideF ?_)
              refine Lib.hid ?_
              cases b with
              | true =>
                have hend := HR.out _ _ _ (Room.move hlt HS.out HMY.out HQ.out HRM.out)
                have HP3 := Lib.hid (HP4.out.setO hlt (row : Int))
                have HE := Lib.hid hend
                have HL6 := Lib.hid (below_set HL5.out (g := go) (i := k) (by omega) (.int .i64 (row : Int)))
                clear hend
                go_wp2_with (fail)
                go_ret3
                exact ⟨_, _, _, rfl, HE.out, HP3.out, HL6.out⟩
              | false =>
                have hoo := HRM.out.frame.2 rfl
                subst hoo
                have HR2 : Hid (∀ b o2 s2, Room m (mayC (cst ls)) row (k + 1) o' s' b o2 s2 → Room m (mayC (cst ls)) row 0 o' s b o2 s2) := Lib.hid (fun b o2 s2 h => HR.out b o2 s2 (Room.stay hlt HS.out HMY.out HQ.out HRM.out h))
                have hcnt2 : cntB s' m ≤ cntB (upd s1 k true) m := cntB_mono fun j _ h => (HRM.out.frame.1 j h).1
                have hcnt3 : cntB s' m < N + 1 := by have := HCNT.out; omega
                clear hcnt2
                go_wp2_with (fail)
                go_roundw
                case rel => exact ⟨k + 1, s', by omega, rfl, rfl, by go_num, HR2, hcnt3, HP4.out, HL5.out⟩
                case measure => simp [intOf]; omega
      · obtain rfl : k = m := by omega
        have hend := HR.out _ _ _ (Room.done (Nat.le_refl _))
        have HE := Lib.hid hend
        clear hend
        go_wp2_with (fail)
        go_ret3
        exact ⟨_, _, _, rfl, HE.out, hP, hl⟩
end Go.Proofs.Ytncmfjncdhhjoaa
