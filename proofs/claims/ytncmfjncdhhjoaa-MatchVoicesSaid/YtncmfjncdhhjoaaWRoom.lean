/- makeRoom: a row finds a column by turning others out. -/
import Derived.Test.YtncmfjncdhhjoaaWFind
namespace Go.Proofs.Ytncmfjncdhhjoaa
open Go.RowKit

theorem cntB_mono {s t : Nat → Bool} : ∀ {m : Nat}, (∀ k, k < m → s k = true → t k = true) → cntB t m ≤ cntB s m
  | 0, _ => Nat.le_refl _
  | m + 1, h => by
    have h1 := cntB_mono (m := m) fun k hk => h k (by omega)
    have h2 := h m (by omega)
    simp only [cntB]
    cases hs : s m with
    | true => rw [h2 hs]; simpa using h1
    | false => split <;> simp <;> omega

set_option maxHeartbeats 4000000 in
set_option maxRecDepth 100000 in
theorem makeRoomT (L : List (Nat × List Value)) (B pp go gk gs m : Nat) (cap : Value) (kp : Nat → Bool) (may : Nat → Nat → Bool) (Rk : Nat → Prop) (w0 : World) (hm : m ≤ 64)
    (hmay : ∀ W, Below B w0 W → ∀ row k, Rk row → k < m → Calls Try.prog 81 #[.int .i64 ((row : Nat) : Int), .int .i64 ((k : Nat) : Int), cap] W fun e w' => e = .returned (.bool (may row k)) ∧ Below W.heap.size W w') (N : Nat) :
    ∀ (row : Nat) (o : Nat → Int) (s : Nat → Bool) (w : World), cntB s m < N → Below B w0 w → Rk row → (∀ j, j < m → -1 ≤ o j) → (∀ j, j < m → ∀ q : Nat, o j = (q : Int) → Rk q) →
      PaM L B w pp go gk gs (.func (.func 81) #[] #[cap]) m o kp s →
      Calls Try.prog 77 #[.pointer (some ⟨pp, 0, none⟩), .int .i64 (row : Int)] w fun e w' =>
        ∃ b o' s', e = .returned (.bool b) ∧ Room m may row 0 o s b o' s' ∧ PaM L B w' pp go gk gs (.func (.func 81) #[] #[cap]) m o' kp s' ∧ Below B w w' := by
  induction N with
  | zero => intro row o s w h; omega
  | succ N ih =>
    intro row o s w hN hw hrk hdom hown hP
    have hfar := hP.far
    have HP0 := Lib.hid hP
    have HM := Lib.hid hmay
    have HIH := Lib.hid ih
    have HDOM := Lib.hid hdom
    have HOWN := Lib.hid hown
    have p0 : w.cell? ⟨pp, 0, none⟩ = some (.int .i64 (m : Int)) := hP.box.cell 0
    clear hP hmay ih hdom hown
    go_enter Try.func77, Try.ntmps77
    go_wp2_with (fail)
    clear p0
    go_loopw [5, 11] (fun _ t wr => ∃ (k : Nat) (s1 : Nat → Bool), k ≤ m ∧ t = .int .i64 (k : Int) ∧ Hid (∀ b o' s', Room m may row k o s1 b o' s' → Room m may row 0 o s b o' s') ∧ cntB s1 m < N + 1 ∧ PaM L B wr pp go gk gs (.func (.func 81) #[] #[cap]) m o kp s1 ∧ Below B w wr) (fun _ t _ => m - (intOf t).toNat)
    case atStart => exact ⟨0, s, Nat.zero_le _, rfl, Lib.hid (fun _ _ _ h => h), hN, HP0.out, Below.refl _ _⟩
    case round =>
      clear HP0 hN
      obtain ⟨k, s1, hk, rfl, HR, hN, hP, hl⟩ := hrel
      by_cases hlt : k < m
      · have p3 : wr.cell? ⟨pp, 4, none⟩ = some (.slice (some ⟨gs, 0, none⟩) m m) := hP.box.cell 4
        have cs := hP.seen.bool hlt
        have p1 : wr.cell? ⟨pp, 1, none⟩ = some (.func (.func 81) #[] #[cap]) := hP.box.cell 1
        cases hs : s1 k with
        | true =>
          have HR2 : Hid (∀ b o' s', Room m may row (k + 1) o s1 b o' s' → Room m may row 0 o s b o' s') := Lib.hid (fun b o' s' h => HR.out b o' s' (Room.skip hlt (by rw [hs]; rfl) h))
          rw [hs] at cs
          clear hs
          go_wp2
          go_roundw
          case rel => exact ⟨k + 1, s1, by omega, by go_num, HR2, hN, hP, hl⟩
          case measure => simp [intOf]; omega
        | false =>
          rw [hs] at cs
          have hcm := HM.out wr (hw.trans hl) row k hrk hlt
          have HP := Lib.hid hP
          have hlw := hP.box.lt
          have hBwr : B ≤ wr.heap.size := by omega
          clear hP
          cases hmy : may row k with
          | false =>
            rw [hmy] at hcm
            have HCM := Lib.hid hcm
            have HR2 : Hid (∀ b o' s', Room m may row (k + 1) o s1 b o' s' → Room m may row 0 o s b o' s') := Lib.hid (fun b o' s' h => HR.out b o' s' (Room.skip hlt (by rw [hmy]; simp) h))
            clear hs hmy hcm
            go_wp2_with (go_at_call 81; refine (HCM.out).mono ?_; rintro e w1 ⟨rfl, hl1⟩)
            go_roundw
            case rel => exact ⟨k + 1, s1, by omega, by go_num, HR2, hN, HP.out.keepAll hl1, below_on hl hBwr hl1⟩
            case measure => simp [intOf]; omega
          | true =>
            rw [hmy] at hcm
            have HCM := Lib.hid hcm
            have hcnt := cntB_upd hs hlt
            have HCNT := Lib.hid hcnt
            have HS := Lib.hid hs
            have HMY := Lib.hid hmy
            have hP2 : ∀ w1, Below wr.heap.size wr w1 → PaM L B (w1.setCell ⟨gs, k, none⟩ (.bool true)) pp go gk gs (.func (.func 81) #[] #[cap]) m o kp (upd s1 k true) := fun w1 h =>
              (HP.out.keepAll h).setS k true
            have hl3 : ∀ w1, Below wr.heap.size wr w1 → Below B w (w1.setCell ⟨gs, k, none⟩ (.bool true)) := fun w1 h => below_set (below_on hl hBwr h) (by omega) _
            have HP2 := Lib.hid hP2
            have HL3 := Lib.hid hl3
            clear hs hmy hcm hcnt hP2 hl3
            by_cases ho : o k = -1
            · have hend := HR.out _ _ _ (Room.free (may := may) hlt HS.out HMY.out ho)
              have HE := Lib.hid hend
              have HO := Lib.hid ho
              clear hend ho
              go_wp2_with (go_at_call 81; refine (HCM.out).mono ?_; rintro e w1 ⟨rfl, hl1⟩
                           have hPw := HP.out.keepAll hl1
                           have a1 : w1.cell? ⟨pp, 4, none⟩ = some (.slice (some ⟨gs, 0, none⟩) m m) := hPw.box.cell 4
                           have a2 := hPw.seen.bool hlt
                           have a3 := hPw.seen.frozen k
                           have a4 : (w1.setCell ⟨gs, k, none⟩ (.bool true)).cell? ⟨pp, 2, none⟩ = some (.slice (some ⟨go, 0, none⟩) m m) := (HP2.out w1 hl1).box.cell 2
                           have a5 := (HP2.out w1 hl1).own.int hlt
                           have a6 := (HP2.out w1 hl1).own.frozen k
                           rw [HO.out] at a5
                           clear hPw)
              have hP3 : PaM L B ((w1.setCell ⟨gs, k, none⟩ (.bool true)).setCell ⟨go, k, none⟩ (.int .i64 (row : Int))) pp go gk gs (.func (.func 81) #[] #[cap]) m (upd o k (row : Int)) kp (upd s1 k true) :=
                (HP2.out w1 hl1).setO k _
              have HP3 := Lib.hid hP3
              clear hP3
              go_ret
              exact ⟨_, _, _, rfl, HE.out, HP3.out, below_set (HL3.out w1 hl1) (by omega) _⟩
            · obtain ⟨q, hq⟩ : ∃ q : Nat, o k = (q : Int) := ⟨(o k).toNat, by have := HDOM.out k hlt; omega⟩
              have hne : ((q : Int) == -1) = false := by simp
              have HQ := Lib.hid hq
              have hic := fun W (hP : PaM L B W pp go gk gs (.func (.func 81) #[] #[cap]) m o kp (upd s1 k true)) (hl : Below B w W) => HIH.out q o (upd s1 k true) W (by have := HCNT.out; omega) (hw.trans hl) (HOWN.out k hlt q hq) HDOM.out HOWN.out hP
              have HIC := Lib.hid hic
              clear ho hq hic
              go_wp2_with (first
                | (go_at_call 81; refine (HCM.out).mono ?_; rintro e w1 ⟨rfl, hl1⟩
                   have hPw := HP.out.keepAll hl1
                   have a1 : w1.cell? ⟨pp, 4, none⟩ = some (.slice (some ⟨gs, 0, none⟩) m m) := hPw.box.cell 4
                   have a2 := hPw.seen.bool hlt
                   have a3 := hPw.seen.frozen k
                   have a4 : (w1.setCell ⟨gs, k, none⟩ (.bool true)).cell? ⟨pp, 2, none⟩ = some (.slice (some ⟨go, 0, none⟩) m m) := (HP2.out w1 hl1).box.cell 2
                   have a5 := (HP2.out w1 hl1).own.int hlt
                   rw [HQ.out] at a5
                   clear hPw)
                | (go_at_call 77; refine (HIC.out _ (HP2.out w1 hl1) (HL3.out w1 hl1)).mono ?_; rintro e w2 ⟨b, o', s', rfl, hroom, hP4, hl4⟩
                   have HRM := Lib.hid hroom
                   have HP4 := Lib.hid hP4
                   have b4 : w2.cell? ⟨pp, 2, none⟩ = some (.slice (some ⟨go, 0, none⟩) m m) := hP4.box.cell 2
                   have b5 := hP4.own.int hlt
                   have b6 := hP4.own.frozen k
                   clear hroom hP4))
              · rename_i hb
                subst hb
                have hend := HR.out _ _ _ (Room.move hlt HS.out HMY.out HQ.out HRM.out)
                have hP3 : PaM L B (w2.setCell ⟨go, k, none⟩ (.int .i64 (row : Int))) pp go gk gs (.func (.func 81) #[] #[cap]) m (upd o' k (row : Int)) kp s' :=
                  HP4.out.setO k _
                have HE := Lib.hid hend
                have HP3 := Lib.hid hP3
                clear hend hP3
                go_ret
                exact ⟨_, _, _, rfl, HE.out, HP3.out, below_set ((HL3.out w1 hl1).trans hl4) (by omega) _⟩
              · rename_i hb
                subst hb
                have hoo := HRM.out.frame.2 rfl
                subst hoo
                have HR2 : Hid (∀ b o2 s2, Room m may row (k + 1) o' s' b o2 s2 → Room m may row 0 o' s b o2 s2) := Lib.hid (fun b o2 s2 h => HR.out b o2 s2 (Room.stay hlt HS.out HMY.out HQ.out HRM.out h))
                have hcnt2 : cntB s' m ≤ cntB (upd s1 k true) m := cntB_mono fun j _ h => (HRM.out.frame.1 j h).1
                have hcnt3 : cntB s' m < N + 1 := by have := HCNT.out; omega
                refine ⟨⟨k + 1, s', by omega, by go_num, HR2, hcnt3, HP4.out, (HL3.out w1 hl1).trans hl4⟩, ?_⟩
                simp [intOf]; omega
      · obtain rfl : k = m := by omega
        have hend := HR.out _ _ _ (Room.done (Nat.le_refl _))
        have HE := Lib.hid hend
        clear hend
        go_wp2
        go_ret
        exact ⟨_, _, _, rfl, HE.out, hP, hl⟩

set_option maxHeartbeats 4000000 in
set_option maxRecDepth 100000 in
theorem makeRoomA (L : List (Nat × List Value)) (B pp go gk gs m : Nat) (cap : Value) (kp : Nat → Bool) (may : Nat → Nat → Bool) (Rk : Nat → Prop) (w0 : World) (hm : m ≤ 64)
    (hmay : ∀ W, Below B w0 W → ∀ row k, Rk row → k < m → Calls Try.prog 76 #[.int .i64 ((row : Nat) : Int), .int .i64 ((k : Nat) : Int), cap] W fun e w' => e = .returned (.bool (may row k)) ∧ Below W.heap.size W w') (N : Nat) :
    ∀ (row : Nat) (o : Nat → Int) (s : Nat → Bool) (w : World), cntB s m < N → Below B w0 w → Rk row → (∀ j, j < m → -1 ≤ o j) → (∀ j, j < m → ∀ q : Nat, o j = (q : Int) → Rk q) →
      PaM L B w pp go gk gs (.func (.func 76) #[] #[cap]) m o kp s →
      Calls Try.prog 77 #[.pointer (some ⟨pp, 0, none⟩), .int .i64 (row : Int)] w fun e w' =>
        ∃ b o' s', e = .returned (.bool b) ∧ Room m may row 0 o s b o' s' ∧ PaM L B w' pp go gk gs (.func (.func 76) #[] #[cap]) m o' kp s' ∧ Below B w w' := by
  induction N with
  | zero => intro row o s w h; omega
  | succ N ih =>
    intro row o s w hN hw hrk hdom hown hP
    have hfar := hP.far
    have HP0 := Lib.hid hP
    have HM := Lib.hid hmay
    have HIH := Lib.hid ih
    have HDOM := Lib.hid hdom
    have HOWN := Lib.hid hown
    have p0 : w.cell? ⟨pp, 0, none⟩ = some (.int .i64 (m : Int)) := hP.box.cell 0
    clear hP hmay ih hdom hown
    go_enter Try.func77, Try.ntmps77
    go_wp2_with (fail)
    clear p0
    go_loopw [5, 11] (fun _ t wr => ∃ (k : Nat) (s1 : Nat → Bool), k ≤ m ∧ t = .int .i64 (k : Int) ∧ Hid (∀ b o' s', Room m may row k o s1 b o' s' → Room m may row 0 o s b o' s') ∧ cntB s1 m < N + 1 ∧ PaM L B wr pp go gk gs (.func (.func 76) #[] #[cap]) m o kp s1 ∧ Below B w wr) (fun _ t _ => m - (intOf t).toNat)
    case atStart => exact ⟨0, s, Nat.zero_le _, rfl, Lib.hid (fun _ _ _ h => h), hN, HP0.out, Below.refl _ _⟩
    case round =>
      clear HP0 hN
      obtain ⟨k, s1, hk, rfl, HR, hN, hP, hl⟩ := hrel
      by_cases hlt : k < m
      · have p3 : wr.cell? ⟨pp, 4, none⟩ = some (.slice (some ⟨gs, 0, none⟩) m m) := hP.box.cell 4
        have cs := hP.seen.bool hlt
        have p1 : wr.cell? ⟨pp, 1, none⟩ = some (.func (.func 76) #[] #[cap]) := hP.box.cell 1
        cases hs : s1 k with
        | true =>
          have HR2 : Hid (∀ b o' s', Room m may row (k + 1) o s1 b o' s' → Room m may row 0 o s b o' s') := Lib.hid (fun b o' s' h => HR.out b o' s' (Room.skip hlt (by rw [hs]; rfl) h))
          rw [hs] at cs
          clear hs
          go_wp2
          go_roundw
          case rel => exact ⟨k + 1, s1, by omega, by go_num, HR2, hN, hP, hl⟩
          case measure => simp [intOf]; omega
        | false =>
          rw [hs] at cs
          have hcm := HM.out wr (hw.trans hl) row k hrk hlt
          have HP := Lib.hid hP
          have hlw := hP.box.lt
          have hBwr : B ≤ wr.heap.size := by omega
          clear hP
          cases hmy : may row k with
          | false =>
            rw [hmy] at hcm
            have HCM := Lib.hid hcm
            have HR2 : Hid (∀ b o' s', Room m may row (k + 1) o s1 b o' s' → Room m may row 0 o s b o' s') := Lib.hid (fun b o' s' h => HR.out b o' s' (Room.skip hlt (by rw [hmy]; simp) h))
            clear hs hmy hcm
            go_wp2_with (go_at_call 76; refine (HCM.out).mono ?_; rintro e w1 ⟨rfl, hl1⟩)
            go_roundw
            case rel => exact ⟨k + 1, s1, by omega, by go_num, HR2, hN, HP.out.keepAll hl1, below_on hl hBwr hl1⟩
            case measure => simp [intOf]; omega
          | true =>
            rw [hmy] at hcm
            have HCM := Lib.hid hcm
            have hcnt := cntB_upd hs hlt
            have HCNT := Lib.hid hcnt
            have HS := Lib.hid hs
            have HMY := Lib.hid hmy
            have hP2 : ∀ w1, Below wr.heap.size wr w1 → PaM L B (w1.setCell ⟨gs, k, none⟩ (.bool true)) pp go gk gs (.func (.func 76) #[] #[cap]) m o kp (upd s1 k true) := fun w1 h =>
              (HP.out.keepAll h).setS k true
            have hl3 : ∀ w1, Below wr.heap.size wr w1 → Below B w (w1.setCell ⟨gs, k, none⟩ (.bool true)) := fun w1 h => below_set (below_on hl hBwr h) (by omega) _
            have HP2 := Lib.hid hP2
            have HL3 := Lib.hid hl3
            clear hs hmy hcm hcnt hP2 hl3
            by_cases ho : o k = -1
            · have hend := HR.out _ _ _ (Room.free (may := may) hlt HS.out HMY.out ho)
              have HE := Lib.hid hend
              have HO := Lib.hid ho
              clear hend ho
              go_wp2_with (go_at_call 76; refine (HCM.out).mono ?_; rintro e w1 ⟨rfl, hl1⟩
                           have hPw := HP.out.keepAll hl1
                           have a1 : w1.cell? ⟨pp, 4, none⟩ = some (.slice (some ⟨gs, 0, none⟩) m m) := hPw.box.cell 4
                           have a2 := hPw.seen.bool hlt
                           have a3 := hPw.seen.frozen k
                           have a4 : (w1.setCell ⟨gs, k, none⟩ (.bool true)).cell? ⟨pp, 2, none⟩ = some (.slice (some ⟨go, 0, none⟩) m m) := (HP2.out w1 hl1).box.cell 2
                           have a5 := (HP2.out w1 hl1).own.int hlt
                           have a6 := (HP2.out w1 hl1).own.frozen k
                           rw [HO.out] at a5
                           clear hPw)
              have hP3 : PaM L B ((w1.setCell ⟨gs, k, none⟩ (.bool true)).setCell ⟨go, k, none⟩ (.int .i64 (row : Int))) pp go gk gs (.func (.func 76) #[] #[cap]) m (upd o k (row : Int)) kp (upd s1 k true) :=
                (HP2.out w1 hl1).setO k _
              have HP3 := Lib.hid hP3
              clear hP3
              go_ret
              exact ⟨_, _, _, rfl, HE.out, HP3.out, below_set (HL3.out w1 hl1) (by omega) _⟩
            · obtain ⟨q, hq⟩ : ∃ q : Nat, o k = (q : Int) := ⟨(o k).toNat, by have := HDOM.out k hlt; omega⟩
              have hne : ((q : Int) == -1) = false := by simp
              have HQ := Lib.hid hq
              have hic := fun W (hP : PaM L B W pp go gk gs (.func (.func 76) #[] #[cap]) m o kp (upd s1 k true)) (hl : Below B w W) => HIH.out q o (upd s1 k true) W (by have := HCNT.out; omega) (hw.trans hl) (HOWN.out k hlt q hq) HDOM.out HOWN.out hP
              have HIC := Lib.hid hic
              clear ho hq hic
              go_wp2_with (first
                | (go_at_call 76; refine (HCM.out).mono ?_; rintro e w1 ⟨rfl, hl1⟩
                   have hPw := HP.out.keepAll hl1
                   have a1 : w1.cell? ⟨pp, 4, none⟩ = some (.slice (some ⟨gs, 0, none⟩) m m) := hPw.box.cell 4
                   have a2 := hPw.seen.bool hlt
                   have a3 := hPw.seen.frozen k
                   have a4 : (w1.setCell ⟨gs, k, none⟩ (.bool true)).cell? ⟨pp, 2, none⟩ = some (.slice (some ⟨go, 0, none⟩) m m) := (HP2.out w1 hl1).box.cell 2
                   have a5 := (HP2.out w1 hl1).own.int hlt
                   rw [HQ.out] at a5
                   clear hPw)
                | (go_at_call 77; refine (HIC.out _ (HP2.out w1 hl1) (HL3.out w1 hl1)).mono ?_; rintro e w2 ⟨b, o', s', rfl, hroom, hP4, hl4⟩
                   have HRM := Lib.hid hroom
                   have HP4 := Lib.hid hP4
                   have b4 : w2.cell? ⟨pp, 2, none⟩ = some (.slice (some ⟨go, 0, none⟩) m m) := hP4.box.cell 2
                   have b5 := hP4.own.int hlt
                   have b6 := hP4.own.frozen k
                   clear hroom hP4))
              · rename_i hb
                subst hb
                have hend := HR.out _ _ _ (Room.move hlt HS.out HMY.out HQ.out HRM.out)
                have hP3 : PaM L B (w2.setCell ⟨go, k, none⟩ (.int .i64 (row : Int))) pp go gk gs (.func (.func 76) #[] #[cap]) m (upd o' k (row : Int)) kp s' :=
                  HP4.out.setO k _
                have HE := Lib.hid hend
                have HP3 := Lib.hid hP3
                clear hend hP3
                go_ret
                exact ⟨_, _, _, rfl, HE.out, HP3.out, below_set ((HL3.out w1 hl1).trans hl4) (by omega) _⟩
              · rename_i hb
                subst hb
                have hoo := HRM.out.frame.2 rfl
                subst hoo
                have HR2 : Hid (∀ b o2 s2, Room m may row (k + 1) o' s' b o2 s2 → Room m may row 0 o' s b o2 s2) := Lib.hid (fun b o2 s2 h => HR.out b o2 s2 (Room.stay hlt HS.out HMY.out HQ.out HRM.out h))
                have hcnt2 : cntB s' m ≤ cntB (upd s1 k true) m := cntB_mono fun j _ h => (HRM.out.frame.1 j h).1
                have hcnt3 : cntB s' m < N + 1 := by have := HCNT.out; omega
                refine ⟨⟨k + 1, s', by omega, by go_num, HR2, hcnt3, HP4.out, (HL3.out w1 hl1).trans hl4⟩, ?_⟩
                simp [intOf]; omega
      · obtain rfl : k = m := by omega
        have hend := HR.out _ _ _ (Room.done (Nat.le_refl _))
        have HE := Lib.hid hend
        clear hend
        go_wp2
        go_ret
        exact ⟨_, _, _, rfl, HE.out, hP, hl⟩

end Go.Proofs.Ytncmfjncdhhjoaa
