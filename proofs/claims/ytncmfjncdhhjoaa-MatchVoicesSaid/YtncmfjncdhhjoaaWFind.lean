/- findColumn of the prices: a row more has a column, or there is no assignment. -/
import Derived.Test.YtncmfjncdhhjoaaWMov
import Derived.Test.YtncmfjncdhhjoaaWNear
import Derived.Test.YtncmfjncdhhjoaaWNew
import Derived.StillTailTactics
namespace Go.Proofs.Ytncmfjncdhhjoaa
open Go.RowKit

/-- The program's prices are a fair state. -/
structure Prs (B : Nat) (w : World) (p gu gv go : Nat) (C : Value) (n m : Nat) (c : Nat → Nat → Int) (u v o : Nat → Int) (Bd : Int) : Prop where
  mem : PrM B w p gu gv go C n m u v o
  fair : Fair n m c u v o Bd

/-- How many of the first are not done. -/
def cntB (s : Nat → Bool) : Nat → Nat
  | 0 => 0
  | m + 1 => cntB s m + if s m = true then 0 else 1
theorem cntB_congr {s t : Nat → Bool} : ∀ {m : Nat}, (∀ k, k < m → s k = t k) → cntB s m = cntB t m
  | 0, _ => rfl
  | m + 1, h => by simp only [cntB]; rw [cntB_congr fun k hk => h k (by omega), h m (by omega)]
theorem cntB_upd {s : Nat → Bool} {k : Nat} (hs : s k = false) : ∀ {m : Nat}, k < m → cntB (upd s k true) m + 1 = cntB s m
  | 0, h => by omega
  | m + 1, h => by
    simp only [cntB]
    by_cases e : k = m
    · subst e
      rw [upd_at, hs, cntB_congr (s := upd s k true) (t := s) fun j hj => upd_ne (by omega)]
      simp
    · have := cntB_upd hs (m := m) (by omega)
      rw [upd_ne (show m ≠ k by omega)]
      omega
/-- The bool in a cell. -/
def boolAt (w : World) (g k : Nat) : Bool := match w.cell? ⟨g, k, none⟩ with | some (.bool b) => b | _ => false
theorem boolAt_of {T : TypeId} {w : World} {g m k : Nat} {s : Nat → Bool} (h : Blk T w g (flB s m)) (hk : k < m) : boolAt w g k = s k := by
  unfold boolAt; rw [h.bool hk]
theorem cnt_of {T : TypeId} {w : World} {g m : Nat} {s : Nat → Bool} (h : Blk T w g (flB s m)) : cntB (fun k => boolAt w g k) m = cntB s m := cntB_congr fun _ hk => boolAt_of h hk
/-- What nearest finds. -/
def NearRes (d : Nat → Int) (dn : Nat → Bool) (m : Nat) (b : Int) : Prop :=
  (b = -1 ∧ ∀ k, k < m → dn k = false → 1152921504606846976 ≤ d k) ∨ (∃ k : Nat, k < m ∧ b = (k : Int) ∧ dn k = false ∧ d k < 1152921504606846976 ∧ ∀ j, j < m → dn j = false → d k ≤ d j)

theorem near_res {a : Nat → Int} {d : Nat → Bool} {m : Nat} {b l : Int} (h : NearSt a d m b l) :
    NearRes a d m b := by
  rcases h with ⟨h1, h2, h3⟩ | ⟨k, h1, h2, h3, h4, h5, h6⟩
  · exact .inl ⟨h1, h3⟩
  · exact .inr ⟨k, h1, h2, h4, h5, h6⟩

def FoundPost (B : Nat) (w : World) (p gu gv go : Nat) (C : Value) (n m : Nat) (c : Nat → Nat → Int) (o : Nat → Int) (Bd : Int) (r : Nat) (e : Ending) (w' : World) : Prop :=
  Below B w w' ∧ ((e = .returned (.bool true) ∧ ∃ u' v' o', PrM B w' p gu gv go C n m u' v' o' ∧ Fair n m c u' v' o' (Bd + 64000000000) ∧ ∀ q : Nat, Has m o' q ↔ Has m o q ∨ q = r) ∨
    (e = .returned (.bool false) ∧ ∀ τ, ¬ Asg n m c τ))

set_option maxHeartbeats 4000000 in
set_option maxRecDepth 100000 in
theorem findCol_any (B p gu gv go n m r cT : Nat) (A : Option Addr) (ls : List (List Int)) (u v o : Nat → Int) (Bd : Int) (w : World)
    (hP : PrM B w p gu gv go (.slice A n cT) n m u v o) (F : Fair n m (cst ls) u v o Bd) (G : Good n m ls) (T : Tab B w A ls) (hBw : B ≤ w.heap.size)
    (hr : r < n) (hro : ¬ Has m o r) (h1 : 1 ≤ m) (hm : m ≤ 64) (hn : n ≤ 64) (hBd : 0 ≤ Bd ∧ Bd ≤ 4096000000000) :
    Calls Try.prog 53 #[.pointer (some ⟨p, 0, none⟩), .int .i64 (r : Int)] w (FoundPost B w p gu gv go (.slice A n cT) n m (cst ls) o Bd r) := by
  have hlt := hP.lt
  have p2 : w.cell? ⟨p, 2, none⟩ = some (.slice (some ⟨gv, 0, none⟩) m m) := hP.box.cell 2
  have HP := Lib.hid hP
  have HF := Lib.hid F
  have HG := Lib.hid G
  have HT := Lib.hid T
  clear hP F G T
  have hb0 : ∀ i, i < n → -1000000000000000 ≤ u i ∧ u i ≤ 1000000000000000 := fun i hi => by have := HF.out.pos i hi; omega
  have hb1 : ∀ k, k < m → -1000000000000000 ≤ v k ∧ v k ≤ 1000000000000000 := fun k hk => by have := HF.out.neg k hk; omega
  have HB0 := Lib.hid hb0
  have HB1 := Lib.hid hb1
  clear hb0 hb1
  have hwid := fun (W : World) (q ga gf gd i : Nat) (d f : Nat → Int) (dn : Nat → Bool) (a fr : Int) (hl : Below w.heap.size w W) (hR : ReM w.heap.size W q ga gf gd m d f dn) (hi : i < n) (ha : 0 ≤ a ∧ a ≤ 1000000000000000) =>
    widen_any B w.heap.size p gu gv go q ga gf gd n m i cT A ls u v o d f dn a fr W (HP.out.keep hl hlt) hlt hBw hR HG.out (HT.out.keep (hl.mono hBw)) hi hm hn (HB0.out i hi) HB1.out ha
  have HW := Lib.hid hwid
  clear hwid
  go_enter Try.func53, Try.ntmps53
  go_wp2_with (first
    | (go_at_call 69; refine (newReach_any m h1 hm _).mono ?_; rintro e w1 ⟨q, ga, gf, gd, rfl, hR, hl1⟩)
    | (go_at_call 70; refine (HW.out _ _ _ _ _ _ _ _ _ _ _ hl1 hR hr ⟨Int.le_refl _, by omega⟩).mono ?_; rintro e w2 ⟨⟨_, rfl⟩, hR2, hl2⟩)
    | (go_at_call 71; refine (nearest_any _ _ _ _ _ _ _ _ _ _ hR2 hm).mono ?_; rintro e w3 ⟨⟨b, l, rfl, hN⟩, rfl⟩))
  have hS := srch_start HF.out hr
  have hl3 := hl1.trans hl2
  go_loopw [6] (fun t wr => ∃ (D : List Nat) (dn : Nat → Bool) (d f : Nat → Int) (bv : Int), t = .int .i64 bv ∧ Hid (Srch n m (cst ls) u v o r D dn d f) ∧ Hid (NearRes d dn m bv) ∧ ReM w.heap.size wr q ga gf gd m d f dn ∧ Below w.heap.size w wr) (fun _ wr => cntB (fun k => boolAt wr gd k) m)
  case atStart => exact ⟨_, _, _, _, b, rfl, Lib.hid hS, Lib.hid (near_res hN), hR2, hl3⟩
  case round =>
    clear hS hN hR2 hl3 hR hl1 hl2
    obtain ⟨D, dn, d, f, bv, rfl, HS, HN, hR, hl⟩ := hrel
    rcases HN.out with ⟨rfl, hstop⟩ | ⟨k, hk, rfl, hdk, hfk, hmin⟩
    · have hnone : ∀ τ, ¬ Asg n m (cst ls) τ := fun τ A => srch_none HF.out HS.out hr hro hm hBd.2 (fun k hk hD => hstop k hk (by
        cases h : dn k with
        | false => rfl
        | true => exact absurd ((HS.out.mark k hk).1 h) hD)) A
      have HNO := Lib.hid hnone
      clear hnone hstop
      go_wp2
      go_ret
      exact ⟨hl.mono hBw, .inr ⟨rfl, HNO.out⟩⟩
    · have hP := HP.out.keep hl hlt
      have p3 : wr.cell? ⟨p, 3, none⟩ = some (.slice (some ⟨go, 0, none⟩) m m) := hP.box.cell 3
      have co := hP.own.int hk
      have q0 : wr.cell? ⟨q, 0, none⟩ = some (.slice (some ⟨ga, 0, none⟩) m m) := hR.box.cell 0
      have q2 : wr.cell? ⟨q, 2, none⟩ = some (.slice (some ⟨gd, 0, none⟩) m m) := hR.box.cell 2
      have ca := hR.away.int hk
      have hkD : k ∉ D := fun h => by
        rw [(HS.out.mark k hk).2 h] at hdk; simp at hdk
      have hl' : ∀ j, j < m → j ∉ D → d k ≤ d j := fun j hj hD => hmin j hj (by
        cases h : dn j with
        | false => rfl
        | true => exact absurd ((HS.out.mark j hj).1 h) hD)
      have hne : ¬ (k : Int) = -1 := by omega
      have hne2 : ((k : Int) != -1) = true := by simp
      have hne3 : ((k : Int) == -1) = false := by simp
      by_cases ho : o k = -1
      · rw [ho] at co
        have hdon : ∀ j, j < m → dn j = true → ∃ i : Nat, i < n ∧ o j = (i : Int) := fun j hj h => by
          obtain ⟨i, e⟩ := (HS.out.own j ((HS.out.mark j hj).1 h)).2
          exact ⟨i, (HF.out.own j hj i e).1, e⟩
        have hdb : ∀ j, j < m → dn j = true → 0 ≤ d j ∧ d j ≤ 1000000000000000 := fun j hj h => by
          have h5 := HS.out.rng j hj
          have h6 := HS.out.up j hj (HS.out.fin j ((HS.out.mark j hj).1 h))
          have h7 := HF.out.neg j hj
          have h8 := HS.out.len
          omega
        have hAb : 0 ≤ d k ∧ d k ≤ 1000000000000000 := by
          have h5 := HS.out.rng k hk
          have h6 := HS.out.up k hk hfk
          have h7 := HF.out.neg k hk
          have h8 := HS.out.len
          omega
        have hst : ∀ j, (j ∈ D ∨ j = k) → j < m ∧ (f j = -1 ∨ ∃ i : Nat, f j = (i : Int) ∧ i ∈ D ∧ (j ∈ D → D.idxOf i < D.idxOf j)) := fun j hj => by
          obtain ⟨h5, h6⟩ := HS.out.step_of hk hfk hj
          rcases h6 with ⟨h6, _⟩ | ⟨i, q', h6, h7, _, _, _, h8⟩
          · exact ⟨h5, .inl h6⟩
          · exact ⟨h5, .inr ⟨i, h7, h6, h8⟩⟩
        have hra := fun W h1' h2' => raise_any B w.heap.size p gu gv go q ga gf gd n m r (.slice A n cT) u v o d f dn (d k) W h1' hlt h2' hr hm hn HF.out.inj hdon HB0.out HB1.out hdb hAb
        have hmo := fun W u' v' h1' h2' => moveOn_any B w.heap.size p gu gv go q ga gf gd n m r k (.slice A n cT) u' v' o d f dn D W h1' hlt h2' hm hkD hst
        have HRA := Lib.hid (hra wr hP hR)
        have HMO := Lib.hid hmo
        have HQ := Lib.hid ho
        have HL' := Lib.hid hl'
        have HFK := Lib.hid hfk
        clear hra hmo hst hAb hdb hdon hmin hP hR ho hl' hfk
        go_wp2_with (first
          | (go_at_call 72; refine (HRA.out).mono ?_; rintro e w4 ⟨⟨_, rfl⟩, hP4, hR4, hl4⟩)
          | (go_at_call 73; refine (HMO.out _ _ _ hP4 hR4).mono ?_; rintro e w5 ⟨⟨_, rfl⟩, o', hM, hP5, hR5, hl5⟩))
        have hfin := srch_found HF.out HS.out hr hro hm hk hkD HFK.out HL'.out HQ.out (raised_of HF.out HS.out hro (d k)) hM
        have HFIN := Lib.hid hfin
        clear hfin
        go_ret
        exact ⟨((hl.mono hBw).trans hl4).trans hl5, .inl ⟨rfl, _, _, o', hP5, HFIN.out.1, HFIN.out.2⟩⟩
      · have hoq : ∃ q1 : Nat, o k = (q1 : Int) := ⟨(o k).toNat, by have := HF.out.dom k hk; omega⟩
        obtain ⟨q1, hq1⟩ := hoq
        have hq1n := (HF.out.own k hk q1 hq1).1
        have hstep := srch_step HF.out HS.out hk hkD hfk hl' hq1
        rw [hq1] at co
        have cd := hR.done.bool hk
        have fd := hR.done.frozen k
        have hAb : 0 ≤ d k ∧ d k ≤ 1000000000000000 := by
          have h5 := HS.out.rng k hk
          have h6 := HS.out.up k hk hfk
          have h7 := HF.out.neg k hk
          have h8 := HS.out.len
          omega
        have hgd := hR.far
        have hR4 : ReM w.heap.size (wr.setCell ⟨gd, k, none⟩ (.bool true)) q ga gf gd m d f (upd dn k true) :=
          ⟨hR.box.setOther (a := ⟨gd, k, none⟩) (by show q ≠ gd; omega) _, hR.away.setOther (a := ⟨gd, k, none⟩) (by show ga ≠ gd; omega) _,
            hR.from_.setOther (a := ⟨gd, k, none⟩) (by show gf ≠ gd; omega) _, hR.done.setB k true, hR.far⟩
        have hl4 : Below w.heap.size w (wr.setCell ⟨gd, k, none⟩ (.bool true)) := below_set hl hgd.2.2.2.1 _
        have hcnt : cntB (fun j => boolAt wr gd j) m = cntB (upd dn k true) m + 1 := by rw [cnt_of hR.done, cntB_upd hdk hk]
        have hP4 := HP.out.keep hl4 hlt
        have HQ1 := Lib.hid hq1
        have HST := Lib.hid hstep
        have HCN := Lib.hid hcnt
        have hneq1 : ¬ (q1 : Int) = -1 := by omega
        have hneq2 : ((q1 : Int) != -1) = true := by simp
        clear hstep hcnt hmin hl' hdk hq1 ho hfk hP hgd
        go_wp2_with (fail)
        clear p3 co q0 q2 ca cd fd hR
        generalize (wr.setCell ⟨gd, k, none⟩ (.bool true)) = W at *
        have p3 : W.cell? ⟨p, 3, none⟩ = some (.slice (some ⟨go, 0, none⟩) m m) := hP4.box.cell 3
        have co := hP4.own.int hk
        have q0 : W.cell? ⟨q, 0, none⟩ = some (.slice (some ⟨ga, 0, none⟩) m m) := hR4.box.cell 0
        have ca := hR4.away.int hk
        rw [HQ1.out] at co
        have hk1 : (k : Int) < (m : Int) := by omega
        have hk2 : (k : Int) ≤ (m : Int) := by omega
        have hk3 : k ≤ m := by omega
        have HWI := Lib.hid (HW.out W.drew q ga gf gd q1 d f (upd dn k true) (d k) (k : Int) hl4.drew hR4.drew hq1n hAb)
        go_still_tail 17, (by kernel_rfl)
        change wpList _ _ _ _ _ W.drew
        go_wp2_with (first
          | (go_at_call 70; refine (HWI.out).mono ?_; rintro e w6 ⟨⟨_, rfl⟩, hR6, hl6⟩)
          | (go_at_call 71; refine (nearest_any _ _ _ _ _ _ _ _ _ _ hR6 hm).mono ?_; rintro e w7 ⟨⟨b7, l7, rfl, hN7⟩, rfl⟩))
        have hc7 : cntB (fun j => boolAt w6 gd j) m = cntB (upd dn k true) m := cnt_of hR6.done
        have HC7 := Lib.hid hc7
        have HN7 := Lib.hid (near_res hN7)
        have hl7 := hl4.drew.trans hl6
        clear hc7 hN7 hR4 hl4 hl6 hP4
        go_roundw
        case rel => exact ⟨_, _, _, _, b7, rfl, HST, HN7, hR6, hl7⟩
        case measure =>
          have h8 := HC7.out
          have h9 := HCN.out
          rw [h8, h9]
          omega

end Go.Proofs.Ytncmfjncdhhjoaa
