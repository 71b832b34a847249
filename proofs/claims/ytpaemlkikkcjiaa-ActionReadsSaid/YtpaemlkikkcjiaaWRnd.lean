/- (*raising).round: the ties, one after the other. -/
import Derived.Test.YtpaemlkikkcjiaaAMem
import Derived.BigRegion
namespace Go.Proofs.Ytpaemlkikkcjiaa
open Go.RowKit

/-- The place that was raised last, as the program says it. -/
def encR : Option Nat → Int
  | none => -2
  | some p => (p : Int) - 1
theorem tieStep_yes {i : Nat} {t : Te} {s : Ra} (h : s.h t.b < s.h t.a + t.l) : tieStep i t s = ⟨upd s.h t.b (s.h t.a + t.l), upd s.by_ t.b i, some t.b⟩ := by unfold tieStep; rw [if_pos h]
theorem tieStep_no {i : Nat} {t : Te} {s : Ra} (h : ¬ s.h t.b < s.h t.a + t.l) : tieStep i t s = s := by unfold tieStep; rw [if_neg h]
def RndPost (B : Nat) (w : World) (p gt ct gh gb n : Nat) (ts : List T3) (s : Ra) (e : Ending) (w' : World) : Prop :=
  e = .returned (.int .i64 (encR s.r)) ∧ RaM B w' p gt ct gh gb n ts s.h s.by_ ∧ Below B w w'

set_option maxHeartbeats 2000000 in
set_option maxRecDepth 100000 in
theorem round_any (B : Nat) (w : World) (p gt ct gh gb n L : Nat) (ts : List T3) (h : Nat → Int) (by_ : Nat → Nat) (C M : Int)
    (m : RaM B w p gt ct gh gb n ts h by_) (hB : B ≤ w.heap.size) (hL : L = ts.length) (ho : OkL n M ts) (hM : 0 ≤ M) (h0 : ∀ q, 0 ≤ h q) (hC : ∀ q, h q ≤ C) (hn : n ≤ 64) (hcap : C + (L : Int) * M ≤ 1000000000000000) (hM2 : M ≤ 1000000000) (hLs : L ≤ 100000) :
    Calls Try.prog 77 #[.pointer (some ⟨p, 0, none⟩)] w (RndPost B w p gt ct gh gb n ts (runT (teL ts) ts.length ⟨h, by_, none⟩)) := by
  have hz := m.cells
  obtain ⟨z0, _, _⟩ := hz
  rw [← hL] at z0
  have HM := Lib.hid m
  have HL := Lib.hid hL
  have HO := Lib.hid ho
  have hlo : ∀ i q, 0 ≤ (runT (teL ts) i ⟨h, by_, none⟩).h q := fun i q => Int.le_trans (h0 q) (run_up (teL ts) ⟨h, by_, none⟩ i q)
  have hhi : ∀ i q, (runT (teL ts) i ⟨h, by_, none⟩).h q ≤ C + (i : Int) * M := fun i q => run_cap hM (te_bounds ho).2.2 (s := ⟨h, by_, none⟩) hC i q
  have HLO := Lib.hid hlo
  have HHI := Lib.hid hhi
  have HC := Lib.hid hcap
  clear m hL ho hlo hhi hC h0 hcap
  go_enter Try.func77, Try.ntmps77
  go_wp2_with (fail)
  go_loopw [3, 4, 5, 6, 12] (fun r _ _ _ t wr => ∃ i : Nat, i ≤ L ∧ t = .int .i64 (i : Int) ∧ r = .int .i64 (encR (runT (teL ts) i ⟨h, by_, none⟩).r) ∧
    RaM B wr p gt ct gh gb n ts (runT (teL ts) i ⟨h, by_, none⟩).h (runT (teL ts) i ⟨h, by_, none⟩).by_ ∧ Below B w wr) (fun _ _ _ _ t _ => L - (intOf t).toNat)
  case atStart => exact ⟨0, Nat.zero_le _, rfl, rfl, HM.out, Below.refl _ _⟩
  case round =>
    clear z0 HM
    obtain ⟨i, hi, rfl, rfl, m, hb⟩ := hrel
    by_cases hlt : i < L
    · obtain ⟨t, ht⟩ : ∃ t, ts[i]? = some t := ⟨ts[i]'(by have := HL.out; omega), List.getElem?_eq_getElem _⟩
      obtain ⟨a1, a2, a3, a4, a5, a6⟩ := HO.out t (List.mem_of_getElem? ht)
      have hsucc := runT_succ (teL_at ht) ⟨h, by_, none⟩
      have h1 := HLO.out i (plc t.a)
      have h2 := HHI.out i (plc t.a)
      have h3 : C + (i : Int) * M ≤ 1000000000000000 := by
        have := HC.out
        have h4 : (i : Int) * M ≤ (L : Int) * M := Int.mul_le_mul_of_nonneg_right (by omega) hM
        omega
      generalize hs : runT (teL ts) i ⟨h, by_, none⟩ = s at *
      obtain ⟨gt', off, e1, hg, c0, c1, c2⟩ := m.ties.at_ ht
      injection e1 with e1
      injection e1 with e2 e3
      subst e2 e3
      obtain ⟨z0, z1, z2⟩ := m.cells
      have hlts := m.lt
      have HS := Lib.hid hsucc
      have HTT := Lib.hid ht
      have hsz := hb.size
      simp only [Nat.zero_add] at c0 c1 c2
      rw [← HL.out] at z0
      obtain ⟨ta, tb, tl⟩ := t
      simp only at a1 a2 a3 a4 a5 a6 c0 c1 c2 h1 h2
      obtain ⟨pa, hpa⟩ : ∃ pa, pa = plc ta := ⟨_, rfl⟩
      obtain ⟨pb, hpb⟩ : ∃ pb, pb = plc tb := ⟨_, rfl⟩
      have hpan : pa < n + 1 := by rw [hpa]; unfold plc; omega
      have hpbn : pb < n + 1 := by rw [hpb]; unfold plc; omega
      have wa : IntKind.i64.wrap (ta + 1) = (pa : Int) := by rw [wrapI (by omega) (by omega), hpa]; unfold plc; omega
      have wb : IntKind.i64.wrap (tb + 1) = (pb : Int) := by rw [wrapI (by omega) (by omega), hpb]; unfold plc; omega
      have etb : tb = (pb : Int) - 1 := by rw [hpb]; unfold plc; omega
      have ca := m.hs.int hpan
      have cb := m.hs.int hpbn
      rw [← hpa] at h1 h2
      have wl : IntKind.i64.wrap (s.h pa + tl) = s.h pa + tl := wrapI (by omega) (by omega)
      have hpan1 : (pa : Int) < ((n + 1 : Nat) : Int) := by omega
      have hpbn1 : (pb : Int) < ((n + 1 : Nat) : Int) := by omega
      have HPA := Lib.hid hpa
      have HPB := Lib.hid hpb
      have hta := Lib.hid etb
      clear hpa hpb ht hsucc etb hs
      -- into the new block
      go_wp2_with (fail)
      have hq : Blk 39 (wr.alloc (.cells #[.int .i64 ta, .int .i64 tb, .int .i64 tl] 39)) wr.heap.size [.int .i64 ta, .int .i64 tb, .int .i64 tl] := Blk.new wr 39 _
      have hbl := below_new wr (.cells #[.int .i64 ta, .int .i64 tb, .int .i64 tl] 39)
      have m2 := m.keep hbl
      have hb2 : Below B w (wr.alloc (.cells #[.int .i64 ta, .int .i64 tb, .int .i64 tl] 39)) := below_on hb (by omega) hbl
      have hqB : wr.heap.size ≠ gh ∧ wr.heap.size ≠ gb := by omega
      clear m hb hbl z0 z1 z2 c0 c1 c2 ca cb hlts
      generalize wr.alloc (.cells #[.int .i64 ta, .int .i64 tb, .int .i64 tl] 39) = W at *
      generalize wr.heap.size = q at *
      obtain ⟨z0, z1, z2⟩ := m2.cells
      rw [← HL.out] at z0
      have c0 : W.cell? ⟨q, 0, none⟩ = some (.int .i64 ta) := hq.cell 0
      have c1 : W.cell? ⟨q, 1, none⟩ = some (.int .i64 tb) := hq.cell 1
      have c2 : W.cell? ⟨q, 2, none⟩ = some (.int .i64 tl) := hq.cell 2
      have ca := m2.hs.int hpan
      have cb := m2.hs.int hpbn
      go_quiet (fail)
      go_wp2_with (fail)
      generalize nq = k1 at *
      by_cases hc : s.h pb < s.h pa + tl
      · have hd : decide (s.h pb < s.h pa + tl) = true := by simpa using hc
        have hst := tieStep_yes (i := i) (t := teOf ⟨ta, tb, tl⟩) (s := s) (by simp only [teOf]; rw [← HPA.out, ← HPB.out]; exact hc)
        have hst2 : tieStep i (teOf ⟨ta, tb, tl⟩) s = ⟨upd s.h pb (s.h pa + tl), upd s.by_ pb i, some pb⟩ := by rw [hst]; simp only [teOf]; rw [← HPA.out, ← HPB.out]
        have HST := Lib.hid hst2
        clear hst hst2 hc
        go_quiet (fail)
        go_wp2_with (fail)
        clear z0 z1 z2 c0 c1 c2 ca cb
        have m3 := (m2.drewN k1).drewN nq
        have hq3 := (hq.drewN k1).drewN nq
        have hb3 := below_drewN (below_drewN hb2 k1) nq
        clear m2 hq hb2
        generalize (W.drewN k1).drewN nq = V at *
        obtain ⟨z0, z1, z2⟩ := m3.cells
        have c1 : V.cell? ⟨q, 1, none⟩ = some (.int .i64 tb) := hq3.cell 1
        have ca := m3.hs.int hpbn
        have cb := m3.bs.int hpbn
        have f1 := m3.hs.frozen
        have f2 := m3.bs.frozen
        obtain ⟨a1, a2, a3, a4, a5, e1, e2, e3, e4, e5⟩ := m3.far
        go_region
        have m4 := ((m3.setH pb (s.h pa + tl)).setB pb i).drew
        have hq4 := ((hq3.setOther (a := ⟨gh, pb, none⟩) hqB.1 (.int .i64 (s.h pa + tl))).setOther (a := ⟨gb, pb, none⟩) hqB.2 (.int .i64 (i : Int))).drew
        have hb4 := (below_set (below_set hb3 a3 (i := pb) (.int .i64 (s.h pa + tl))) a4 (i := pb) (.int .i64 (i : Int))).drew
        clear m3 hq3 hb3 z0 z1 z2 c1 ca cb f1 f2
        generalize ((V.setCell ⟨gh, pb, none⟩ (.int .i64 (s.h pa + tl))).setCell ⟨gb, pb, none⟩ (.int .i64 (i : Int))).drew = U at *
        have c1 : U.cell? ⟨q, 1, none⟩ = some (.int .i64 tb) := hq4.cell 1
        have HB4 := Lib.hid hb4
        go_wp2_with (fail)
        go_roundw
        case rel => exact ⟨i + 1, by omega, by go_num, by rw [HS.out, HST.out]; simp only [encR]; rw [hta.out], by rw [HS.out, HST.out]; exact m4, HB4.out⟩
        case measure => simp [intOf]; omega
      · have hd : decide (s.h pb < s.h pa + tl) = false := by simpa using hc
        have hst := tieStep_no (i := i) (t := teOf ⟨ta, tb, tl⟩) (s := s) (by simp only [teOf]; rw [← HPA.out, ← HPB.out]; exact hc)
        have HST := Lib.hid hst
        clear hst hc
        go_quiet (fail)
        go_wp2_with (fail)
        go_roundw
        case rel => exact ⟨i + 1, by omega, by go_num, by rw [HS.out, HST.out], by rw [HS.out, HST.out]; exact m2.drewN (k1 + nq), below_drewN hb2 (k1 + nq)⟩
        case measure => simp [intOf]; omega
    · obtain rfl : i = L := by omega
      have e : runT (teL ts) i ⟨h, by_, none⟩ = runT (teL ts) ts.length ⟨h, by_, none⟩ := by rw [HL.out]
      have HE := Lib.hid e
      clear e
      go_wp2
      go_ret
      refine ⟨by rw [HE.out]; rfl, ?_, hb⟩
      rw [← HE.out]; exact m
end Go.Proofs.Ytpaemlkikkcjiaa
