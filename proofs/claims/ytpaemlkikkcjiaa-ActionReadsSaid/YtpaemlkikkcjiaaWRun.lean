/- run: some ticks. -/
import Derived.Test.YtpaemlkikkcjiaaWTick
import Derived.Test.YtpaemlkikkcjiaaWRest
import Derived.Test.YtpaemlkikkcjiaaWOrd
namespace Go.Proofs.Ytpaemlkikkcjiaa
open Go.RowKit

/-- n ticks, and their events in order. -/
def runF (m : Mk) : Nat → Ms → Ms × List Mo
  | 0, S => (S, [])
  | n + 1, S => ((tickF m (runF m n S).1).1, (runF m n S).2 ++ srtM (tickF m (runF m n S).1).2)
theorem evL_append (a b : List Mo) : evL (a ++ b) = evL a ++ evL b := by simp [evL]
theorem evL_len (l : List Mo) : (evL l).length = l.length * 4 := flat_len evC_len l
theorem evL_one (l : List Mo) : ∀ v ∈ evL l, v.oneCell' = true := by
  intro v hv
  simp only [evL, List.mem_flatMap, evC, List.mem_cons, List.not_mem_nil, or_false] at hv
  obtain ⟨t, _, rfl | rfl | rfl | rfl⟩ := hv <;> rfl
theorem run_ok {m : Mk} (hm : OkMk m) {S : Ms} (h : OkMs m S) (n : Nat) : OkMs m (runF m n S).1 := by
  induction n with
  | zero => exact h
  | succ n ih => exact tick_ok hm ih
theorem run_tk (m : Mk) (S : Ms) (n : Nat) : (runF m n S).1.tk = S.tk + n := by
  induction n with
  | zero => simp [runF]
  | succ n ih => simp only [runF]; rw [tick_tk, ih]; omega
/-! At rest nothing happens but time. -/
def later (S : Ms) (n : Nat) : Ms := { S with tk := S.tk + n }
theorem pass_rest (tk key reg f pl re da : Int) (j : Jk) : passJ tk f f pl re da j = j ∧ passN tk key reg f f pl re da j = [] := by
  have h1 : cP f f pl j = false := by
    unfold cP
    by_cases h : f < pl
    · have : ¬ pl ≤ f := by omega
      simp [this]
    · simp [h]
  have h2 : ∀ j, cR f f re j = false := by
    intro j; unfold cR
    by_cases h : re < f
    · have : ¬ f ≤ re := by omega
      simp [this]
    · simp [h]
  have h3 : ∀ j, cD f f da j = false := by
    intro j; unfold cD
    by_cases h : da < f
    · have : ¬ f ≤ da := by omega
      simp [this]
    · simp [h]
  unfold passJ passN j1 j2 j3 n1 n2 n3
  simp [h1, h2, h3]
theorem goTo_same {sp a : Int} (h : 1 ≤ sp) : goTo sp a a = a := by unfold goTo; omega
theorem setHt_same (S : Ms) (k : Nat) : setHt S k (S.ht k) = S := by
  unfold setHt
  cases S
  congr 1
  funext a
  split
  · rename_i e; rw [e]
  · rfl
theorem regs_rest (m : Mk) (k : Nat) (f : Int) (s : Ms × List Mo) (r : Nat) : regsF m k f f r s = s := by
  induction r with
  | zero => rfl
  | succ r ih =>
    simp only [regsF]
    rw [ih]
    split
    · rw [(pass_rest _ (k : Int) (r : Int) f (m.pl r) (m.re r) (m.da r) (s.1.jk k r)).1, (pass_rest _ (k : Int) (r : Int) f (m.pl r) (m.re r) (m.da r) (s.1.jk k r)).2, setJ_same, List.append_nil]
    · rfl
theorem keys_rest {m : Mk} (hs : 1 ≤ m.sp) (s : Ms × List Mo) (k : Nat) (h : ∀ j, j < k → s.1.ht j = s.1.tg j) : keysF m k s = s := by
  induction k with
  | zero => rfl
  | succ k ih =>
    simp only [keysF]
    rw [ih (fun j hj => h j (by omega))]
    unfold keyF
    rw [← h k (by omega), goTo_same hs, regs_rest, setHt_same]
theorem rest_ht {m : Mk} {S : Ms} (h : restB m S = true) : ∀ k, k < m.K → S.ht k = S.tg k := by
  intro k hk
  have := List.all_eq_true.1 h k (List.mem_range.2 hk)
  simpa [moveB] using this
theorem tick_rest {m : Mk} (hm : OkMk m) {S : Ms} (h : restB m S = true) : tickF m S = (later S 1, []) := by
  unfold tickF
  rw [keys_rest hm.s1 _ _ (fun j hj => rest_ht h j hj)]
  rfl
theorem run_rest {m : Mk} (hm : OkMk m) {S : Ms} (h : restB m S = true) (n : Nat) : runF m n S = (later S n, []) := by
  induction n with
  | zero => simp [runF, later]
  | succ n ih =>
    simp only [runF]
    rw [ih]
    have h2 : restB m (later S n) = true := h
    rw [tick_rest hm h2]
    simp only [srtM, List.foldl_nil, List.append_nil, later]
    congr 2
    omega
theorem run_add (m : Mk) (a b : Nat) (S : Ms) : runF m (a + b) S = ((runF m b (runF m a S).1).1, (runF m a S).2 ++ (runF m b (runF m a S).1).2) := by
  induction b with
  | zero => simp [runF]
  | succ b ih =>
    rw [← Nat.add_assoc]
    simp only [runF]
    rw [ih]
    simp only [List.append_assoc]
theorem tick_ev {m : Mk} (hm : OkMk m) (S : Ms) : (srtM (tickF m S).2).length ≤ 768 := by rw [srtM_len]; exact tick_len hm S
theorem run_len {m : Mk} (hm : OkMk m) (S : Ms) (n : Nat) : (runF m n S).2.length ≤ 768 * n := by
  induction n with
  | zero => simp [runF]
  | succ n ih =>
    simp only [runF, List.length_append]
    have := tick_ev hm (runF m n S).1
    omega

def RunPost (w : World) (p gl cl gr cr : Nat) (m : Mk) (r : Ms × List Mo) (e : Ending) (w' : World) : Prop :=
  ∃ v, e = .returned v ∧ w'.ownsRow w.heap.size 67 4 v r.2.length (evL r.2) ∧ MacM w' p gl cl gr cr m r.1 ∧ Chg [p, gl] w w'
set_option maxHeartbeats 4000000 in
set_option maxRecDepth 100000 in
theorem run_any (K : Nat) (hO : OrderK K) (w : World) (p gl cl gr cr t : Nat) (m : Mk) (S : Ms) (hM : MacM w p gl cl gr cr m S) (hm : OkMk m) (hS : OkMs m S) (htk : 0 ≤ S.tk ∧ S.tk ≤ 100000000000000) (ht : t ≤ 10000)
    (hK : ∀ i, i < t → (tickF m (runF m i S).1).2.length ≤ K) :
    Calls Try.prog 70 #[.pointer (some ⟨p, 0, none⟩), .int .i64 (t : Int)] w (RunPost w p gl cl gr cr m (runF m t S)) := by
  have hlt := hM.lt
  obtain ⟨i0, hi, hz0, hz1, hz2⟩ := info_parts infoEv
  have HM := Lib.hid hM
  clear hM
  have hk2 := hm.k2
  go_enter Try.func70, Try.ntmps70
  go_wp2_with (fail)
  go_loopw [5, 6, 8] (fun v _ x wr => ∃ i : Nat, i ≤ t ∧ x = .int .i64 (i : Int) ∧ wr.ownsRow w.heap.size 67 4 v (runF m i S).2.length (evL (runF m i S).2) ∧ MacM wr p gl cl gr cr m (runF m i S).1 ∧ Chg [p, gl] w wr) (fun _ _ x _ => t - (intOf x).toNat)
  case atStart => exact ⟨0, Nat.zero_le _, rfl, own_nil _ _ _ _, HM.out, Chg.refl _ _⟩
  case round =>
    clear HM
    obtain ⟨i, hi', rfl, ho, hM, hc⟩ := hrel
    by_cases hlti : i < t
    · have hok := run_ok hm hS i
      have hre := rest_any wr p gl cl gr cr m (runF m i S).1 hM (by omega)
      have htk1 := run_tk m S i
      cases hr : restB m (runF m i S).1 with
      | true =>
        rw [hr] at hre
        have hfin : runF m t S = (later (runF m i S).1 (t - i), (runF m i S).2) := by
          have h1 := run_add m i (t - i) S
          rw [show i + (t - i) = t by omega] at h1
          rw [h1, run_rest hm hr, List.append_nil]
        have HF := Lib.hid hfin
        have HRE := Lib.hid hre
        have hM2 := fun W (hb : Below wr.heap.size wr W) => hM.keep hb
        have HM2 := Lib.hid hM2
        have HO := Lib.hid ho
        generalize hs2 : runF m i S = s2 at *
        have hw1 : IntKind.i64.wrap ((t : Int) - (i : Int)) = (t : Int) - (i : Int) := wrapI (by omega) (by omega)
        have hw2 : IntKind.i64.wrap (s2.1.tk + ((t : Int) - (i : Int))) = s2.1.tk + ((t : Int) - (i : Int)) := wrapI (by omega) (by omega)
        clear hfin hre hM hM2 ho hr htk1
        go_wp2_with (go_at_call 82
                     refine (HRE.out).mono ?_
                     rintro e w1 ⟨rfl, hb1⟩
                     have hm1 := HM2.out _ hb1
                     have d0 := hm1.b0
                     have f0 := hm1.fp 0
                     have HM3 := Lib.hid hm1
                     clear hm1)
        go_ret
        have e : s2.1.tk + ((t : Int) - (i : Int)) = s2.1.tk + ((t - i : Nat) : Int) := by omega
        have hm4 := HM3.out.setTk (s2.1.tk + ((t : Int) - (i : Int)))
        refine ⟨_, rfl, ?_, ?_, ?_⟩
        · rw [HF.out]
          have c1 : Chg [p] wr (w1.setCell ⟨p, 0, none⟩ (.int .i64 (s2.1.tk + ((t : Int) - (i : Int))))) := (Chg.of_below hb1).set (.inl (by simp)) _
          exact c1.own HO.out (fun b hb hm => by have := (own_lt HO.out b hb).1; simp at hm; omega)
        · rw [HF.out]
          rw [e] at hm4
          rw [e]
          exact hm4
        · exact (hc.on hb1).set (.inl (by simp)) _
      | false =>
        rw [hr] at hre
        have HRE := Lib.hid hre
        have hM2 := fun W (hb : Below wr.heap.size wr W) => hM.keep hb
        have hru := fun W (mm : MacM W p gl cl gr cr m (runF m i S).1) => runTick_any K hO W p gl cl gr cr m (runF m i S).1 mm hm hok (by omega) (hK i hlti)
        have hsu : runF m (i + 1) S = ((tickF m (runF m i S).1).1, (runF m i S).2 ++ srtM (tickF m (runF m i S).1).2) := rfl
        have hl1 := run_len hm S i
        have hl2 := tick_ev hm (runF m i S).1
        have hl3 := srtM_len (tickF m (runF m i S).1).2
        have HSU := Lib.hid hsu
        have HM2 := Lib.hid hM2
        have HRU := Lib.hid hru
        generalize hs2 : runF m i S = s2 at *
        generalize hs3 : tickF m s2.1 = s3 at *
        rw [← hl3] at HRU
        have HO := Lib.hid ho
        have HL1 := Lib.hid hl1
        have HL2 := Lib.hid hl2
        clear hre hM hM2 hru hsu ho hl1 hl2 hl3 hok htk1 hs2 hs3 hr
        go_wp2_with (first
          | (go_at_call 82
             refine (HRE.out).mono ?_
             rintro e w1 ⟨rfl, hb1⟩)
          | (go_at_call 83
             refine (HRU.out _ (HM2.out _ hb1)).mono ?_
             rintro e w2 ⟨v2, rfl, hv2, hm2, hc2⟩
             obtain ⟨g, cap, rfl, hg, hcap, _, hlen, hH⟩ := hv2
             have hcw := (hc.on hb1).after hc2 (fun x hx => .inl hx)
             have ho2 : w2.ownsRow w.heap.size 67 4 u5 s2.2.length (evL s2.2) := (((Chg.of_below (L := [p, gl]) hb1).trans hc2).own HO.out (fun b hb hm => by have := (own_lt HO.out b hb).1; simp at hm; omega))
             have HO2 := Lib.hid ho2
             have HH := Lib.hid hH
             have hsz := hcw.size
             have HM3 := Lib.hid hm2
             have HLE := Lib.hid hlen
             clear hH hm2 hlen ho2)
          | (at_builtin
             refine wpList_append_own_at _ rfl _ _ 55 rfl w.heap.size 67 i0 zEv 4 32 Try.underlying55 hi hz0 hz1 hz2 rfl (by decide) _ _ _ rfl HO2.out ⟨g, 0, none⟩ (srtM s3.2).length cap (evL (srtM s3.2)) rfl HLE.out (vals_cells HH.out.vals) (evL_one _) ?c4 ?c5 hsz ?_))
        case c4 => have := HL1.out; have := HL2.out; unfold maxLen; omega
        case c5 => have := HL1.out; have := HL2.out; omega
        intro v' w3 hown hgr _ hat
        have hob := own_lt HO2.out
        have c3 : Chg u5.ownBlock.toList w2 w3 := (Chg.refl _ w2).grown hgr (fun b hb => .inl (by rw [hb]; simp))
        have hnp : ∀ x, x ∈ u5.ownBlock.toList → w.heap.size ≤ x := fun x hx => (hob x (by simpa using hx)).1
        have hm3 := HM3.out.chg c3 ⟨fun h => by have := hnp _ h; omega, fun h => by have := hnp _ h; omega, fun h => by have := hnp _ h; omega⟩
        have hc3 := hcw.after c3 (fun x hx => .inr (hnp x hx))
        have hlen2 : (runF m (i + 1) S).2.length = s2.2.length + (srtM s3.2).length := by rw [HSU.out]; simp
        have hev : evL (runF m (i + 1) S).2 = evL s2.2 ++ evL (srtM s3.2) := by rw [HSU.out, evL_append]
        rw [← hlen2, ← hev] at hown
        have hm3' : MacM w3 p gl cl gr cr m (runF m (i + 1) S).1 := by rw [HSU.out]; exact hm3
        have HR1 := Lib.hid hown
        have HR2 := Lib.hid hm3'
        clear hown hgr hat hob c3 hnp hm3 hlen2 hev hm3'
        go_wp2_with (fail)
        go_roundw
        case rel => exact ⟨i + 1, by omega, by go_num, HR1.out, HR2.out, hc3⟩
        case measure => simp [intOf]; omega
    · obtain rfl : i = t := by omega
      have HO := Lib.hid ho
      have HMM := Lib.hid hM
      clear ho hM
      go_wp2
      go_ret
      exact ⟨_, rfl, HO.out, HMM.out, hc⟩
end Go.Proofs.Ytpaemlkikkcjiaa
