/- Do: keys and ticks. -/
import Derived.Test.YtpaemlkikkcjiaaWRun
import Derived.Test.YtpaemlkikkcjiaaWChk
namespace Go.Proofs.Ytpaemlkikkcjiaa
open Go.RowKit

theorem made_any (w : World) (p gl cl gr cr : Nat) (m : Mk) (S : Ms) (hM : MacM w p gl cl gr cr m S) (hk : 1 ≤ m.K) :
    Calls Try.prog 68 #[.pointer (some ⟨p, 0, none⟩)] w fun e w' => e = .returned (.bool true) ∧ w = w' := by
  have b2 := hM.b2
  have h1 : (0 : Int) < (m.K : Int) := by omega
  have h2 : 0 < m.K := by omega
  clear hM
  go_enter Try.func68, Try.ntmps68
  go_wp2
  go_ret
  exact ⟨rfl, rfl⟩
theorem hasKey_any (w : World) (p gl cl gr cr : Nat) (m : Mk) (S : Ms) (hM : MacM w p gl cl gr cr m S) (hk : m.K ≤ 64) (k : Int) :
    Calls Try.prog 69 #[.pointer (some ⟨p, 0, none⟩), .int .i64 k] w fun e w' => e = .returned (.bool (inB k 0 ((m.K : Int) - 1))) ∧ w = w' := by
  have b2 := hM.b2
  have hw : IntKind.i64.wrap ((m.K : Int) - 1) = (m.K : Int) - 1 := wrapI (by omega) (by omega)
  clear hM
  go_enter Try.func69, Try.ntmps69
  go_wp2_with (go_at_call 61; refine (within_any _ _ _ _).mono ?_; rintro e w1 ⟨rfl, rfl⟩)
  go_ret
  exact ⟨rfl, rfl⟩
theorem hasReg_any (w : World) (p gl cl gr cr : Nat) (m : Mk) (S : Ms) (hM : MacM w p gl cl gr cr m S) (hk : m.N ≤ 64) (k : Int) :
    Calls Try.prog 71 #[.pointer (some ⟨p, 0, none⟩), .int .i64 k] w fun e w' => e = .returned (.bool (inB k 0 ((m.N : Int) - 1))) ∧ w = w' := by
  have b3 := hM.b3
  have hw : IntKind.i64.wrap ((m.N : Int) - 1) = (m.N : Int) - 1 := wrapI (by omega) (by omega)
  clear hM
  go_enter Try.func71, Try.ntmps71
  go_wp2_with (go_at_call 61; refine (within_any _ _ _ _).mono ?_; rintro e w1 ⟨rfl, rfl⟩)
  go_ret
  exact ⟨rfl, rfl⟩
structure Ac where
  kind : Int
  key : Int
  depth : Int
  reg : Int
def acC (a : Ac) : List Value := [.int .i64 a.kind, .int .i64 a.key, .int .i64 a.depth, .int .i64 a.reg]
set_option maxHeartbeats 4000000 in
set_option maxRecDepth 100000 in
theorem do_key (w : World) (p gl cl gr cr k : Nat) (d r : Int) (m : Mk) (S : Ms) (hM : MacM w p gl cl gr cr m S) (hm : OkMk m) (hk : k < m.K) (hd : 0 ≤ d ∧ d ≤ 1000) :
    Calls Try.prog 41 #[.pointer (some ⟨p, 0, none⟩), .agg #[.int .i64 1, .int .i64 (k : Int), .int .i64 d, .int .i64 r]] w fun e w' => e = .returned (.tuple #[.slice none 0 0, .int .i64 0]) ∧ MacM w' p gl cl gr cr m (setTg S k d) ∧ Chg [gl] w w' := by
  have hb := below_new w (.cells #[.int .i64 1, .int .i64 (k : Int), .int .i64 d, .int .i64 r] 59)
  have hM1 := hM.keep hb
  have hq : Blk 59 (w.alloc (.cells #[.int .i64 1, .int .i64 (k : Int), .int .i64 d, .int .i64 r] 59)) w.heap.size [.int .i64 1, .int .i64 (k : Int), .int .i64 d, .int .i64 r] := Blk.new w 59 [_, _, _, _]
  have hmd := fun W (mm : MacM W p gl cl gr cr m S) => made_any W p gl cl gr cr m S mm hm.k1
  have hky := fun W (mm : MacM W p gl cl gr cr m S) => hasKey_any W p gl cl gr cr m S mm hm.k2 (k : Int)
  have f1 : inB (k : Int) 0 ((m.K : Int) - 1) = true := by unfold inB; simp; omega
  have f2 : inB d 0 1000 = true := by unfold inB; simp; omega
  have hwi := within_any d 0 1000
  rw [f1] at hky
  rw [f2] at hwi
  have hlk : (k : Int) < (m.K : Int) := by omega
  have hck := hm.k2
  have hgp := hM1.lt
  have hn : gl ≠ w.heap.size := by have := hM.lt; omega
  obtain ⟨q, hq'⟩ : ∃ q, q = w.heap.size := ⟨_, rfl⟩
  have HMD := Lib.hid hmd
  have HKY := Lib.hid hky
  have HWI := Lib.hid hwi
  have hc0 : Chg [gl] w (w.alloc (.cells #[.int .i64 1, .int .i64 (k : Int), .int .i64 d, .int .i64 r] 59)) := Chg.of_below hb
  go_enter Try.func41, Try.ntmps41
  go_upto_region 1 with (fail)
  rw [← hq'] at hq hn ⊢
  clear hq' hb hM hmd hky hwi f1 f2
  generalize w.alloc (.cells #[.int .i64 1, .int .i64 (k : Int), .int .i64 d, .int .i64 r] 59) = W at *
  have q0 : W.cell? ⟨q, 0, none⟩ = some (.int .i64 1) := hq.cell 0
  have q1 : W.cell? ⟨q, 1, none⟩ = some (.int .i64 (k : Int)) := hq.cell 1
  have q2 : W.cell? ⟨q, 2, none⟩ = some (.int .i64 d) := hq.cell 2
  have b2 := hM1.b2
  have t1 := hM1.tg hk
  have ft := hM1.fl' (k * 14 + 1)
  have HM1 := Lib.hid hM1
  have HC0 := Lib.hid hc0
  clear hM1 hc0
  go_wp2_with (first
    | (go_at_call 68; refine (HMD.out _ HM1.out).mono ?_; rintro e w1 ⟨rfl, rfl⟩)
    | (go_at_call 69; refine (HKY.out _ HM1.out).mono ?_; rintro e w1 ⟨rfl, rfl⟩)
    | (go_at_call 61; refine (HWI.out _).mono ?_; rintro e w1 ⟨rfl, rfl⟩))
  go_region
  all_goals
    go_wp2
    go_ret2
    exact ⟨rfl, (HM1.out.setT hk d).drew, (HC0.out.set (.inl (by simp)) _).drew⟩

def DoPost (w : World) (p gl cl gr cr : Nat) (m : Mk) (r : Ms × List Mo) (e : Ending) (w' : World) : Prop :=
  ∃ v, e = .returned (.tuple #[v, .int .i64 0]) ∧ w'.ownsRow w.heap.size 67 4 v r.2.length (evL r.2) ∧ MacM w' p gl cl gr cr m r.1 ∧ Chg [p, gl] w w'
set_option maxHeartbeats 4000000 in
set_option maxRecDepth 100000 in
theorem do_ticks (K : Nat) (hO : OrderK K) (w : World) (p gl cl gr cr t : Nat) (k r : Int) (m : Mk) (S : Ms) (hM : MacM w p gl cl gr cr m S) (hm : OkMk m) (hS : OkMs m S) (htk : 0 ≤ S.tk ∧ S.tk ≤ 100000000000000) (ht : t ≤ 10000)
    (hK : ∀ i, i < t → (tickF m (runF m i S).1).2.length ≤ K) :
    Calls Try.prog 41 #[.pointer (some ⟨p, 0, none⟩), .agg #[.int .i64 2, .int .i64 k, .int .i64 (t : Int), .int .i64 r]] w (DoPost w p gl cl gr cr m (runF m t S)) := by
  have hb := below_new w (.cells #[.int .i64 2, .int .i64 k, .int .i64 (t : Int), .int .i64 r] 59)
  have hM1 := hM.keep hb
  have hq : Blk 59 (w.alloc (.cells #[.int .i64 2, .int .i64 k, .int .i64 (t : Int), .int .i64 r] 59)) w.heap.size [.int .i64 2, .int .i64 k, .int .i64 (t : Int), .int .i64 r] := Blk.new w 59 [_, _, _, _]
  have hmd := fun W (mm : MacM W p gl cl gr cr m S) => made_any W p gl cl gr cr m S mm hm.k1
  have hru := fun W (mm : MacM W p gl cl gr cr m S) => run_any K hO W p gl cl gr cr t m S mm hm hS htk ht hK
  have f2 : inB (t : Int) 0 10000 = true := by unfold inB; simp; omega
  have hwi := within_any (t : Int) 0 10000
  rw [f2] at hwi
  obtain ⟨q, hq'⟩ : ∃ q, q = w.heap.size := ⟨_, rfl⟩
  have HMD := Lib.hid hmd
  have HRU := Lib.hid hru
  have HWI := Lib.hid hwi
  have hc0 : Chg [p, gl] w (w.alloc (.cells #[.int .i64 2, .int .i64 k, .int .i64 (t : Int), .int .i64 r] 59)) := Chg.of_below hb
  have HSZ := Lib.hid hb.size
  go_enter Try.func41, Try.ntmps41
  go_upto_region 1 with (fail)
  rw [← hq'] at hq ⊢
  clear hq' hb hM hmd hru hwi f2
  generalize runF m t S = R at *
  generalize w.alloc (.cells #[.int .i64 2, .int .i64 k, .int .i64 (t : Int), .int .i64 r] 59) = W at *
  have q0 : W.cell? ⟨q, 0, none⟩ = some (.int .i64 2) := hq.cell 0
  have q2 : W.cell? ⟨q, 2, none⟩ = some (.int .i64 (t : Int)) := hq.cell 2
  have HM1 := Lib.hid hM1
  have HC0 := Lib.hid hc0
  clear hM1 hc0
  go_wp2_with (first
    | (go_at_call 68; refine (HMD.out _ HM1.out).mono ?_; rintro e w1 ⟨rfl, rfl⟩)
    | (go_at_call 61; refine (HWI.out _).mono ?_; rintro e w1 ⟨rfl, rfl⟩)
    | (go_at_call 70; refine (HRU.out _ HM1.out).mono ?_; rintro e w1 ⟨v, rfl, hv, hm2, hc2⟩))
  go_ret2
  refine ⟨v, rfl, ?_, hm2, HC0.out.trans hc2⟩
  rcases hv with ⟨h1, h2 | ⟨g, cap, cur, e, h3, h4⟩⟩
  · exact ⟨h1, .inl h2⟩
  · exact ⟨h1, .inr ⟨g, cap, cur, e, Nat.le_trans HSZ.out h3, h4⟩⟩

/-! New. -/
structure Rg where
  pl : Int
  re : Int
  da : Int
  on : Bool
def rgC (x : Rg) : List Value := [.int .i64 x.pl, .int .i64 x.re, .int .i64 x.da, .bool x.on]
def rgL (l : List Rg) : List Value := l.flatMap rgC
theorem rgC_len (x : Rg) : (rgC x).length = 4 := rfl
theorem rgL_len (l : List Rg) : (rgL l).length = l.length * 4 := flat_len rgC_len l
theorem rgL_one (l : List Rg) : ∀ v ∈ rgL l, v.oneCell' = true := by
  intro v hv
  simp only [rgL, List.mem_flatMap, rgC, List.mem_cons, List.not_mem_nil, or_false] at hv
  obtain ⟨t, _, rfl | rfl | rfl | rfl⟩ := hv <;> rfl
def rg0 : Rg := ⟨0, 0, 0, false⟩
def okReg (x : Rg) : Bool := !(decide (x.da < 0) || (decide (x.re < x.da) || (decide (x.pl ≤ x.re) || decide (1000 < x.pl))))
def newB (keys sp : Int) (rs : List Rg) : Bool := inB keys 1 64 && (inB sp 1 1000 && (inB (rs.length : Int) 1 4 && rs.all okReg))
def mkOf (K : Nat) (sp : Int) (rs : List Rg) : Mk := ⟨K, rs.length, sp, fun r => (rs.getD r rg0).pl, fun r => (rs.getD r rg0).re, fun r => (rs.getD r rg0).da⟩
def msOf (rs : List Rg) : Ms := ⟨0, fun _ => 0, fun _ => 0, fun _ _ => ⟨false, false, 0⟩, fun r => (rs.getD r rg0).on⟩
theorem regL_of (K : Nat) (sp : Int) (rs : List Rg) : regL (mkOf K sp rs) (msOf rs) = rgL rs := range_flat rgC rs rg0
theorem newB_ok {keys sp : Int} {rs : List Rg} (h : newB keys sp rs = true) : ∃ K : Nat, keys = (K : Int) ∧ OkMk (mkOf K sp rs) := by
  unfold newB at h
  simp only [Bool.and_eq_true] at h
  obtain ⟨h1, h2, h3, h4⟩ := h
  have h1 := inB_t h1
  have h2 := inB_t h2
  have h3 := inB_t h3
  refine ⟨keys.toNat, by omega, ⟨?_, ?_, ?_, ?_, h2.1, h2.2, fun r hr => ?_⟩⟩
  · simp only [mkOf]; omega
  · simp only [mkOf]; omega
  · simp only [mkOf]; omega
  · simp only [mkOf]; omega
  · simp only [mkOf] at hr ⊢
    have hx := List.getElem?_eq_getElem hr
    have h5 := List.all_eq_true.1 h4 _ (List.mem_of_getElem? hx)
    have e : rs.getD r rg0 = rs[r] := by rw [List.getD_eq_getElem?_getD, hx]; rfl
    rw [e]
    unfold okReg at h5
    simp at h5
    omega
theorem msOf_ok (K : Nat) (sp : Int) (rs : List Rg) : OkMs (mkOf K sp rs) (msOf rs) := ⟨fun _ _ => by simp [msOf], fun _ _ => by simp [msOf]⟩
set_option maxHeartbeats 2000000 in
set_option maxRecDepth 100000 in
theorem areRegs_any (A : Option Addr) (c L : Nat) (rs : List Rg) (w : World) (hA : Vals w A (rgL rs)) (hL : L = rs.length) (hLs : L ≤ 1000000) :
    Calls Try.prog 66 #[.slice A L c] w fun e w' => e = .returned (.bool (rs.all okReg)) ∧ Below w.heap.size w w' := by
  have HL := Lib.hid hL
  have HA := Lib.hid hA
  clear hL hA
  go_enter Try.func66, Try.ntmps66
  go_wp2_with (fail)
  go_loopw [4, 7] (fun _ t wr => ∃ i : Nat, i ≤ L ∧ t = .int .i64 (i : Int) ∧ Hid ((rs.take i).all okReg = true) ∧ Below w.heap.size w wr) (fun _ t _ => L - (intOf t).toNat)
  case atStart => exact ⟨0, Nat.zero_le _, rfl, Lib.hid (by simp), Below.refl _ _⟩
  case round =>
    obtain ⟨i, hi, rfl, HAL, hb⟩ := hrel
    by_cases hlt : i < L
    · obtain ⟨x, hx⟩ : ∃ x, rs[i]? = some x := ⟨rs[i]'(by have := HL.out; omega), List.getElem?_eq_getElem _⟩
      obtain ⟨g, off, rfl, hg, hcell⟩ := (HA.out.keep hb) (by rw [rgL_len]; have := HL.out; omega)
      have hat : ∀ j, j < 4 → (rgL rs)[i * 4 + j]? = (rgC x)[j]? := fun j hj => flat_at rgC_len hx hj
      have m0 : wr.cell? ⟨g, off + i * 4, none⟩ = some (.int .i64 x.pl) := hcell _ _ (hat 0 (by omega))
      have m1 : wr.cell? ⟨g, off + i * 4 + 1, none⟩ = some (.int .i64 x.re) := by rw [Nat.add_assoc]; exact hcell _ _ (hat 1 (by omega))
      have m2 : wr.cell? ⟨g, off + i * 4 + 2, none⟩ = some (.int .i64 x.da) := by rw [Nat.add_assoc]; exact hcell _ _ (hat 2 (by omega))
      have m3 : wr.cell? ⟨g, off + i * 4 + 3, none⟩ = some (.bool x.on) := by rw [Nat.add_assoc]; exact hcell _ _ (hat 3 (by omega))
      have HX := Lib.hid hx
      clear hcell hat hx
      go_upto_region 4 with (fail)
      clear m0 m1 m2 m3
      have q5 : Blk 84 (wr.alloc (.cells #[.int .i64 x.pl, .int .i64 x.re, .int .i64 x.da, .bool x.on] 84)) wr.heap.size (rgC x) := Blk.new wr 84 _
      have hb2 := below_on hb hb.size (below_new wr (.cells #[.int .i64 x.pl, .int .i64 x.re, .int .i64 x.da, .bool x.on] 84))
      clear hb
      generalize wr.alloc (.cells #[.int .i64 x.pl, .int .i64 x.re, .int .i64 x.da, .bool x.on] 84) = V at *
      generalize wr.heap.size = q at *
      have e0 : V.cell? ⟨q, 0, none⟩ = some (.int .i64 x.pl) := q5.cell 0
      have e1 : V.cell? ⟨q, 1, none⟩ = some (.int .i64 x.re) := q5.cell 1
      have e2 : V.cell? ⟨q, 2, none⟩ = some (.int .i64 x.da) := q5.cell 2
      have hbad : okReg x = false → rs.all okReg = false := fun h => all_bad HX.out h
      have hgood : okReg x = true → (rs.take (i + 1)).all okReg = true := fun h => all_take_succ HAL.out HX.out h
      obtain ⟨pl, re, da, on⟩ := x
      simp only at e0 e1 e2
      have hok : okReg ⟨pl, re, da, on⟩ = !(decide (da < 0) || (decide (re < da) || (decide (pl ≤ re) || decide (1000 < pl)))) := rfl
      have HOK := Lib.hid hok
      clear hok
      have HBD := Lib.hid hbad
      have HGD := Lib.hid hgood
      clear hbad hgood q5
      by_cases t1 : da < 0
      · have he := HBD.out (by rw [HOK.out]; simp [t1])
        have HE := Lib.hid he
        clear he
        go_wp2
        go_ret
        exact ⟨by rw [HE.out]; rfl, hb2⟩
      · by_cases t2 : re < da
        · have he := HBD.out (by rw [HOK.out]; simp [t2])
          have HE := Lib.hid he
          clear he
          go_wp2
          go_ret
          exact ⟨by rw [HE.out]; rfl, hb2⟩
        · by_cases t3 : pl ≤ re
          · have he := HBD.out (by rw [HOK.out]; simp [t3])
            have HE := Lib.hid he
            clear he
            go_wp2
            go_ret
            exact ⟨by rw [HE.out]; rfl, hb2⟩
          · by_cases t4 : 1000 < pl
            · have he := HBD.out (by rw [HOK.out]; simp [t4])
              have HE := Lib.hid he
              clear he
              go_wp2
              go_ret
              exact ⟨by rw [HE.out]; rfl, hb2⟩
            · have hn := HGD.out (by rw [HOK.out]; simp [t1, t2, t3, t4])
              have HN := Lib.hid hn
              clear hn
              go_wp2
              go_roundw
              case rel => exact ⟨i + 1, by omega, by go_num, HN, hb2⟩
              case measure => simp [intOf]; omega
    · obtain rfl : i = L := by omega
      have he : rs.all okReg = true := by
        have h3 := HAL.out
        rw [HL.out, List.take_length] at h3
        exact h3
      have HE2 := Lib.hid he
      clear he
      go_wp2
      go_ret
      exact ⟨by rw [HE2.out]; rfl, hb⟩

theorem lev_made (K : Nat) (S : Ms) (h1 : ∀ k, S.ht k = 0) (h2 : ∀ k, S.tg k = 0) (h3 : ∀ k r, S.jk k r = ⟨false, false, 0⟩) : (madeCells zLev.cells (K * 14)).toList = levL K S := by
  apply List.ext_getElem?
  intro i
  have hz : zLev.cells.size = 14 := rfl
  have hl : (madeCells zLev.cells (K * 14)).toList.length = K * 14 := by unfold madeCells; simp
  rcases Nat.lt_or_ge i (K * 14) with hi | hi
  · have hd : i / 14 < K := Nat.div_lt_of_lt_mul (by rw [Nat.mul_comm]; exact hi)
    have hm : i % 14 < 14 := Nat.mod_lt _ (by omega)
    have e : i / 14 * 14 + i % 14 = i := by omega
    have h4 := levL_at (S := S) hd hm
    rw [e] at h4
    rw [h4]
    have h5 : (madeCells zLev.cells (K * 14)).toList[i]? = zLev.cells[i % 14]? := by
      unfold madeCells
      rw [hz]
      simp [hz, hi, hm]
    rw [h5]
    unfold levC jkC
    rw [h1, h2, h3, h3, h3, h3]
    have key : ∀ j : Fin 14, zLev.cells[(j : Nat)]? = ([Value.int .i64 0, .int .i64 0] ++ [Value.bool false, .bool false, .int .i64 0] ++ [Value.bool false, .bool false, .int .i64 0] ++ [Value.bool false, .bool false, .int .i64 0] ++ [Value.bool false, .bool false, .int .i64 0])[(j : Nat)]? := by
      intro j
      match j with
      | ⟨0, _⟩ => rfl
      | ⟨1, _⟩ => rfl
      | ⟨2, _⟩ => rfl
      | ⟨3, _⟩ => rfl
      | ⟨4, _⟩ => rfl
      | ⟨5, _⟩ => rfl
      | ⟨6, _⟩ => rfl
      | ⟨7, _⟩ => rfl
      | ⟨8, _⟩ => rfl
      | ⟨9, _⟩ => rfl
      | ⟨10, _⟩ => rfl
      | ⟨11, _⟩ => rfl
      | ⟨12, _⟩ => rfl
      | ⟨13, _⟩ => rfl
    exact key ⟨i % 14, hm⟩
  · rw [List.getElem?_eq_none (by rw [hl]; omega), List.getElem?_eq_none (by rw [levL_len]; exact hi)]
theorem makeL (K : Nat) (h : K ≤ 64) (w : World) : (Instr.makeSlice 91 (.int .i64 (K : Int)) (.int .i64 (K : Int))).run Try.prog w = .ok (.slice (some ⟨w.heap.size, 0, none⟩) K K) (w.alloc (.cells (madeCells zLev.cells (K * 14)) 112)) := by
  obtain ⟨i, hi, h1, h2, h3⟩ := info_parts infoLev
  have hb : (i.bytes : Int) * (K : Int) ≤ 281474976710656 := by rw [h3]; omega
  have hr := run_make (P := Try.prog) w 91 112 i zLev Try.underlying91 hi h1 .i64 .i64 K K (by omega) (by omega) hb (by omega)
  simp only [Int.toNat_natCast] at hr
  rw [h2] at hr
  exact hr
end Go.Proofs.Ytpaemlkikkcjiaa
