/- Joined texts. -/
import Derived.Test.YtncmfjncdhhjoaaWPc2
import Derived.Test.YtncmfjncdhhjoaaWBest
import Derived.Test.YtncmfjncdhhjoaaMShi
import Derived.StillTailTactics
import Derived.Test.YtncmfjncdhhjoaaWAll
import Derived.Test.YtncmfjncdhhjoaaWHall
import Derived.Test.YtncmfjncdhhjoaaMLeast
import Derived.Test.YtncmfjncdhhjoaaWLiv
import Derived.Deep.AppendLies
import Derived.Deep.RegionHeld3
import Derived.Deep.RegionHeldLaw
import Derived.Test.YtncmfjncdhhjoaaWPrr
import Derived.Deep.Cut

/- Voice: the cheapest quills for the jacks, and how much is cut off each. -/
namespace Go.Proofs.Ytncmfjncdhhjoaa
open Go.RowKit

/-- How much is cut off the quill of jack i. -/
def offF (js qs : List J2) (to : Nat → Nat) (i : Nat) : Int := (qs.getD (to i) ⟨0, 0⟩).b - (js.getD i ⟨0, 0⟩).b
theorem offF_at {js qs : List J2} {to : Nat → Nat} {i : Nat} {j q : J2} (hj : js[i]? = some j) (hq : qs[to i]? = some q) : offF js qs to i = q.b - j.b := by
  unfold offF
  rw [List.getD_eq_getElem?_getD, List.getD_eq_getElem?_getD, hj, hq]
  rfl
structure VoiOk (w : World) (js qs : List J2) (bend trim : Int) (n m : Nat) (w' : World) (gt go : Nat) (to : Nat → Nat) : Prop where
  far : w.heap.size ≤ gt ∧ w.heap.size ≤ go
  res : Blk 3 w' gt (fl (fun i => (to i : Int)) n)
  offs : Blk 3 w' go (fl (offF js qs to) n)
  min : LexMin n m (cst (priL js qs bend trim)) to
def VoiPost (w : World) (js qs : List J2) (bend trim : Int) (n m : Nat) (e : Ending) (w' : World) : Prop :=
  Below w.heap.size w w' ∧ ((okS js qs bend trim = false ∧ e = .returned (.tuple #[.slice none 0 0, .slice none 0 0, .int .i64 0, .int .i64 1])) ∨
    (okS js qs bend trim = true ∧ (∀ τ, ¬ Asg n m (cst (priL js qs bend trim)) τ) ∧ e = .returned (.tuple #[.slice none 0 0, .slice none 0 0, .int .i64 0, .int .i64 6])) ∨
    (okS js qs bend trim = true ∧ ∃ gt go to, VoiOk w js qs bend trim n m w' gt go to ∧
      e = .returned (.tuple #[.slice (some ⟨gt, 0, none⟩) n n, .slice (some ⟨go, 0, none⟩) n n, .int .i64 (costN (cst (priL js qs bend trim)) to n), .int .i64 0])))
/-- While what is cut off is counted. -/
structure VoM (w w' : World) (gb gt q n i : Nat) (b : List Value) (to : Nat → Nat) (F : Nat → Int) : Prop where
  box : Blk 35 w' gb b
  res : Blk 3 w' gt (fl (fun i => (to i : Int)) n)
  cur : Blk 3 w' q (fl (fun y => if y < i then F y else 0) n)
  far : w.heap.size ≤ q ∧ gb < q ∧ gt < q
  bel : Below w.heap.size w w'
section
variable {w w' : World} {gb gt q n i : Nat} {b : List Value} {to : Nat → Nat} {F : Nat → Int}
theorem VoM.next (h : VoM w w' gb gt q n i b to F) : VoM w (w'.setCell ⟨q, i, none⟩ (.int .i64 (F i))) gb gt q n (i + 1) b to F := by
  refine ⟨h.box.setOther (a := ⟨q, i, none⟩) (Nat.ne_of_lt h.far.2.1) _, h.res.setOther (a := ⟨q, i, none⟩) (Nat.ne_of_lt h.far.2.2) _, ?_, h.far, below_set h.bel h.far.1 _⟩
  have := h.cur.setI i (F i)
  have e : upd (fun y => if y < i then F y else 0) i (F i) = fun y => if y < i + 1 then F y else 0 := by
    funext y
    by_cases e : y = i
    · subst e; rw [upd_at, if_pos (by omega)]
    · rw [upd_ne e]
      by_cases h : y < i
      · rw [if_pos h, if_pos (by omega)]
      · rw [if_neg h, if_neg (by omega)]
  rwa [e] at this
theorem VoM.alloc (h : VoM w w' gb gt q n i b to F) (o : Obj) : VoM w (w'.alloc o) gb gt q n i b to F := ⟨h.box.alloc o, h.res.alloc o, h.cur.alloc o, h.far, h.bel.alloc h.bel.size o⟩
theorem VoM.drewN (h : VoM w w' gb gt q n i b to F) (z : Nat) : VoM w (w'.drewN z) gb gt q n i b to F := ⟨h.box.drewN z, h.res.drewN z, h.cur.drewN z, h.far, below_drewN h.bel z⟩
end

theorem results_tmp4 {fn : Func} {t u v x : Tmp} (h : fn.results = #[.tmp t, .tmp u, .tmp v, .tmp x]) (tmps : Array Value) (P : Program) (w : World) :
    (results fn tmps).run P w = .ok (.tuple #[tmps.getD t undef, tmps.getD u undef, tmps.getD v undef, tmps.getD x undef]) w := by
  simp [results, h]
set_option maxHeartbeats 8000000 in
set_option maxRecDepth 100000 in
theorem voice_any (A A' : Option Addr) (c c' n m : Nat) (js qs : List J2) (bend trim : Int) (w : World) (hA : JAt w A js) (hA' : JAt w A' qs) (hn : n = js.length) (hm : m = qs.length) :
    Calls Try.prog 46 #[.slice A n c, .slice A' m c', .int .i64 bend, .int .i64 trim] w (VoiPost w js qs bend trim n m) := by
  have htb := mtable_any A A' c c' n m js qs bend trim w hA hA' hn hm
  have hkp := fun W (h : Below w.heap.size w W) => (⟨Vals.keep hA h, Vals.keep hA' h⟩ : JAt W A js ∧ JAt W A' qs)
  have HKP := Lib.hid hkp
  have HTB := Lib.hid htb
  have HN := Lib.hid hn
  have HM := Lib.hid hm
  clear htb hkp hA hA' hn hm
  go_enter Try.func46, Try.ntmps46
  go_wp2_with (fail)
  refine (HTB.out).mono ?_
  rintro e w1 ⟨hl1, ⟨hok, rfl⟩ | ⟨hok, g, gs, rfl, hT⟩⟩
  · have HF : Hid (VoiPost w js qs bend trim n m (.returned (.tuple #[.slice none 0 0, .slice none 0 0, .int .i64 0, .int .i64 1])) w1) := Lib.hid ⟨hl1, .inl ⟨hok, rfl⟩⟩
    clear hl1 hok
    go_wp2_with (fail)
    (try simp only [Exit.inBlock, Exit.then]); refine bodyPost_ret (results_tmp4 rfl _ _ _) rfl ?_
    exact HF.out
  · have hgd := pri_good hok
    rw [← HN.out, ← HM.out] at hgd
    obtain ⟨⟨d1, d2, d3⟩, -⟩ := okS_t hok
    rw [← HN.out, ← HM.out] at d2
    rw [← HN.out] at d1
    rw [← HM.out] at d3
    have hTb := hT.tab hgd
    have hbe := best_any (some ⟨g, 0, none⟩) n n (priL js qs bend trim) w1 hTb hgd.rows.symm
    have hck : chkT (priL js qs bend trim) = true := chkT_of d1 d2 d3 hgd
    have HBE := Lib.hid hbe
    have HT := Lib.hid hT
    have HG := Lib.hid hgd
    have HOK := Lib.hid hok
    have HCK := Lib.hid hck
    have HMR := makeRowM n (by omega)
    clear hbe hT hTb hok hgd hck
    go_wp2_with (fail)
    refine (HBE.out).mono ?_
    intro e w2 hpost
    have hl2 := hpost.1
    have hl12 := hl1.trans (hl2.mono hl1.size)
    rcases hpost.2 with ⟨hchk, rfl⟩ | ⟨n', m', _, hn', hG, _, hno, rfl⟩ | ⟨n', m', gt, gu, gv, to, u, v, _, hn', BO, rfl⟩
    · rw [HCK.out] at hchk
      exact absurd hchk (by decide)
    · obtain rfl : n' = n := by rw [← hn', HG.out.rows]
      obtain rfl : m' = m := by
        obtain ⟨l, hl, hm1⟩ := HG.out.row (i := 0) (by omega)
        exact (hG.cols 0 l hl).symm.trans hm1
      have HF : ∀ o, Hid (VoiPost w js qs bend trim n' m' (.returned (.tuple #[.slice none 0 0, .slice none 0 0, .int .i64 0, .int .i64 6])) (w2.alloc o)) := fun o => Lib.hid ⟨hl12.alloc hl12.size o, .inr (.inl ⟨HOK.out, hno, rfl⟩)⟩
      clear hpost hl2 hn' hG hno hl12 hl1
      unfold zeroM
      go_wp2_with (fail)
      (try simp only [Exit.inBlock, Exit.then]); refine bodyPost_ret (results_tmp4 rfl _ _ _) rfl ?_
      exact (HF _).out
    · obtain rfl : n = n' := by rw [← hn', HG.out.rows]
      obtain rfl : m = m' := by
        obtain ⟨l, hl, hm1⟩ := HG.out.row (i := 0) (by omega)
        exact hm1.symm.trans (BO.good.cols 0 l hl)
      have hres := BO.res
      have hmin := BO.min
      have hfar := BO.far.1
      obtain ⟨C, hC⟩ : ∃ C, C = costN (cst (priL js qs bend trim)) to n := ⟨_, rfl⟩
      obtain ⟨bl, hbl⟩ : ∃ bl : List Value, bl = [.slice (some ⟨gt, 0, none⟩) n n, .slice (some ⟨gu, 0, none⟩) n n, .slice (some ⟨gv, 0, none⟩) m m, .int .i64 C] := ⟨_, rfl⟩
      have hbn : Blk 35 (w2.alloc (.cells #[.slice (some ⟨gt, 0, none⟩) n n, .slice (some ⟨gu, 0, none⟩) n n, .slice (some ⟨gv, 0, none⟩) m m, .int .i64 C] 35)) w2.heap.size bl := by rw [hbl]; exact Blk.new w2 35 _
      have hr1 := hres.alloc (.cells #[.slice (some ⟨gt, 0, none⟩) n n, .slice (some ⟨gu, 0, none⟩) n n, .slice (some ⟨gv, 0, none⟩) m m, .int .i64 C] 35)
      have hl3 := hl12.alloc hl12.size (.cells #[.slice (some ⟨gt, 0, none⟩) n n, .slice (some ⟨gu, 0, none⟩) n n, .slice (some ⟨gv, 0, none⟩) m m, .int .i64 C] 35)
      have hgt2 : gt < w2.heap.size := hres.lt
      rw [← hC]
      have HBX := Lib.hid hbn
      have HR := Lib.hid hr1
      have HL := Lib.hid hl3
      have HMIN := Lib.hid hmin
      have HC := Lib.hid hC
      have HBL := Lib.hid hbl
      have hwg : w.heap.size ≤ gt := Nat.le_trans hl1.size hfar
      clear hpost hn' BO hres hmin hfar hbn hr1 hl3 hC hbl hl1 hl2 hl12 HBE HTB HCK HT
      go_upto_region 7 with (fail)
      obtain ⟨gb, hgb⟩ : ∃ q, q = w2.heap.size := ⟨_, rfl⟩
      rw [← hgb] at HBX hgt2 ⊢
      clear hgb
      generalize w2.alloc (.cells #[.slice (some ⟨gt, 0, none⟩) n n, .slice (some ⟨gu, 0, none⟩) n n, .slice (some ⟨gv, 0, none⟩) m m, .int .i64 C] 35) = W3 at *
      have HV0 : Hid (VoM w (W3.alloc (.cells (Array.replicate n (.int .i64 0)) 3)) gb gt W3.heap.size n 0 bl to (offF js qs to)) := Lib.hid (by
        refine ⟨HBX.out.alloc _, HR.out.alloc _, ?_, ⟨HL.out.size, HBX.out.lt, HR.out.lt⟩, HL.out.alloc HL.out.size _⟩
        have e : fl (fun y => if y < 0 then offF js qs to y else 0) n = List.replicate n (.int .i64 0) := by
          rw [← fl_const]
          exact fl_congr (fun y _ => by rw [if_neg (by omega)])
        rw [e]
        have := Blk.new W3 3 (List.replicate n (.int .i64 0))
        simpa using this)
      clear HBX HR HL
      go_upto_region 8 with (fail)
      obtain ⟨q, hq⟩ : ∃ q, q = W3.heap.size := ⟨_, rfl⟩
      rw [← hq] at HV0 ⊢
      clear hq
      generalize W3.alloc (.cells (Array.replicate n (.int .i64 0)) 3) = W4 at *
      go_wp2_with (fail)
      go_loopw [42, 16, 17] (fun t _ _ wr => ∃ i : Nat, i ≤ n ∧ t = .int .i64 (i : Int) ∧ Hid (VoM w wr gb gt q n i bl to (offF js qs to))) (fun t _ _ _ => n - (intOf t).toNat)
      case atStart => exact ⟨0, Nat.zero_le _, rfl, HV0⟩
      case round =>
        clear HV0
        obtain ⟨i, hin, rfl, HV⟩ := hrel
        by_cases hlt : i < n
        · have hlt2 : (i : Int) < (n : Int) := by omega
          obtain ⟨g1, off, x, rfl, hg, hx, hc0, hc1⟩ := JAt.at_ (HKP.out wr HV.out.bel).1 (i := i) (by have := HN.out; omega)
          have htm : to i < m := (HMIN.out.asg.ok i hlt).1
          obtain ⟨g2, off2, y, rfl, hg2, hy, hc2, hc3⟩ := JAt.at_ (HKP.out wr HV.out.bel).2 (i := to i) (by have := HM.out; omega)
          obtain ⟨ja, jb⟩ := x
          obtain ⟨qa, qb⟩ := y
          simp only at hc0 hc1 hc2 hc3
          obtain ⟨-, -, -, hj, hqq⟩ := okS_t HOK.out
          have hjr := (okJ_t (hj _ (List.mem_of_getElem? hx))).2
          have hqr := (okJ_t (hqq _ (List.mem_of_getElem? hy))).2
          simp only at hjr hqr
          have hoff := offF_at (to := to) hx hy
          simp only at hoff
          obtain ⟨dv, hdv⟩ : ∃ d, d = offF js qs to i := ⟨_, rfl⟩
          have w3 : IntKind.i64.wrap (qb - jb) = dv := by rw [wrapI (by omega) (by omega), hdv]; exact hoff.symm
          have hV1 := HV.out.alloc (.cells #[.int .i64 ja, .int .i64 jb] 68)
          have hjx : Blk 68 (wr.alloc (.cells #[.int .i64 ja, .int .i64 jb] 68)) wr.heap.size [.int .i64 ja, .int .i64 jb] := Blk.new wr 68 _
          have hqc : (wr.alloc (.cells #[.int .i64 ja, .int .i64 jb] 68)).cell? ⟨g2, off2 + to i * 2 + 1, none⟩ = some (.int .i64 qb) := ((below_new wr (.cells #[.int .i64 ja, .int .i64 jb] 68)).cell (p := ⟨g2, off2 + to i * 2 + 1, none⟩) hg2).trans hc3
          have htI : (to i : Int) < (m : Int) := by omega
          have ht0 : (0 : Int) ≤ (to i : Int) := by omega
          have HDV := Lib.hid hdv
          have HV1 := Lib.hid hV1
          have HJX := Lib.hid hjx
          clear hx hy hj hqq hjr hqr hoff hdv hV1 hjx hc2 hc3 HV
          go_upto_region 11 with (fail)
          obtain ⟨jq, hjq⟩ : ∃ q, q = wr.heap.size := ⟨_, rfl⟩
          rw [← hjq] at HJX ⊢
          clear hjq hc0 hc1
          generalize wr.alloc (.cells #[.int .i64 ja, .int .i64 jb] 68) = V at *
          have x0 : V.cell? ⟨gb, 0, none⟩ = some (.slice (some ⟨gt, 0, none⟩) n n) := by rw [HV1.out.box.cell, HBL.out]; rfl
          have x1 : V.cell? ⟨gt, i, none⟩ = some (.int .i64 (to i : Int)) := by rw [HV1.out.res.cell, fl_at hlt]
          have x2 : V.cell? ⟨jq, 1, none⟩ = some (.int .i64 jb) := HJX.out.cell 1
          have x3 : V.cell? ⟨q, i, none⟩ = some (.int .i64 0) := by rw [HV1.out.cur.cell, fl_at hlt, if_neg (by omega)]
          have x4 := HV1.out.cur.frozen
          have HN1 : Hid (VoM w (V.drew.setCell ⟨q, i, none⟩ (.int .i64 dv)) gb gt q n (i + 1) bl to (offF js qs to)) := Lib.hid (by rw [HDV.out]; exact (HV1.out.drewN 1).next)
          clear HV1 HJX
          go_still_tail 15, (by kernel_rfl)
          change wpList _ _ _ _ _ V.drew
          go_wp2_with (fail)
          go_roundw
          case rel => exact ⟨i + 1, by omega, by go_num, HN1⟩
          case measure => simp [intOf]; omega
        · obtain rfl : i = n := by omega
          have y0 : wr.cell? ⟨gb, 0, none⟩ = some (.slice (some ⟨gt, 0, none⟩) i i) := by rw [HV.out.box.cell, HBL.out]; rfl
          have y3 : wr.cell? ⟨gb, 3, none⟩ = some (.int .i64 C) := by rw [HV.out.box.cell, HBL.out]; rfl
          have HF : ∀ z, Hid (VoiPost w js qs bend trim i m (.returned (.tuple #[.slice (some ⟨gt, 0, none⟩) i i, .slice (some ⟨q, 0, none⟩) i i, .int .i64 C, .int .i64 0])) (wr.drewN z)) := fun z => Lib.hid (by
            have h := HV.out.drewN z
            refine ⟨h.bel, .inr (.inr ⟨HOK.out, gt, q, to, ⟨⟨hwg, h.far.1⟩, h.res, ?_, HMIN.out⟩, by rw [HC.out]⟩)⟩
            have := h.cur
            rwa [fl_congr (f := fun y => if y < i then offF js qs to y else 0) (g := offF js qs to) (fun y hy => by rw [if_pos hy])] at this)
          clear HV
          go_wp2_with (fail)
          go_quiet (fail)
          go_wp2
          (try simp only [Exit.inBlock, Exit.then]); refine bodyPost_ret (results_tmp4 rfl _ _ _) rfl ?_
          exact (HF _).out
end Go.Proofs.Ytncmfjncdhhjoaa

/- Plain: rows look for columns one after the other; how many find one; all of them do exactly if there is an assignment. -/
namespace Go.Proofs.Ytncmfjncdhhjoaa

/-- The first i rows have looked for columns; c of them have one. -/
inductive Mst (m : Nat) (may : Nat → Nat → Bool) : Nat → (Nat → Int) → Nat → Prop
  | zero : Mst m may 0 (fun _ => -1) 0
  | hit {i c : Nat} {o o' : Nat → Int} {s : Nat → Bool} : Mst m may i o c → Room m may i 0 o (fun _ => false) true o' s → Mst m may (i + 1) o' (c + 1)
  | miss {i c : Nat} {o : Nat → Int} {s : Nat → Bool} : Mst m may i o c → Room m may i 0 o (fun _ => false) false o s → Mst m may (i + 1) o c

/-- A row that is stuck while all before it have columns. -/
def StuckAt (m : Nat) (may : Nat → Nat → Bool) (j : Nat) : Prop := ∃ (o : Nat → Int) (s : Nat → Bool), PairSt m may o j ∧ Room m may j 0 o (fun _ => false) false o s
theorem Mst.part {m : Nat} {may : Nat → Nat → Bool} {i c : Nat} {o : Nat → Int} (h : Mst m may i o c) : (c = i ∧ PairSt m may o i) ∨ (c < i ∧ ∃ j, j < i ∧ StuckAt m may j) := by
  induction h with
  | zero => exact .inl ⟨rfl, pair_start m may⟩
  | hit h R ih =>
    rcases ih with ⟨rfl, S⟩ | ⟨h1, j, h2, h3⟩
    · exact .inl ⟨rfl, S.add R⟩
    · exact .inr ⟨by omega, j, by omega, h3⟩
  | miss h R ih =>
    rename_i i c o s
    rcases ih with ⟨rfl, S⟩ | ⟨h1, j, h2, h3⟩
    · exact .inr ⟨by omega, _, Nat.lt_succ_self _, o, s, S, R⟩
    · exact .inr ⟨by omega, j, by omega, h3⟩
theorem Mst.det {m : Nat} {may : Nat → Nat → Bool} {i c1 c2 : Nat} {o1 o2 : Nat → Int} (h : Mst m may i o1 c1) (g : Mst m may i o2 c2) : o1 = o2 ∧ c1 = c2 := by
  induction h generalizing o2 c2 with
  | zero => cases g; exact ⟨rfl, rfl⟩
  | hit h R ih =>
    cases g with
    | hit g R2 =>
      obtain ⟨rfl, rfl⟩ := ih g
      obtain ⟨_, rfl, _⟩ := R.det R2
      exact ⟨rfl, rfl⟩
    | miss g R2 =>
      obtain ⟨rfl, rfl⟩ := ih g
      exact absurd (R.det R2).1 (by simp)
  | miss h R ih =>
    cases g with
    | hit g R2 =>
      obtain ⟨rfl, rfl⟩ := ih g
      exact absurd (R.det R2).1 (by simp)
    | miss g R2 => exact ih g
theorem Mst.dom {m : Nat} {may : Nat → Nat → Bool} {i c : Nat} {o : Nat → Int} (h : Mst m may i o c) : ∀ j, j < m → -1 ≤ o j := by
  induction h with
  | zero => intro j _; show (-1 : Int) ≤ -1; omega
  | hit h R ih => exact R.dom ih
  | miss h R ih => exact ih
/-- Who is stuck hinders every assignment. -/
theorem StuckAt.no {n m j : Nat} {c : Nat → Nat → Int} (h : StuckAt m (mayC c) j) (hj : j < n) (τ : Nat → Nat) : ¬ Asg n m c τ := fun A => by
  obtain ⟨o, s, S, R⟩ := h
  have hm : ∀ q, q < n → mayC c q (τ q) = true := fun q hq => by
    have := (A.ok q hq).2
    unfold mayC
    simp; omega
  obtain ⟨v1, v2⟩ := R.vain rfl
  have hr : ¬ Has m o j := fun hh => by have := (S.rows j).1 hh; omega
  have hq : ∀ q : Nat, (∃ k, k < m ∧ s k = true ∧ o k = (q : Int)) → q < j := fun q ⟨k, hk, _, e⟩ => (S.rows q).1 ⟨k, hk, e⟩
  refine stuck (X := fun k => s k = true) (may := mayC c) (o := o) (r := j) (τ := τ) (fun k hk hs => v1 k hk rfl hs) S.inj hr ⟨(A.ok j hj).1, v2 _ (Nat.zero_le _) (A.ok j hj).1 (hm j hj)⟩ ?_ ?_
  · intro q hh
    have := hq q hh
    exact ⟨(A.ok q (by omega)).1, hm q (by omega)⟩
  · intro p q hp hq' e
    have hb : ∀ p : Nat, (p = j ∨ ∃ k, k < m ∧ s k = true ∧ o k = (p : Int)) → p < n := by
      rintro p (rfl | hh)
      · exact hj
      · have := hq p hh; omega
    exact A.inj p q (hb p hp) (hb q hq') e
/-- All rows have columns: that is an assignment. -/
theorem PairSt.asg {n m : Nat} {c : Nat → Nat → Int} {o : Nat → Int} (S : PairSt m (mayC c) o n) (hc : ∀ i k, i < n → k < m → -1 ≤ c i k) : ∃ τ, Asg n m c τ := by
  classical
  have h : ∀ i, i < n → ∃ k, k < m ∧ o k = ((i : Nat) : Int) := fun i hi => (S.rows i).2 hi
  let τ : Nat → Nat := fun i => if hi : i < n then (h i hi).choose else 0
  have hs : ∀ i, i < n → τ i < m ∧ o (τ i) = (i : Int) := fun i hi => by
    simp only [τ, dif_pos hi]
    exact (h i hi).choose_spec
  refine ⟨τ, ⟨fun i hi => ?_, fun i j hi hj e => ?_⟩⟩
  · obtain ⟨h1, h2⟩ := hs i hi
    have h3 := S.edge _ h1 i h2
    unfold mayC at h3
    have h4 := hc i (τ i) hi h1
    refine ⟨h1, ?_⟩
    simp at h3
    omega
  · have h1 := (hs i hi).2
    have h2 := (hs j hj).2
    rw [e] at h1
    omega
end Go.Proofs.Ytncmfjncdhhjoaa

/- Most: how many rows can have columns at the same time. -/
namespace Go.Proofs.Ytncmfjncdhhjoaa
open Go.RowKit

theorem Mst.own {m : Nat} {may : Nat → Nat → Bool} {i c : Nat} {o : Nat → Int} (h : Mst m may i o c) : Inj m o ∧ ∀ q, Has m o q → q < i := by
  induction h with
  | zero =>
    refine ⟨fun i j _ _ _ h => ?_, fun q ⟨j, _, e⟩ => ?_⟩
    · (try dsimp only at h); omega
    · (try dsimp only at e); omega
  | hit h R ih =>
    rename_i i c o o' s
    obtain ⟨h1, h2⟩ := ih
    have A := R.found h1 (fun hh => by have := h2 i hh; omega)
    refine ⟨A.inj, fun q hq => ?_⟩
    rcases (A.rows q).1 hq with h3 | rfl
    · have := h2 q h3; omega
    · omega
  | miss h R ih =>
    refine ⟨ih.1, fun q hq => ?_⟩
    have := ih.2 q hq; omega
theorem unhide {p : Prop} (h : Hid p) : p := h.out
def MostPost (w : World) (ls : List (List Int)) (e : Ending) (w' : World) : Prop :=
  Below w.heap.size w w' ∧ ((chkT ls = false ∧ e = .returned (.tuple #[.int .i64 0, .int .i64 1])) ∨
    (∃ n m o c, chkT ls = true ∧ ls.length = n ∧ Good n m ls ∧ (1 ≤ n ∧ n ≤ m ∧ m ≤ 64) ∧ Mst m (mayC (cst ls)) n o c ∧ e = .returned (.tuple #[.int .i64 (c : Int), .int .i64 0])))

theorem Mst.le {m : Nat} {may : Nat → Nat → Bool} {i c : Nat} {o : Nat → Int} (h : Mst m may i o c) : c ≤ i := by
  induction h with
  | zero => exact Nat.le_refl _
  | hit h R ih => omega
  | miss h R ih => omega
set_option maxHeartbeats 4000000 in
set_option maxRecDepth 100000 in
theorem most_any (A : Option Addr) (c L : Nat) (ls : List (List Int)) (w : World) (T : Tab w.heap.size w A ls) (hL : L = ls.length) :
    Calls Try.prog 35 #[.slice A L c] w (MostPost w ls) := by
  have hck := check_any w.heap.size A c L ls w T hL
  cases hchk : chkT ls with
  | false =>
    have hce : ckE ls = 1 := by unfold ckE; rw [hchk]; rfl
    rw [hce] at hck
    have HCK := Lib.hid hck
    clear hck hL T hce
    go_enter Try.func35, Try.ntmps35
    go_wp2_with (go_at_call 25; refine (HCK.out).mono ?_; rintro e w1 ⟨rfl, rfl⟩)
    go_ret2
    exact ⟨Below.refl _ _, .inl ⟨hchk, rfl⟩⟩
  | true =>
    have hce : ckE ls = 0 := by unfold ckE; rw [hchk]; rfl
    rw [hce] at hck
    obtain ⟨n, m, hn, hm, h1, h2, h3, G⟩ := chkT_good hchk
    have hLn : L = n := by omega
    subst hLn
    have hal := allowed_any w.heap.size L m c A ls w G T (Nat.le_refl _) h1
    have HCK := Lib.hid hck
    have HG := Lib.hid G
    have HG9 := Lib.hid G
    have HT := Lib.hid T
    have HCH := Lib.hid hchk
    have HNN := Lib.hid hn
    have HAL := Lib.hid hal
    clear hck hL T hce hn hm G hchk hal
    go_enter Try.func35, Try.ntmps35
    go_wp2_with (first
      | (go_at_call 25; refine (HCK.out).mono ?_; rintro e w1 ⟨rfl, rfl⟩)
      | (go_at_call 60; refine (HAL.out).mono ?_; rintro e w2 ⟨b, rfl, hb1, hb2, hb3, hl2⟩)
      | (go_at_call 59; refine (newPairing_any _ _ _ m (by omega) h3 _).mono ?_; rintro e w3 ⟨pp, ho, hk, hs, rfl, hPa, hl3⟩))
    have hmay : ∀ W, Below w2.heap.size w2 W → ∀ row k, row < L → k < m → Calls Try.prog 76 #[.int .i64 ((row : Nat) : Int), .int .i64 ((k : Nat) : Int), .pointer (some ⟨b, 0, none⟩)] W fun e w' => e = .returned (.bool (mayC (cst ls) row k)) ∧ Below W.heap.size W w' :=
      fun W hW row k hrow hk => allowedC_any w.heap.size b L m c row k A ls W ((hW.cell (p := ⟨b, 0, none⟩) hb2).trans hb3) HG.out (HT.out.keep (hl2.trans (hW.mono hl2.size))) hrow hk
    have hcall := fun (W : World) (i cc : Nat) (o : Nat → Int) (s : Nat → Bool) (hl : Below w2.heap.size w2 W) (hP : PaM [] w2.heap.size W pp ho hk hs (.func (.func 76) #[] #[.pointer (some ⟨b, 0, none⟩)]) m o (fun _ => false) s) (S : Mst m (mayC (cst ls)) i o cc) (hi : i < L) =>
      findPairA [] w2.heap.size pp ho hk hs m (.pointer (some ⟨b, 0, none⟩)) (fun _ => false) (mayC (cst ls)) (fun q => q < L) w2 h3 hmay i o s W hl hi S.dom (fun j hj q e => by
        have := S.own.2 q ⟨j, hj, e⟩; omega) hP
    have HC := Lib.hid hcall
    have HP := Lib.hid hPa
    clear hcall hPa hmay hb1 hb2 hb3 HT HG
    have HL3 := Lib.hid hl3
    have HL2 := Lib.hid hl2
    clear hl3 hl2
    go_wp2_with (fail)
    go_loopw [5, 6, 15] (fun q _ t wr => ∃ (i cc : Nat) (o : Nat → Int) (s : Nat → Bool), i ≤ L ∧ cc ≤ i ∧ t = .int .i64 (i : Int) ∧ q = .int .i64 (cc : Int) ∧ PaM [] w2.heap.size wr pp ho hk hs (.func (.func 76) #[] #[.pointer (some ⟨b, 0, none⟩)]) m o (fun _ => false) s ∧ Hid (Mst m (mayC (cst ls)) i o cc) ∧ Below w2.heap.size w2 wr) (fun _ _ t _ => L - (intOf t).toNat)
    case atStart => exact ⟨0, 0, _, _, Nat.zero_le _, Nat.le_refl _, rfl, rfl, HP.out, Lib.hid Mst.zero, HL3.out⟩
    case round =>
      clear HP HL3
      obtain ⟨i, cc, o, s, hi, hci, rfl, rfl, hP, HS, hl⟩ := hrel
      by_cases hlt : i < L
      · have HCL := Lib.hid (HC.out wr i cc o s hl hP HS.out hlt)
        have hlt2 : (i : Int) < (L : Int) := by omega
        clear hP
        go_wp2_with (go_at_call 61; refine (HCL.out).mono ?_; rintro e w4 ⟨bb, o', s', rfl, hroom, hP1, hl1⟩; have HRM := Lib.hid hroom; clear hroom; refine unhide ?_)
        refine Lib.hid ?_
        cases bb with
        | true =>
          have HS2 := Lib.hid (Mst.hit HS.out HRM.out)
          clear HRM
          go_wp2_with (fail)
          go_roundw
          case rel => exact ⟨i + 1, cc + 1, o', s', by omega, by omega, by go_num, by go_num, hP1, HS2, hl.trans hl1⟩
          case measure => simp [intOf]; omega
        | false =>
          have hoo := HRM.out.frame.2 rfl
          subst hoo
          have HS2 := Lib.hid (Mst.miss HS.out HRM.out)
          clear HRM
          go_wp2_with (fail)
          go_roundw
          case rel => exact ⟨i + 1, cc, o', s', by omega, by omega, by go_num, rfl, hP1, HS2, hl.trans hl1⟩
          case measure => simp [intOf]; omega
      · obtain rfl : i = L := by omega
        go_wp2
        go_ret2
        exact ⟨HL2.out.trans (hl.mono HL2.out.size), .inr ⟨i, m, o, cc, HCH.out, HNN.out, HG9.out, ⟨h1, h2, h3⟩, HS.out, rfl⟩⟩
end Go.Proofs.Ytncmfjncdhhjoaa

/- Plain: a column more, or a cost more, takes no assignment away and makes none dearer. -/
namespace Go.Proofs.Ytncmfjncdhhjoaa

section
variable {n m : Nat} {c c' : Nat → Nat → Int}
theorem asg_wide {m' : Nat} {τ : Nat → Nat} (h : Asg n m c τ) (hm : m ≤ m') (e : ∀ i k, i < n → k < m → c i k ≠ -1 → c' i k = c i k) : Asg n m' c' τ ∧ costN c' τ n = costN c τ n :=
  ⟨⟨fun i hi => ⟨Nat.lt_of_lt_of_le (h.ok i hi).1 hm, by rw [e i _ hi (h.ok i hi).1 (h.ok i hi).2]; exact (h.ok i hi).2⟩, h.inj⟩,
    sumN_congr fun i hi => e i _ hi (h.ok i hi).1 (h.ok i hi).2⟩
/-- The cheapest of a table that allows more costs no more. -/
theorem least_wide {m' : Nat} {to to' : Nat → Nat} (h : LexMin n m c to) (hm : m ≤ m') (e : ∀ i k, i < n → k < m → c i k ≠ -1 → c' i k = c i k) (g : LexMin n m' c' to') : costN c' to' n ≤ costN c to n := by
  obtain ⟨h1, h2⟩ := asg_wide h.asg hm e
  rw [← h2]
  exact g.least to h1
end
end Go.Proofs.Ytncmfjncdhhjoaa

/- An append to an own row within a region that draws its order; a table of two rows that the call builds. -/
namespace Go.Proofs.Ytncmfjncdhhjoaa
open Go.RowKit

theorem infoQ : (Try.prog.info? 66).map (fun i => (i.zero, i.size, i.bytes)) = some (some (.agg #[.int .i64 0, .int .i64 0]), 2, 16) := by kernel_rfl
theorem step_ownQ {P : Program} {ops : Array Oper} {o : Oper} {a : Act} {w : World} {K : Act → World → Prop} {Q : Exit → Act → World → Prop} {E : Prop} (hw : Region.wanted o (yielded ops a.tmps) = true) (s x : Operand) (t : TypeId)
    (ho : o.op = .call { callee := .builtin .append, args := #[s, x], argTypes := #[t, t] })
    (base : Nat) (e : TypeId) (i : TypeInfo) (z : Value) (size bytes : Nat) (ht : P.underlying t = some (.slice e)) (hi : P.info? e = some i) (hz : i.zero = some z)
    (hsize : i.size = size) (hby : i.bytes = bytes) (hzs : z.cells.size = size) (hsz : 0 < size)
    (v : Value) (n : Nat) (xs : List Value) (hs : a.eval s = v) (hown : w.ownsRow base e size v n xs)
    (ad : Addr) (m c : Nat) (news : List Value) (hx : a.eval x = .slice (some ad) m c) (hl : news.length = m * size) (hnews : ∀ j u, news[j]? = some u → w.cell? (ad.add j) = some u) (h1 : ∀ u ∈ news, u.oneCell' = true)
    (h63 : n + m ≤ maxLen) (hbytes : (n + m) * bytes ≤ 140737488355328) (hbase : base ≤ w.heap.size)
    (h : ∀ v' w', w'.ownsRow base e size v' (n + m) (xs ++ news) → w.grownBy w' v.ownBlock → (v' = .slice none 0 0 ↔ v = .slice none 0 0 ∧ m = 0) → K (a.put o.dst v') w') :
    if Region.wanted o (yielded ops a.tmps) = true then Oper.wp P o a w K Q else E := by
  rw [if_pos hw]
  exact wp_append_own w s x t ho base e i z size bytes ht hi hz hsize hby hzs hsz v n xs hs hown ad m c news hx hl hnews h1 h63 hbytes hbase h
theorem own_empQ (W : World) (B : Nat) (hB : B ≤ W.heap.size) : (W.alloc (.cells #[] 66)).ownsRow B 66 2 (.slice (some ⟨W.heap.size, 0, none⟩) 0 0) 0 [] :=
  ⟨by simp, .inr ⟨W.heap.size, 0, #[], rfl, hB, heap_alloc_new _ _, Nat.le_refl _, by unfold maxLen; omega, by simp, by simp⟩⟩
theorem own_hdQ {B T k : Nat} {w : World} {v : Value} {n : Nat} {vs : List Value} (h : w.ownsRow B T k v n vs) (hv : v ≠ .slice none 0 0) : ∃ g cap, v = .slice (some ⟨g, 0, none⟩) n cap ∧ B ≤ g ∧ Hd T w g (cap * k) vs := by
  rcases h.2 with ⟨h1, _⟩ | ⟨g, cap, cur, e, h1, h2, h3, h4, h5, h6⟩
  · exact absurd h1 hv
  · refine ⟨g, cap, e, h1, cur.toList.drop (n * k), ?_, ?_⟩
    · have := h.1; have h7 : n * k ≤ cap * k := Nat.mul_le_mul_right _ h3
      rw [List.length_drop]; simp only [Array.length_toList]; omega
    · rw [← h6]
      unfold Blk
      rw [List.take_append_drop]
      simpa using h2
theorem own_atQ {B : Nat} {w : World} {v : Value} {n : Nat} {vs : List Value} (h : w.ownsRow B 66 2 v (0 + n) ([] ++ vs)) : w.ownsRow B 66 2 v n vs := by simpa using h
theorem own_farQ {B n : Nat} {w : World} {v : Value} {vs : List Value} (h : w.ownsRow B 66 2 v n vs) (hv : v ≠ .slice none 0 0) : ∀ b, v.ownBlock = some b → B ≤ b := by
  obtain ⟨g, cap, rfl, hg, _⟩ := own_hdQ h hv
  intro b hb
  simp [Value.ownBlock] at hb
  omega
theorem own_rowQ {B : Nat} {w : World} {v : Value} {t : List J2} {x : J2} {L : Nat} (h : w.ownsRow B 66 2 v (L + 1) (jc t ++ jC x)) (hv : v ≠ .slice none 0 0) :
    ∃ g cap, v = .slice (some ⟨g, 0, none⟩) (L + 1) cap ∧ JAt w (some ⟨g, 0, none⟩) (t ++ [x]) := by
  obtain ⟨g, cap, e, _, hd⟩ := own_hdQ h hv
  refine ⟨g, cap, e, ?_⟩
  have : jc (t ++ [x]) = jc t ++ jC x := by rw [jc_append]; simp [jc]
  unfold JAt
  rw [this]; exact hd.vals
theorem nrowQ {g g' : Nat} {n c : Nat} (h : g ≠ g') : some g ≠ (Value.slice (some ⟨g', 0, none⟩) n c).ownBlock := by
  simp only [Value.ownBlock, ne_eq, Option.some.injEq]
  exact h
theorem jC_one (m : J2) : ∀ u ∈ jC m, u.oneCell' = true := by
  intro u hu
  simp [jC] at hu
  rcases hu with rfl | rfl <;> rfl
theorem tab42 (W : World) (H : Nat) (a b c d : Int) (hH : W.heap.size = H) : Tab (((W.alloc (.cells #[.int .i64 a, .int .i64 b] 3)).alloc (.cells #[.int .i64 c, .int .i64 d] 3)).alloc (.cells #[.slice (some ⟨H, 0, none⟩) 2 2, .slice (some ⟨H + 1, 0, none⟩) 2 2] 23)).heap.size
      (((W.alloc (.cells #[.int .i64 a, .int .i64 b] 3)).alloc (.cells #[.int .i64 c, .int .i64 d] 3)).alloc (.cells #[.slice (some ⟨H, 0, none⟩) 2 2, .slice (some ⟨H + 1, 0, none⟩) 2 2] 23)) (some ⟨H + 1 + 1, 0, none⟩) [[a, b], [c, d]] := by
  subst hH
  have k1 : Blk 3 (W.alloc (.cells #[.int .i64 a, .int .i64 b] 3)) W.heap.size (is [a, b]) := Blk.new W 3 [.int .i64 a, .int .i64 b]
  have k2 : Blk 3 ((W.alloc (.cells #[.int .i64 a, .int .i64 b] 3)).alloc (.cells #[.int .i64 c, .int .i64 d] 3)) (W.heap.size + 1) (is [c, d]) := by
    have := Blk.new (W.alloc (.cells #[.int .i64 a, .int .i64 b] 3)) 3 [.int .i64 c, .int .i64 d]
    simpa [is] using this
  have k3 : Blk 23 (((W.alloc (.cells #[.int .i64 a, .int .i64 b] 3)).alloc (.cells #[.int .i64 c, .int .i64 d] 3)).alloc (.cells #[.slice (some ⟨W.heap.size, 0, none⟩) 2 2, .slice (some ⟨W.heap.size + 1, 0, none⟩) 2 2] 23)) (W.heap.size + 1 + 1) [.slice (some ⟨W.heap.size, 0, none⟩) 2 2, .slice (some ⟨W.heap.size + 1, 0, none⟩) 2 2] := by
    have := Blk.new ((W.alloc (.cells #[.int .i64 a, .int .i64 b] 3)).alloc (.cells #[.int .i64 c, .int .i64 d] 3)) 23 [.slice (some ⟨W.heap.size, 0, none⟩) 2 2, .slice (some ⟨W.heap.size + 1, 0, none⟩) 2 2]
    simpa using this
  exact tab2 ((k1.alloc _).alloc _) (k2.alloc _) k3
theorem below3 (W : World) (x y z : Obj) : Below W.heap.size W (((W.alloc x).alloc y).alloc z) := (((Below.refl _ _).alloc (Nat.le_refl _) _).alloc (by simp) _).alloc (by simp; omega) _
/-- The first of a row of pairs. -/
theorem jat_take {w : World} {A : Option Addr} {l : List J2} (h : JAt w A l) (n : Nat) : JAt w A (l.take n) := by
  have := Vals.take h (n * 2)
  rw [jc_take] at this
  exact this
/-- One quill more: what cost what costs the same. -/
theorem pri_more {js qs : List J2} {x : J2} {bend trim : Int} {i k : Nat} (hi : i < js.length) (hk : k < qs.length) : cst (priL js (qs ++ [x]) bend trim) i k = cst (priL js qs bend trim) i k := by
  rw [pri_at (List.getElem?_eq_getElem hi) (List.getElem?_eq_getElem hk), pri_at (List.getElem?_eq_getElem hi) (q := qs[k]) (by rw [List.getElem?_append_left hk]; exact List.getElem?_eq_getElem hk)]
/-- A quill more never costs more. -/
theorem voice_more (A A' : Option Addr) (c c' n m : Nat) (js qs : List J2) (x : J2) (to : Nat → Nat) (w : World) (hA : JAt w A js) (hA' : JAt w A' (qs ++ [x])) (hn : n = js.length) (hm : m = qs.length)
    (h : LexMin n m (cst (priL js qs 3 1)) to) :
    Calls Try.prog 46 #[.slice A n c, .slice A' (m + 1) c', .int .i64 3, .int .i64 1] w fun e w' => ∃ a b y d, e = .returned (.tuple #[a, b, .int .i64 y, .int .i64 d]) ∧ Below w.heap.size w w' ∧ (d = 1 ∨ (d = 0 ∧ y ≤ costN (cst (priL js qs 3 1)) to n)) := by
  have he : ∀ i k, i < n → k < m → cst (priL js qs 3 1) i k ≠ -1 → cst (priL js (qs ++ [x]) 3 1) i k = cst (priL js qs 3 1) i k := fun i k hi hk _ => pri_more (by omega) (by omega)
  refine (voice_any A A' c c' n (m + 1) js (qs ++ [x]) 3 1 w hA hA' hn (by rw [List.length_append, hm]; rfl)).mono ?_
  rintro e w' ⟨hb, ⟨_, rfl⟩ | ⟨_, hno, _⟩ | ⟨_, gt, go, to', VO, rfl⟩⟩
  · exact ⟨_, _, _, _, rfl, hb, .inl rfl⟩
  · exact absurd (asg_wide h.asg (Nat.le_succ m) he).1 (hno _)
  · exact ⟨_, _, _, _, rfl, hb, .inr ⟨rfl, least_wide h (Nat.le_succ m) he VO.min⟩⟩
end Go.Proofs.Ytncmfjncdhhjoaa

/- The program's Proves, of a matching that is proved. -/
namespace Go.Proofs.Ytncmfjncdhhjoaa
open Go.RowKit

set_option maxHeartbeats 8000000 in
set_option maxRecDepth 100000 in
theorem mproves_ok (cA c0 c1 c2 n m : Nat) (A A0 A1 A2 : Option Addr) (ls : List (List Int)) (l us vs : List Int) (w : World) (T : Tab w.heap.size w A ls) (h0 : Ints w A0 l) (h1 : Ints w A1 us) (h2 : Ints w A2 vs)
    (G : Good n m ls) (d1 : 1 ≤ n) (d2 : n ≤ m) (d3 : m ≤ 64) (hchk : chkT ls = true) (hL1 : n = us.length) (hL2 : m = vs.length) (hI : IsAsg n m (cst ls) l) (hC : ColsP m l vs) (hR : RowsP n m (cst ls) l us vs) :
    Calls Try.prog 33 #[.slice A n cA, .agg #[.slice A0 n c0, .slice A1 n c1, .slice A2 m c2, .int .i64 (costN (cst ls) (colOf l) n)]] w fun e w' => Below w.heap.size w w' ∧ e = .returned (.tuple #[.bool true, .int .i64 0]) := by
  obtain ⟨O, hO⟩ : ∃ O, O = Obj.cells #[.slice A0 n c0, .slice A1 n c1, .slice A2 m c2, .int .i64 (costN (cst ls) (colOf l) n)] 35 := ⟨_, rfl⟩
  have hbx : Blk 35 (w.alloc O) w.heap.size [.slice A0 n c0, .slice A1 n c1, .slice A2 m c2, .int .i64 (costN (cst ls) (colOf l) n)] := by rw [hO]; exact Blk.new w 35 _
  have hlW := below_new w O
  have T' := T.keep hlW
  have hck := check_any w.heap.size A cA n ls (w.alloc O) T' G.rows.symm
  have hce : ckE ls = 0 := by unfold ckE; rw [hchk]; rfl
  rw [hce] at hck
  have hl0 : n = l.length := hI.len.symm
  have h0' := Vals.keep h0 hlW
  have h1' := Vals.keep h1 hlW
  have h2' := Vals.keep h2 hlW
  have hin : ∀ a, a < n → 0 ≤ l.getD a 0 ∧ l.getD a 0 < (m : Int) := fun a ha => by
    have p1 := hI.pos a ha
    have p2 := (hI.asg.ok a ha).1
    unfold colOf at p2
    exact ⟨p1, by omega⟩
  have hv : ∀ k, k < m → -2000000000000000000 ≤ vs.getD k 0 ∧ vs.getD k 0 ≤ 0 := fun k hk => inB_t (hC k hk).1
  have hia : ∀ W, Below (w.alloc O).heap.size (w.alloc O) W → Calls Try.prog 48 #[.slice A n cA, .slice A0 n c0] W fun e w' => Below W.heap.size W w' ∧ e = .returned (.bool true) := fun W hW =>
    (isAsg_any w.heap.size n m cA c0 n A A0 ls l W (T'.keep (hW.mono hlW.size)) (Nat.le_trans hlW.size hW.size) G (Vals.keep h0' hW) hl0 d1 d2 d3).mono fun e w' h => ⟨h.1, by
      rcases h.2 with ⟨_, h⟩ | ⟨h, _⟩
      · exact h
      · exact absurd hI h⟩
  have hto : ∀ W, Below (w.alloc O).heap.size (w.alloc O) W → Calls Try.prog 49 #[.slice A n cA, .slice A0 n c0] W fun e w' => e = .returned (.int .i64 (costN (cst ls) (colOf l) n)) ∧ W = w' := fun W hW =>
    total_any w.heap.size n m cA c0 n A A0 ls l W (T'.keep (hW.mono hlW.size)) G (Vals.keep h0' hW) hl0 d1 d2 d3 hI
  have hco : ∀ W, Below (w.alloc O).heap.size (w.alloc O) W → Calls Try.prog 57 #[.agg #[.slice A0 n c0, .slice A1 n c1, .slice A2 m c2, .int .i64 (costN (cst ls) (colOf l) n)]] W fun e w' => Below W.heap.size W w' ∧ e = .returned (.bool true) := fun W hW =>
    (cols_any m c0 c1 c2 n n A0 A1 A2 l vs _ W (Vals.keep h0' hW) (Vals.keep h2' hW) hl0 hL2 d3 (by omega) hin).mono fun e w' h => ⟨h.1, by
      rcases h.2 with ⟨_, h⟩ | ⟨h, _⟩
      · exact h
      · exact absurd hC h⟩
  have hro : ∀ W, Below (w.alloc O).heap.size (w.alloc O) W → Calls Try.prog 58 #[.slice A n cA, .agg #[.slice A0 n c0, .slice A1 n c1, .slice A2 m c2, .int .i64 (costN (cst ls) (colOf l) n)]] W fun e w' => Below W.heap.size W w' ∧ e = .returned (.bool true) := fun W hW =>
    (rows_any w.heap.size n m cA c0 c1 c2 A A0 A1 A2 ls l us vs _ W (T'.keep (hW.mono hlW.size)) (Nat.le_trans hlW.size hW.size) G (Vals.keep h0' hW) (Vals.keep h1' hW) (Vals.keep h2' hW) hL1 hL2 hl0 d1 d2 d3 hin hv).mono fun e w' h => ⟨h.1, by
      rcases h.2 with ⟨_, h⟩ | ⟨h, _⟩
      · exact h
      · exact absurd hR h⟩
  obtain ⟨g, off, Ai, ci, rfl, hg, hr0, _⟩ := G.at_ T' (i := 0) (by omega)
  have hr0' : (w.alloc O).cell? ⟨g, off, none⟩ = some (.slice Ai m ci) := hr0
  generalize costN (cst ls) (colOf l) n = cost at *
  have hKP : ∀ W, Below (w.alloc O).heap.size (w.alloc O) W → W.cell? ⟨w.heap.size, 0, none⟩ = some (.slice A0 n c0) ∧ W.cell? ⟨w.heap.size, 1, none⟩ = some (.slice A1 n c1) ∧ W.cell? ⟨w.heap.size, 2, none⟩ = some (.slice A2 m c2) ∧ W.cell? ⟨w.heap.size, 3, none⟩ = some (.int .i64 cost) ∧ W.cell? ⟨g, off, none⟩ = some (.slice Ai m ci) := fun W h =>
    ⟨(hbx.keep h).cell 0, (hbx.keep h).cell 1, (hbx.keep h).cell 2, (hbx.keep h).cell 3, (h.cell (p := ⟨g, off, none⟩) (Nat.lt_of_lt_of_le hg hlW.size)).trans hr0'⟩
  obtain ⟨x0, x1, x2, x3, _⟩ := hKP _ (Below.refl _ _)
  have HIA := Lib.hid hia
  have HTO := Lib.hid hto
  have HCO := Lib.hid hco
  have HRO := Lib.hid hro
  have HCK := Lib.hid hck
  have HKP := Lib.hid hKP
  have hnI : (0 : Int) < (n : Int) := by omega
  have hnN : 0 < n := by omega
  clear hbx h0 h1 h2 T T' hck hce hL1 hL2 hr0 hia hto hco hro G hKP hchk h0' h1' h2' hin hv hl0 hI hC hR
  subst hO
  go_enter Try.func33, Try.ntmps33
  go_wp2_with (go_at_call 25; refine (HCK.out).mono ?_; rintro e w1 ⟨rfl, rfl⟩)
  generalize w.alloc (Obj.cells #[.slice A0 n c0, .slice A1 n c1, .slice A2 m c2, .int .i64 cost] 35) = W at *
  have hWd : Below W.heap.size W W.drew := (Below.refl W.heap.size W).drew
  go_region_held3 (fun w' => w'.cell? ⟨w.heap.size, 0, none⟩ = some (.slice A0 n c0) ∧ w'.cell? ⟨w.heap.size, 1, none⟩ = some (.slice A1 n c1) ∧ w'.cell? ⟨w.heap.size, 2, none⟩ = some (.slice A2 m c2) ∧ w'.cell? ⟨g, off, none⟩ = some (.slice Ai m ci))
    (first | exact ⟨x0, x1, x2, hr0'⟩ | exact ⟨k0, k1, k2, k4⟩ | go_keep)
    ((go_at_call 48; (with_reducible refine (HIA.out _ hWd).mono ?_); rintro e w5 ⟨hl5, rfl⟩; have hl5' := hWd.trans hl5; obtain ⟨k0, k1, k2, k3, k4⟩ := HKP.out w5 hl5'))
  clear x0 x1 x2 x3 hr0'
  have hW5 : Below W.heap.size W w5.drew := hl5'.drew
  go_wp2_with (fail)
  go_region_held3 (fun w' => w'.cell? ⟨w.heap.size, 0, none⟩ = some (.slice A0 n c0) ∧ w'.cell? ⟨w.heap.size, 1, none⟩ = some (.slice A1 n c1) ∧ w'.cell? ⟨w.heap.size, 2, none⟩ = some (.slice A2 m c2) ∧ w'.cell? ⟨w.heap.size, 3, none⟩ = some (.int .i64 cost))
    (first | exact ⟨k0, k1, k2, k3⟩ | exact ⟨j0, j1, j2, j3⟩ | exact ⟨i0, i1, i2, i3⟩ | go_keep)
    ((first
      | (go_at_call 49; (with_reducible refine (HTO.out _ hW5).mono ?_); rintro e w6 ⟨rfl, rfl⟩)
      | (go_at_call 57; (with_reducible refine (HCO.out _ hW5).mono ?_); rintro e w7 ⟨hl7, rfl⟩
         have hW7 := hW5.trans (hl7.mono hW5.size)
         obtain ⟨j0, j1, j2, j3, j4⟩ := HKP.out w7 hW7)
      | (go_at_call 58; (with_reducible refine (HRO.out _ hW7).mono ?_); rintro e w8 ⟨hl8, rfl⟩
         have hW8 := hW7.trans (hl8.mono hW7.size)
         obtain ⟨i0, i1, i2, i3, i4⟩ := HKP.out w8 hW8)))
  go_wp2_with (fail)
  go_ret2
  exact ⟨hlW.trans (hW8.mono hlW.size), rfl⟩

end Go.Proofs.Ytncmfjncdhhjoaa

/- For TopVoiced: Total, and what Best finds is proved (the same as in WDua and WChk, for a claim of few texts: never import it beside them). -/
namespace Go.Proofs.Ytncmfjncdhhjoaa
open Go.RowKit

def TotalPost (w : World) (ls : List (List Int)) (l : List Int) (e : Ending) (w' : World) : Prop :=
  Below w.heap.size w w' ∧ ((chkT ls = false ∧ e = .returned (.tuple #[.int .i64 0, .int .i64 1])) ∨
    (∃ n m, chkT ls = true ∧ ls.length = n ∧ Good n m ls ∧ (1 ≤ n ∧ n ≤ m ∧ m ≤ 64) ∧ ((¬ IsAsg n m (cst ls) l ∧ e = .returned (.tuple #[.int .i64 0, .int .i64 2])) ∨ (IsAsg n m (cst ls) l ∧ e = .returned (.tuple #[.int .i64 (costN (cst ls) (colOf l) n), .int .i64 0])))))

set_option maxHeartbeats 4000000 in
set_option maxRecDepth 100000 in
theorem totalApi_any (cA cL S L : Nat) (A A' : Option Addr) (ls : List (List Int)) (l : List Int) (w : World) (T : Tab w.heap.size w A ls) (hS : S = ls.length) (hA' : Ints w A' l) (hL : L = l.length) :
    Calls Try.prog 24 #[.slice A S cA, .slice A' L cL] w (TotalPost w ls l) := by
  have hck := check_any w.heap.size A cA S ls w T hS
  cases hchk : chkT ls with
  | false =>
    have hce : ckE ls = 1 := by unfold ckE; rw [hchk]; rfl
    rw [hce] at hck
    have HCK := Lib.hid hck
    clear hck hce T hA' hS hL
    go_enter Try.func24, Try.ntmps24
    go_wp2_with (go_at_call 25; refine (HCK.out).mono ?_; rintro e w1 ⟨rfl, rfl⟩)
    go_ret2
    exact ⟨Below.refl _ _, .inl ⟨hchk, rfl⟩⟩
  | true =>
    have hce : ckE ls = 0 := by unfold ckE; rw [hchk]; rfl
    rw [hce] at hck
    obtain ⟨n, m, hn, hm, h1, h2, h3, G⟩ := chkT_good hchk
    have hSn : S = n := hS.trans hn
    subst hSn
    have hia := isAsg_any w.heap.size S m cA cL L A A' ls l w T (Nat.le_refl _) G hA' hL h1 h2 h3
    have htt := fun W (hW : Below w.heap.size w W) hI => total_any w.heap.size S m cA cL L A A' ls l W (T.keep hW) G (Vals.keep hA' hW) hL h1 h2 h3 hI
    have HCK := Lib.hid hck
    have HIA := Lib.hid hia
    have HTT := Lib.hid htt
    have HG := Lib.hid G
    have HN := Lib.hid hn
    have HCH := Lib.hid hchk
    clear hck hce T hA' hS hL hia htt G hn hm hchk
    go_enter Try.func24, Try.ntmps24
    go_wp2_with (first
      | (go_at_call 25; refine (HCK.out).mono ?_; rintro e w1 ⟨rfl, rfl⟩)
      | (go_at_call 48; refine (HIA.out).mono ?_; rintro e w2 ⟨hl2, ⟨hi, rfl⟩ | ⟨hni, rfl⟩⟩)
      | (go_at_call 49; refine (HTT.out _ hl2 hi).mono ?_; rintro e w3 ⟨rfl, rfl⟩))
    · go_ret2
      exact ⟨hl2, .inr ⟨S, m, HCH.out, HN.out, HG.out, ⟨h1, h2, h3⟩, .inr ⟨hi, rfl⟩⟩⟩
    · go_ret2
      exact ⟨hl2, .inr ⟨S, m, HCH.out, HN.out, HG.out, ⟨h1, h2, h3⟩, .inl ⟨hni, rfl⟩⟩⟩

/-- A row of numbers as a list. -/
def mpI (f : Nat → Int) (n : Nat) : List Int := (List.range n).map f
theorem mpI_len (f : Nat → Int) (n : Nat) : (mpI f n).length = n := by simp [mpI]
theorem mpI_at {f : Nat → Int} {n i : Nat} (h : i < n) : (mpI f n).getD i 0 = f i := by simp [mpI, List.getD_eq_getElem?_getD, h]
theorem fl_mpI (f : Nat → Int) (n : Nat) : fl f n = is (mpI f n) := by simp [fl, is, mpI]
theorem inB_ofD {x lo hi : Int} (h1 : lo ≤ x) (h2 : x ≤ hi) : inB x lo hi = true := by unfold inB; simp [h1, h2]
/-- What Best finds is proved. -/
theorem dual_plain {n m : Nat} {c : Nat → Nat → Int} {u v : Nat → Int} {to : Nat → Nat} (A : Asg n m c to) (P : Proof n m c u v to)
    (bu : ∀ i, i < n → 0 ≤ u i ∧ u i ≤ 4096000000000) (bv : ∀ k, k < m → -4096000000000 ≤ v k ∧ v k ≤ 0) :
    IsAsg n m c (mpI (fun i => (to i : Int)) n) ∧ costN c (colOf (mpI (fun i => (to i : Int)) n)) n = costN c to n ∧ ColsP m (mpI (fun i => (to i : Int)) n) (mpI v m) ∧ RowsP n m c (mpI (fun i => (to i : Int)) n) (mpI u n) (mpI v m) := by
  have hg : ∀ i, i < n → (mpI (fun i => (to i : Int)) n).getD i 0 = (to i : Int) := fun i hi => mpI_at hi
  have hc : ∀ i, i < n → colOf (mpI (fun i => (to i : Int)) n) i = to i := fun i hi => by unfold colOf; rw [hg i hi]; simp
  refine ⟨⟨mpI_len _ _, fun i hi => by rw [hg i hi]; omega, ⟨fun i hi => by rw [hc i hi]; exact A.ok i hi, fun i j hi hj e => by rw [hc i hi, hc j hj] at e; exact A.inj i j hi hj e⟩⟩,
    sumN_congr fun i hi => by rw [hc i hi], fun k hk => ?_, fun i hi => ?_⟩
  · rw [mpI_at hk]
    have := bv k hk
    refine ⟨inB_ofD (by omega) (by omega), fun h => P.free k hk fun i hi e => h i (by rw [mpI_len]; exact hi) ?_⟩
    rw [hg i hi, e]
  · have h1 := bu i hi
    have h2 := (A.ok i hi).1
    refine ⟨by rw [mpI_at hi]; exact inB_ofD (by omega) (by omega), fun k hk hne => by rw [mpI_at hi, mpI_at hk]; exact P.low i k hi hk hne, ?_⟩
    rw [hc i hi, mpI_at hi, mpI_at h2]
    exact P.own i hi
theorem good_eq4 {n m n' m' : Nat} {ls : List (List Int)} (h : Good n m ls) (g : Good n' m' ls) (h1 : 1 ≤ n) : n = n' ∧ m = m' := by
  refine ⟨h.rows.symm.trans g.rows, ?_⟩
  obtain ⟨l, hl, hm⟩ := h.row (i := 0) (by omega)
  exact hm.symm.trans (g.cols 0 l hl)

end Go.Proofs.Ytncmfjncdhhjoaa

/- The walk of TopVoiced. -/
namespace Go.Proofs.Ytncmfjncdhhjoaa
open Go.RowKit

set_option maxHeartbeats 8000000 in
set_option maxRecDepth 100000 in
theorem topVoiced_any (A A' : Option Addr) (c c' n m : Nat) (js qs : List J2) (qa qb : Int) (w : World) (hA : JAt w A js) (hA' : JAt w A' qs) (hn : n = js.length) (hm : m = qs.length) (hnc : n ≤ c) (hmc : m ≤ c') :
    Calls Try.prog 20 #[.slice A n c, .slice A' m c', .agg #[.int .i64 qa, .int .i64 qb]] w fun e w' => e = .returned (.bool true) ∧ Below w.heap.size w w' := by
  obtain ⟨N, hN⟩ : ∃ N, N = if 12 < n then 12 else n := ⟨_, rfl⟩
  obtain ⟨M, hM⟩ : ∃ M, M = if 14 < m then 14 else m := ⟨_, rfl⟩
  have hNl : N = (js.take N).length := by rw [List.length_take, hN]; split <;> omega
  have hMl : M = (qs.take M).length := by rw [List.length_take, hM]; split <;> omega
  have hN12 : N ≤ 12 := by rw [hN]; split <;> omega
  have hM14 : M ≤ 14 := by rw [hM]; split <;> omega
  have hpos : 12 < n → ∃ ad, A = some ad := fun h => by
    obtain ⟨g, off, e, _⟩ := hA (by rw [jc_len]; omega)
    exact ⟨_, e⟩
  have hpos' : 14 < m → ∃ ad, A' = some ad := fun h => by
    obtain ⟨g, off, e, _⟩ := hA' (by rw [jc_len]; omega)
    exact ⟨_, e⟩
  have hkp : ∀ W, Below w.heap.size w W → JAt W A (js.take N) ∧ JAt W A' (qs.take M) := fun W h => ⟨jat_take (Vals.keep hA h) N, jat_take (Vals.keep hA' h) M⟩
  obtain ⟨W0, hW0⟩ : ∃ W, W = w.alloc (.cells #[.int .i64 qa, .int .i64 qb] 66) := ⟨_, rfl⟩
  obtain ⟨b5, hb5⟩ : ∃ b, b = w.heap.size := ⟨_, rfl⟩
  have hbx : Blk 66 W0 b5 [.int .i64 qa, .int .i64 qb] := by rw [hW0, hb5]; exact Blk.new w 66 _
  have hl0 : Below w.heap.size w W0 := by rw [hW0]; exact below_new w _
  have HB := Lib.hid hbx
  have HL := Lib.hid hl0
  have HW0 := Lib.hid hW0
  have HB5 := Lib.hid hb5
  have HKP := Lib.hid hkp
  have HPO := Lib.hid hpos
  have HPO' := Lib.hid hpos'
  have HN := Lib.hid hN
  have HM := Lib.hid hM
  generalize js.take N = j1 at *
  generalize qs.take M = q1 at *
  have HNl := Lib.hid hNl
  have HMl := Lib.hid hMl
  clear hA hA' hn hm hN hM hNl hMl hpos hpos' hkp hW0 hb5 hbx hl0
  go_enter Try.func20, Try.ntmps20
  go_upto_region 1 with (fail)
  rw [← HW0.out, ← HB5.out]
  go_upto_if 31 with (fail)
  go_cut [0] from 29 (fun s ww => s = .slice A N c ∧ Hid (Blk 66 ww b5 [.int .i64 qa, .int .i64 qb]) ∧ Hid (Below w.heap.size w ww))
  case first =>
    by_cases h12 : 12 < n
    · have hNn := HN.out
      rw [if_pos h12] at hNn
      subst hNn
      have s1 : (12 : Nat) ≤ c := by omega
      have s2 : ¬ c < 12 := by omega
      have s3 : ¬ (c : Int) < 12 := by omega
      have d1 : decide ((12 : Int) < (n : Int)) = true := by simp; omega
      obtain ⟨ad, rfl⟩ := HPO.out h12
      rw [d1]
      go_wp2_with (fail)
      go_meet
      case rel => exact ⟨rfl, HB, HL⟩
    · have hNn := HN.out
      rw [if_neg h12] at hNn
      subst hNn
      have d1 : decide ((12 : Int) < (N : Int)) = false := by simp; omega
      rw [d1]
      go_wp2_with (fail)
      go_meet
      case rel => exact ⟨rfl, HB, HL⟩
  case rest =>
  clear HB HL HW0
  obtain ⟨rfl, HB, HL⟩ := hcut
  obtain ⟨W1, hW1⟩ : ∃ W, W = wc := ⟨_, rfl⟩
  subst hW1
  go_upto_if 36 with (fail)
  go_cut [1] from 29 (fun s ww => s = .slice A' M c' ∧ Hid (Blk 66 ww b5 [.int .i64 qa, .int .i64 qb]) ∧ Hid (Below w.heap.size w ww))
  case first =>
    by_cases h14 : 14 < m
    · have hMm := HM.out
      rw [if_pos h14] at hMm
      subst hMm
      have s1 : (14 : Nat) ≤ c' := by omega
      have s2 : ¬ c' < 14 := by omega
      have s3 : ¬ (c' : Int) < 14 := by omega
      have d1 : decide ((14 : Int) < (m : Int)) = true := by simp; omega
      obtain ⟨ad, rfl⟩ := HPO'.out h14
      rw [d1]
      go_wp2_with (fail)
      go_meet
      case rel => exact ⟨rfl, HB, HL⟩
    · have hMm := HM.out
      rw [if_neg h14] at hMm
      subst hMm
      have d1 : decide ((14 : Int) < (M : Int)) = false := by simp; omega
      rw [d1]
      go_wp2_with (fail)
      go_meet
      case rel => exact ⟨rfl, HB, HL⟩
  case rest =>
  clear HB HL
  obtain ⟨rfl, HB, HL⟩ := hcut
  obtain ⟨W2, hW2⟩ : ∃ W, W = wc := ⟨_, rfl⟩
  subst hW2
  have hv := voice_any A A' c c' N M j1 q1 3 1 W2 (HKP.out _ HL.out).1 (HKP.out _ HL.out).2 HNl.out HMl.out
  have HV := Lib.hid hv
  clear hv HPO HPO' hnc hmc HN HM HB5
  go_wp2_with (fail)
  refine (HV.out).mono ?_
  intro e w1 hv
  have hl1 := hv.1
  have hl01 := HL.out.trans (hl1.mono HL.out.size)
  have hB1 := HB.out.keep hl1
  clear HV HB
  have hmt := mtable_any A A' c c' N M j1 q1 3 1 w1 (HKP.out _ hl01).1 (HKP.out _ hl01).2 HNl.out HMl.out
  rcases hv.2 with ⟨hok, rfl⟩ | ⟨hok, hno, rfl⟩ | ⟨hok, gt, go, to, VO, rfl⟩
  · have HMT := Lib.hid hmt
    have HL1 := Lib.hid hl01
    have HOK := Lib.hid hok
    clear hmt hv hl1 hl01 hok hB1 HL
    go_wp2_with (fail)
    refine (HMT.out).mono ?_
    rintro e w2 ⟨hl2, ⟨_, rfl⟩ | ⟨hok', _⟩⟩
    · have HL2 := Lib.hid (HL1.out.trans (hl2.mono HL1.out.size))
      clear hl2 HMT HL1
      go_wp2_with (first
        | (go_at_call 28; refine (best_any (some ⟨w2.heap.size + 1 + 1, 0, none⟩) 2 2 [[4, 1], [2, 0]] _ (tab42 w2 _ 4 1 2 0 rfl) rfl).mono ?_
           intro e w3 hpost
           obtain ⟨hl3, g1, g2, g3, rfl, -⟩ := lives1 hpost
           have hl4 := (below3 w2 _ _ _).trans (hl3.mono (below3 w2 _ _ _).size)
           have hl5 := HL2.out.trans (hl4.mono HL2.out.size)
           clear hpost hl3 hl4))
      go_ret
      exact ⟨rfl, hl5.alloc hl5.size _⟩
    · rw [HOK.out] at hok'; cases hok'
  · have HMT := Lib.hid hmt
    have HL1 := Lib.hid hl01
    have HOK := Lib.hid hok
    obtain ⟨⟨d1, d2, d3⟩, -⟩ := okS_t hok
    have hgd := pri_good hok
    rw [← HNl.out, ← HMl.out] at hgd
    rw [← HNl.out, ← HMl.out] at d2
    rw [← HNl.out] at d1
    rw [← HMl.out] at d3
    have HG := Lib.hid hgd
    have HCH : Hid (chkT (priL j1 q1 3 1) = true) := Lib.hid (chkT_of d1 d2 d3 hgd)
    have HNO := Lib.hid hno
    clear hmt hv hl1 hl01 hok hgd HL hno hB1
    go_wp2_with (fail)
    refine (HMT.out).mono ?_
    rintro e w2 ⟨hl2, ⟨hok', _⟩ | ⟨_, g, gs, rfl, hT⟩⟩
    · rw [HOK.out] at hok'; cases hok'
    have HL2 := Lib.hid (HL1.out.trans (hl2.mono HL1.out.size))
    have hTb := hT.tab HG.out
    have HT2 := Lib.hid hTb
    clear hT hTb hl2 HMT HL1 HOK
    have hbl := best_any (some ⟨w2.heap.size + 1 + 1, 0, none⟩) 2 2 [[4, 1], [2, 0]] _ (tab42 w2 _ 4 1 2 0 rfl) rfl
    have HBL := Lib.hid hbl
    clear hbl
    go_wp2_with (fail)
    refine (HBL.out).mono ?_
    intro e w3 hpost
    obtain ⟨hl3, g1, g2, g3, rfl, -⟩ := lives1 hpost
    have hl4 := (below3 w2 _ _ _).trans (hl3.mono (below3 w2 _ _ _).size)
    have HL5 := Lib.hid (hl4.alloc hl4.size (.cells #[.slice (some ⟨g1, 0, none⟩) 2 2, .slice (some ⟨g2, 0, none⟩) 2 2, .slice (some ⟨g3, 0, none⟩) 2 2, .int .i64 3] 35))
    have hbb : Blk 35 (w3.alloc (.cells #[.slice (some ⟨g1, 0, none⟩) 2 2, .slice (some ⟨g2, 0, none⟩) 2 2, .slice (some ⟨g3, 0, none⟩) 2 2, .int .i64 3] 35)) w3.heap.size [.slice (some ⟨g1, 0, none⟩) 2 2, .slice (some ⟨g2, 0, none⟩) 2 2, .slice (some ⟨g3, 0, none⟩) 2 2, .int .i64 3] := Blk.new w3 35 _
    have HBB := Lib.hid hbb
    clear hpost hl3 hl4 HBL hbb
    go_upto_region 8 with (fail)
    have hr3 : (w3.alloc (.cells #[.slice (some ⟨g1, 0, none⟩) 2 2, .slice (some ⟨g2, 0, none⟩) 2 2, .slice (some ⟨g3, 0, none⟩) 2 2, .int .i64 3] 35)).cell? ⟨w3.heap.size, 3, none⟩ = some (.int .i64 3) := HBB.out.cell 3
    obtain ⟨x3, hx3⟩ : ∃ x, x = w3.heap.size := ⟨_, rfl⟩
    rw [← hx3] at hr3 ⊢
    clear HBB hx3
    generalize w3.alloc (.cells #[.slice (some ⟨g1, 0, none⟩) 2 2, .slice (some ⟨g2, 0, none⟩) 2 2, .slice (some ⟨g3, 0, none⟩) 2 2, .int .i64 3] 35) = w4 at *
    have HT4 := Lib.hid ((HT2.out.keep HL5.out).mono HL5.out.size)
    have HL4 := Lib.hid (HL2.out.trans (HL5.out.mono HL2.out.size))
    have hbe := best_any (some ⟨g, 0, none⟩) N N (priL j1 q1 3 1) w4 HT4.out HG.out.rows.symm
    have HBE := Lib.hid hbe
    clear HT2 HL2 HL5 hbe
    go_wp2_with (fail)
    refine (HBE.out).mono ?_
    intro e w5 hpost
    have hl5 := hpost.1
    have hl15 := HL4.out.trans (hl5.mono HL4.out.size)
    have hTT5 := (HT4.out.keep hl5).mono hl5.size
    rcases hpost.2 with ⟨hf, _⟩ | ⟨n', m', _, _, hG', _, _, rfl⟩ | ⟨n', m', gt, gu, gv, to, u, v, _, hn', BO, rfl⟩
    · rw [HCH.out] at hf; cases hf
    · obtain ⟨rfl, rfl⟩ := good_eq4 HG.out hG' d1
      have n1 := below_new w5 (.cells #[.slice none 0 0, .slice none 0 0, .slice none 0 0, .int .i64 0] 35)
      have q1' := hl15.trans (n1.mono hl15.size)
      have hTT6 := (hTT5.keep n1).mono n1.size
      have hha := hall_any 12 sortK_12 (some ⟨g, 0, none⟩) N N _ _ hTT6 HG.out.rows.symm hN12
      have HHA := Lib.hid hha
      have HTT6 := Lib.hid hTT6
      clear hG' hpost hTT5 HT4 HBE hTT6 hha
      unfold zeroM
      go_upto_region 13 with (fail)
      generalize w5.alloc (.cells #[.slice none 0 0, .slice none 0 0, .slice none 0 0, .int .i64 0] 35) = w6 at *
      go_upto_region 17 with (go_at_call 38; refine (HHA.out).mono ?_; intro e w7 hph; have hl7 := hph.1; rcases hph.2 with ⟨hf, rfl⟩ | ⟨n7, m7, o7, _, _, hG7, _, hS7, rfl⟩ | ⟨n7, m7, i7, o7, s7, g7, cap7, N7, f7, _, _, hG7, _, hi7, hS7, hR7, hN7, _, _, _, _, rfl⟩)
      · rw [HCH.out] at hf; cases hf
      · obtain ⟨rfl, rfl⟩ := good_eq4 HG.out hG7 d1
        exfalso
        obtain ⟨τ, hτ⟩ := hS7.asg (fun i k hi hk => (HG.out.rng i k hi hk).1)
        exact HNO.out τ hτ
      · obtain ⟨rfl, rfl⟩ := good_eq4 HG.out hG7 d1
        have hTT7 := (HTT6.out.keep hl7).mono hl7.size
        have q7 := q1'.trans (hl7.mono q1'.size)
        have hmo := most_any (some ⟨g, 0, none⟩) N N _ _ hTT7 HG.out.rows.symm
        have HMO := Lib.hid hmo
        have hp7 : 0 < N7 := by rw [hN7]; unfold hallL; simp
        have hp8 : (0 : Int) < (N7 : Int) := by omega
        rw [← hN7]
        have e7 : decide ((0 : Int) < (N7 : Int)) = true := by simpa using hp7
        have e8 : decide (0 < N7) = true := by simpa using hp7
        clear hmo hph hG7 hS7 hR7 hTT7 HTT6 HHA hN7
        go_upto_region 18 with (go_at_call 35; refine (HMO.out).mono ?_; intro e w8 hpm; have hl8 := hpm.1; rcases hpm.2 with ⟨hf, rfl⟩ | ⟨n8, m8, o8, cc, _, _, hG8, _, hM8, rfl⟩)
        · rw [HCH.out] at hf; cases hf
        · obtain ⟨rfl, rfl⟩ := good_eq4 HG.out hG8 d1
          have q8 := q7.trans (hl8.mono q7.size)
          rcases hM8.part with ⟨rfl, S⟩ | ⟨hlt, _⟩
          · exfalso
            obtain ⟨τ, hτ⟩ := S.asg (fun i k hi hk => (HG.out.rng i k hi hk).1)
            exact HNO.out τ hτ
          · have hd : decide ((cc : Int) < (N : Int)) = true := by simp; omega
            have hd2 : decide (cc < N) = true := by simp; omega
            clear hpm hM8 hG8 HMO
            go_wp2_with (fail)
            go_ret
            exact ⟨rfl, q8⟩
    · obtain ⟨rfl, rfl⟩ := good_eq4 HG.out BO.good d1
      exact absurd BO.min.asg (HNO.out _)
  · have HMT := Lib.hid hmt
    have HL1 := Lib.hid hl01
    have HOK := Lib.hid hok
    obtain ⟨⟨d1, d2, d3⟩, -⟩ := okS_t hok
    have hgd := pri_good hok
    rw [← HNl.out, ← HMl.out] at hgd
    rw [← HNl.out, ← HMl.out] at d2
    rw [← HNl.out] at d1
    rw [← HMl.out] at d3
    have HG := Lib.hid hgd
    have HCH : Hid (chkT (priL j1 q1 3 1) = true) := Lib.hid (chkT_of d1 d2 d3 hgd)
    have hto := VO.res
    have hmin := VO.min
    obtain ⟨C, hC⟩ : ∃ C, C = costN (cst (priL j1 q1 3 1)) to N := ⟨_, rfl⟩
    rw [← hC]
    have HC := Lib.hid hC
    have HTO := Lib.hid hto
    have HMIN := Lib.hid hmin
    have HB1 := Lib.hid hB1
    have hb51 : b5 < w1.heap.size := hB1.lt
    have hgt1 : gt < w1.heap.size := hto.lt
    clear hmt hv hl1 hl01 hok hgd HL VO hto hmin hC hB1
    go_wp2_with (fail)
    refine (HMT.out).mono ?_
    rintro e w2 ⟨hl2, ⟨hok', _⟩ | ⟨_, g, gs, rfl, hT⟩⟩
    · rw [HOK.out] at hok'; cases hok'
    have HL2 := Lib.hid (HL1.out.trans (hl2.mono HL1.out.size))
    have hTb := hT.tab HG.out
    have HT2 := Lib.hid hTb
    have HTO2 := Lib.hid (HTO.out.keep hl2)
    have HB2 := Lib.hid (HB1.out.keep hl2)
    clear HTO HB1
    clear hT hTb hl2 HMT HL1 HOK
    have hbl := best_any (some ⟨w2.heap.size + 1 + 1, 0, none⟩) 2 2 [[4, 1], [2, 0]] _ (tab42 w2 _ 4 1 2 0 rfl) rfl
    have HBL := Lib.hid hbl
    clear hbl
    go_wp2_with (fail)
    refine (HBL.out).mono ?_
    intro e w3 hpost
    obtain ⟨hl3, g1, g2, g3, rfl, -⟩ := lives1 hpost
    have hl4 := (below3 w2 _ _ _).trans (hl3.mono (below3 w2 _ _ _).size)
    have HL5 := Lib.hid (hl4.alloc hl4.size (.cells #[.slice (some ⟨g1, 0, none⟩) 2 2, .slice (some ⟨g2, 0, none⟩) 2 2, .slice (some ⟨g3, 0, none⟩) 2 2, .int .i64 3] 35))
    have hbb : Blk 35 (w3.alloc (.cells #[.slice (some ⟨g1, 0, none⟩) 2 2, .slice (some ⟨g2, 0, none⟩) 2 2, .slice (some ⟨g3, 0, none⟩) 2 2, .int .i64 3] 35)) w3.heap.size [.slice (some ⟨g1, 0, none⟩) 2 2, .slice (some ⟨g2, 0, none⟩) 2 2, .slice (some ⟨g3, 0, none⟩) 2 2, .int .i64 3] := Blk.new w3 35 _
    have HBB := Lib.hid hbb
    clear hpost hl3 hl4 HBL hbb
    go_upto_region 8 with (fail)
    have hr3 : (w3.alloc (.cells #[.slice (some ⟨g1, 0, none⟩) 2 2, .slice (some ⟨g2, 0, none⟩) 2 2, .slice (some ⟨g3, 0, none⟩) 2 2, .int .i64 3] 35)).cell? ⟨w3.heap.size, 3, none⟩ = some (.int .i64 3) := HBB.out.cell 3
    obtain ⟨x3, hx3⟩ : ∃ x, x = w3.heap.size := ⟨_, rfl⟩
    rw [← hx3] at hr3 ⊢
    clear HBB hx3
    generalize w3.alloc (.cells #[.slice (some ⟨g1, 0, none⟩) 2 2, .slice (some ⟨g2, 0, none⟩) 2 2, .slice (some ⟨g3, 0, none⟩) 2 2, .int .i64 3] 35) = w4 at *
    have HT4 := Lib.hid ((HT2.out.keep HL5.out).mono HL5.out.size)
    have HL4 := Lib.hid (HL2.out.trans (HL5.out.mono HL2.out.size))
    have hbe := best_any (some ⟨g, 0, none⟩) N N (priL j1 q1 3 1) w4 HT4.out HG.out.rows.symm
    have HBE := Lib.hid hbe
    have HTO4 := Lib.hid (HTO2.out.keep HL5.out)
    have HB4 := Lib.hid (HB2.out.keep HL5.out)
    clear HTO2 HB2
    clear HT2 HL2 HL5 hbe
    go_wp2_with (fail)
    refine (HBE.out).mono ?_
    intro e w5 hpost
    have hl5 := hpost.1
    have hl15 := HL4.out.trans (hl5.mono HL4.out.size)
    have hTT5 := (HT4.out.keep hl5).mono hl5.size
    have HTO5 := Lib.hid (HTO4.out.keep hl5)
    have HB5 := Lib.hid (HB4.out.keep hl5)
    clear HTO4 HB4
    rcases hpost.2 with ⟨hf, _⟩ | ⟨n', m', _, _, hG', _, hno, _⟩ | ⟨n', m', ht, gu, gv, to', u, v, _, hn', BO, rfl⟩
    · rw [HCH.out] at hf; cases hf
    · obtain ⟨rfl, rfl⟩ := good_eq4 HG.out hG' d1
      exact absurd HMIN.out.asg (hno _)
    · obtain ⟨rfl, rfl⟩ := good_eq4 HG.out BO.good d1
      obtain ⟨hco, hto⟩ := BO.min.unique HMIN.out
      rw [hco, ← HC.out]
      obtain ⟨p1, p2, p3, p4⟩ := dual_plain BO.min.asg BO.proof BO.bnd.1 BO.bnd.2
      have psame : mpI (fun i => (to' i : Int)) N = mpI (fun i => (to i : Int)) N := by
        unfold mpI
        exact List.map_congr_left fun i hi => by rw [hto i (List.mem_range.1 hi)]
      rw [hco, ← HC.out] at p2
      obtain ⟨O, hO⟩ : ∃ O, O = Obj.cells #[.slice (some ⟨ht, 0, none⟩) N N, .slice (some ⟨gu, 0, none⟩) N N, .slice (some ⟨gv, 0, none⟩) M M, .int .i64 C] 35 := ⟨_, rfl⟩
      have n1 := below_new w5 O
      have hl6 := hl15.trans (n1.mono hl15.size)
      have hbn : Blk 35 (w5.alloc O) w5.heap.size [.slice (some ⟨ht, 0, none⟩) N N, .slice (some ⟨gu, 0, none⟩) N N, .slice (some ⟨gv, 0, none⟩) M M, .int .i64 C] := by rw [hO]; exact Blk.new w5 35 _
      have r1 := BO.res.alloc O
      have r2 := BO.rows.alloc O
      have r3 := BO.cols.alloc O
      have r4 := HTO5.out.alloc O
      have r5 := HB5.out.alloc O
      have hTT6 := (hTT5.keep n1).mono n1.size
      have hmp : Calls Try.prog 33 #[.slice (some ⟨g, 0, none⟩) N N, .agg #[.slice (some ⟨ht, 0, none⟩) N N, .slice (some ⟨gu, 0, none⟩) N N, .slice (some ⟨gv, 0, none⟩) M M, .int .i64 C]] (w5.alloc O) fun e w' => Below (w5.alloc O).heap.size (w5.alloc O) w' ∧ e = .returned (.tuple #[.bool true, .int .i64 0]) := by
        have h := mproves_ok N N N M N M (some ⟨g, 0, none⟩) (some ⟨ht, 0, none⟩) (some ⟨gu, 0, none⟩) (some ⟨gv, 0, none⟩) _ (mpI (fun i => (to' i : Int)) N) (mpI u N) (mpI v M) (w5.alloc O)
          hTT6 (by have := (Hd.of_blk r1).vals; rwa [fl_mpI] at this) (by have := (Hd.of_blk r2).vals; rwa [fl_mpI] at this) (by have := (Hd.of_blk r3).vals; rwa [fl_mpI] at this)
          HG.out d1 d2 d3 HCH.out (mpI_len _ _).symm (mpI_len _ _).symm p1 p3 p4
        rwa [p2] at h
      rw [psame] at p1 p2
      have HP1 := Lib.hid p1
      have HP2 := Lib.hid p2
      have HMP := Lib.hid hmp
      have HBN := Lib.hid hbn
      have HR4 := Lib.hid r4
      have HR5 := Lib.hid r5
      have HTT6 := Lib.hid hTT6
      have HL6 := Lib.hid hl6
      have HO := Lib.hid hO
      clear hpost hn' BO hco hto p1 p2 p3 p4 psame hbn r1 r2 r3 r4 r5 hTT6 hmp hl6 n1 hTT5 hl15 hl5 HTO5 HB5 HBE HT4 HL4 hO
      go_upto_region 13 with (fail)
      rw [← HO.out]
      obtain ⟨b15, h15⟩ : ∃ x, x = w5.heap.size := ⟨_, rfl⟩
      rw [← h15] at HBN ⊢
      clear HO h15
      generalize w5.alloc O = w6 at *
      have s0 : w6.cell? ⟨b15, 0, none⟩ = some (.slice (some ⟨ht, 0, none⟩) N N) := HBN.out.cell 0
      have s1 : w6.cell? ⟨b15, 1, none⟩ = some (.slice (some ⟨gu, 0, none⟩) N N) := HBN.out.cell 1
      have s2 : w6.cell? ⟨b15, 2, none⟩ = some (.slice (some ⟨gv, 0, none⟩) M M) := HBN.out.cell 2
      have s3 : w6.cell? ⟨b15, 3, none⟩ = some (.int .i64 C) := HBN.out.cell 3
      go_wp2_with (fail)
      refine (HMP.out).mono ?_
      rintro e w7 ⟨hl7, rfl⟩
      have htt := totalApi_any N N N N (some ⟨g, 0, none⟩) (some ⟨gt, 0, none⟩) (priL j1 q1 3 1) (mpI (fun i => (to i : Int)) N) w7 ((HTT6.out.keep hl7).mono hl7.size) HG.out.rows.symm (by have := (Hd.of_blk (HR4.out.keep hl7)).vals; rwa [fl_mpI] at this) (mpI_len _ _).symm
      have HTL := Lib.hid htt
      clear htt s0 s1 s2 s3
      go_wp2_with (fail)
      refine (HTL.out).mono ?_
      rintro e w8 ⟨hl8, ⟨hf, _⟩ | ⟨n9, m9, _, _, G9, _, ⟨hna, _⟩ | ⟨_, rfl⟩⟩⟩
      · rw [HCH.out] at hf; cases hf
      · obtain ⟨rfl, rfl⟩ := good_eq4 HG.out G9 d1
        exact absurd HP1.out hna
      obtain ⟨rfl, rfl⟩ := good_eq4 HG.out G9 d1
      rw [HP2.out]
      have hl68 := hl7.trans (hl8.mono hl7.size)
      have hb8 := HBN.out.keep hl68
      have s3 : w8.cell? ⟨b15, 3, none⟩ = some (.int .i64 C) := hb8.cell 3
      have hl08 := HL6.out.trans (hl68.mono HL6.out.size)
      have hk5 := HR5.out.keep hl68
      have HL8 := Lib.hid hl08
      have HK5 := Lib.hid hk5
      have hne : (C != C) = false := by simp
      clear G9 hl7 hl8 hl68 hb8 hl08 hk5 HTL HMP HTT6 HR4 HR5 HL6 HBN HP1 HP2
      go_upto_region 23 with (fail)
      have hKP8 : ∀ W, Below w8.heap.size w8 W → JAt W A j1 ∧ JAt W A' q1 := fun W h => HKP.out W (HL8.out.trans (h.mono HL8.out.size))
      obtain ⟨ad, rfl⟩ : ∃ ad, A' = some ad := by
        obtain ⟨g', off', e, _⟩ := (hKP8 _ (Below.refl _ _)).2 (by rw [jc_len, ← HMl.out]; omega)
        exact ⟨_, e⟩
      have HTK := Lib.hid (fun W h => (hKP8 W h).2)
      have hLT : (jc q1).length = M * 2 := by rw [jc_len, HMl.out]
      have HLT := Lib.hid hLT
      have h58 : b5 < w8.heap.size := HK5.out.lt
      have hS : ∀ W, Below w8.heap.size w8 W → W.cell? ⟨b5, 0, none⟩ = some (.int .i64 qa) ∧ W.cell? ⟨b5, 1, none⟩ = some (.int .i64 qb) := fun W h => ⟨(HK5.out.keep h).cell 0, (HK5.out.keep h).cell 1⟩
      have HS := Lib.hid hS
      have hck : ∀ g6 cap6 W, Below w8.heap.size w8 W → JAt W (some ⟨g6, 0, none⟩) (q1 ++ [⟨qa, qb⟩]) → Calls Try.prog 46 #[.slice A N c, .slice (some ⟨g6, 0, none⟩) (M + 1) cap6, .int .i64 3, .int .i64 1] W fun e w' => ∃ a b y d, e = .returned (.tuple #[a, b, .int .i64 y, .int .i64 d]) ∧ Below W.heap.size W w' ∧ (d = 1 ∨ (d = 0 ∧ y ≤ C)) := fun g6 cap6 W h hq => by
        have := voice_more A (some ⟨g6, 0, none⟩) c cap6 N M j1 q1 ⟨qa, qb⟩ to W (hKP8 W h).1 hq HNl.out HMl.out HMIN.out
        rwa [← HC.out] at this
      have HCK := Lib.hid hck
      clear hKP8 hLT hS hck
      obtain ⟨i0, hi, hz0, hz1, hz2⟩ := info_parts infoQ
      have b1 := below_on (Below.refl w8.heap.size w8).drew (Nat.le_refl _) (below_new w8.drew (.cells #[] 66))
      have b2 := below_on b1 b1.size (below_new (w8.drew.alloc (.cells #[] 66)) (.cells #[.int .i64 qa, .int .i64 qb] 66))
      have b3 := below_on (Below.refl w8.heap.size w8).drew (Nat.le_refl _) (below_new w8.drew (.cells #[.int .i64 qa, .int .i64 qb] 66))
      have b4 := below_on b3 b3.size (below_new (w8.drew.alloc (.cells #[.int .i64 qa, .int .i64 qb] 66)) (.cells #[] 66))
      have o1 := own_empQ w8.drew w8.heap.size (Nat.le_refl _)
      have o2 := ownsRow_keep o1 (below_new (w8.drew.alloc (.cells #[] 66)) (.cells #[.int .i64 qa, .int .i64 qb] 66))
      have z1 : (w8.drew.alloc (.cells #[.int .i64 qa, .int .i64 qb] 66)).heap.size = w8.heap.size + 1 := by simp
      have z2 : (w8.drew.alloc (.cells #[] 66)).heap.size = w8.heap.size + 1 := by simp
      have o4 := own_empQ (w8.drew.alloc (.cells #[.int .i64 qa, .int .i64 qb] 66)) w8.heap.size b3.size
      rw [z1] at o4
      have e2 : Blk 66 ((w8.drew.alloc (.cells #[] 66)).alloc (.cells #[.int .i64 qa, .int .i64 qb] 66)) (w8.heap.size + 1) (jC ⟨qa, qb⟩) := by rw [← z2]; exact Blk.new _ 66 (jC ⟨qa, qb⟩)
      have e3 : Blk 66 (w8.drew.alloc (.cells #[.int .i64 qa, .int .i64 qb] 66)) w8.drew.heap.size (jC ⟨qa, qb⟩) := Blk.new _ 66 (jC ⟨qa, qb⟩)
      have e4 := e3.keep (below_new (w8.drew.alloc (.cells #[.int .i64 qa, .int .i64 qb] 66)) (.cells #[] 66))
      have n2 : w8.heap.size + 1 ≠ w8.drew.heap.size := by simp
      have n4 : w8.drew.heap.size ≠ w8.heap.size + 1 := by simp
      have B1 := Lib.hid b1
      have B2 := Lib.hid b2
      have B3 := Lib.hid b3
      have B4 := Lib.hid b4
      have O1 := Lib.hid o1
      have O2 := Lib.hid o2
      have O4 := Lib.hid o4
      have E2 := Lib.hid e2
      have E4 := Lib.hid e4
      have N2 := Lib.hid n2
      have N4 := Lib.hid n4
      have hmx1 : 0 + M ≤ maxLen := by unfold maxLen; omega
      have hmb1 : (0 + M) * 16 ≤ 140737488355328 := by omega
      have hmx2 : M + 1 ≤ maxLen := by unfold maxLen; omega
      have hmb2 : (M + 1) * 16 ≤ 140737488355328 := by omega
      have z0 := (HS.out _ (Below.refl w8.heap.size w8).drew)
      clear b1 b2 b3 b4 o1 o2 o4 e2 e3 e4 n2 n4 z1 z2
      go_region_held_law (fun w' => w'.cell? ⟨b5, 0, none⟩ = some (.int .i64 qa) ∧ w'.cell? ⟨b5, 1, none⟩ = some (.int .i64 qb))
        (first | exact z0 | exact HS.out _ B1.out | exact HS.out _ B2.out | exact HS.out _ B3.out | exact HS.out _ B4.out | exact HS.out _ hb8 | exact HS.out _ hb7 | exact HS.out _ hb6 | exact HS.out _ hb5 | go_keep)
        (first
          | (refine step_ownQ (by first | rfl | (simp [Region.wanted]) | (kernel_rfl)) (.tmp 158) (.tmp 159) 55 rfl w8.heap.size 66 i0 (.agg #[.int .i64 0, .int .i64 0]) 2 16 Try.underlying55 hi hz0 hz1 hz2 rfl (by decide) (.slice (some ⟨w8.drew.heap.size, 0, none⟩) 0 0) 0 [] rfl O1.out ad M c' (jc q1) rfl HLT.out (vals_cells (HTK.out _ B1.out)) (jc_one q1) hmx1 hmb1 B1.out.size ?_; intro v5 w5 hown5 hgr5 hne5; have hb5 := B1.out.grown hgr5 B1.out.size (by simp [Value.ownBlock]); have hn5 : v5 ≠ .slice none 0 0 := (fun e => by have := (hne5.1 e).1; cases this); have o5 := own_atQ hown5; have hb6 := below_on hb5 hb5.size (below_new w5 (.cells #[.int .i64 qa, .int .i64 qb] 66)); have o6 := ownsRow_keep o5 (below_new w5 (.cells #[.int .i64 qa, .int .i64 qb] 66)); have k6 : Blk 66 (w5.alloc (.cells #[.int .i64 qa, .int .i64 qb] 66)) w5.heap.size (jC ⟨qa, qb⟩) := Blk.new _ 66 (jC ⟨qa, qb⟩))
          | (refine step_ownQ (by first | rfl | (simp [Region.wanted]) | (kernel_rfl)) (.tmp 158) (.tmp 159) 55 rfl w8.heap.size 66 i0 (.agg #[.int .i64 0, .int .i64 0]) 2 16 Try.underlying55 hi hz0 hz1 hz2 rfl (by decide) (.slice (some ⟨w8.drew.heap.size, 0, none⟩) 0 0) 0 [] rfl O2.out ad M c' (jc q1) rfl HLT.out (vals_cells (HTK.out _ B2.out)) (jc_one q1) hmx1 hmb1 B2.out.size ?_; intro v5 w5 hown5 hgr5 hne5; have hb5 := B2.out.grown hgr5 B2.out.size (by simp [Value.ownBlock]); have hn5 : v5 ≠ .slice none 0 0 := (fun e => by have := (hne5.1 e).1; cases this); have o5 := own_atQ hown5; have hb6 := hb5; have o6 := o5; have k6 := E2.out.grown hgr5 (nrowQ N2.out))
          | (refine step_ownQ (by first | rfl | (simp [Region.wanted]) | (kernel_rfl)) (.tmp 158) (.tmp 159) 55 rfl w8.heap.size 66 i0 (.agg #[.int .i64 0, .int .i64 0]) 2 16 Try.underlying55 hi hz0 hz1 hz2 rfl (by decide) (.slice (some ⟨(w8.heap.size + 1), 0, none⟩) 0 0) 0 [] rfl O4.out ad M c' (jc q1) rfl HLT.out (vals_cells (HTK.out _ B4.out)) (jc_one q1) hmx1 hmb1 B4.out.size ?_; intro v5 w5 hown5 hgr5 hne5; have hb5 := B4.out.grown hgr5 B4.out.size (by simp [Value.ownBlock]); have hn5 : v5 ≠ .slice none 0 0 := (fun e => by have := (hne5.1 e).1; cases this); have o5 := own_atQ hown5; have hb6 := hb5; have o6 := o5; have k6 := E4.out.grown hgr5 (nrowQ N4.out))
          | (refine step_ownQ (by first | rfl | (simp [Region.wanted]) | (kernel_rfl)) (.tmp 160) (.tmp 162) 55 rfl w8.heap.size 66 i0 (.agg #[.int .i64 0, .int .i64 0]) 2 16 Try.underlying55 hi hz0 hz1 hz2 rfl (by decide) v5 M (jc q1) rfl o6 ⟨_, 0, none⟩ 1 1 (jC ⟨qa, qb⟩) rfl rfl (vals_cells k6.vals0) (jC_one ⟨qa, qb⟩) hmx2 hmb2 hb6.size ?_; intro v6 w6 hown6 hgr6 hne6; have hb7 := hb6.grown hgr6 hb6.size (own_farQ o6 hn5); obtain ⟨g6, cap6, rfl, hT6⟩ := own_rowQ hown6 (fun e => hn5 (hne6.1 e).1))
          | (go_at_call 46; refine (HCK.out _ _ _ hb7 hT6).mono ?_; rintro e w9 ⟨xa, xb, y, d, rfl, hbx, hd⟩; have hb8 := below_on hb7 hb7.size hbx))
      all_goals
        have hfin := HL8.out.trans (hb8.mono HL8.out.size)
        rcases hd with rfl | ⟨rfl, hy⟩
        · go_wp2_with (fail)
          go_ret
          exact ⟨rfl, hfin⟩
        · have hdy : decide (y ≤ C) = true := by simpa using hy
          go_wp2_with (fail)
          go_ret
          exact ⟨rfl, hfin⟩
end Go.Proofs.Ytncmfjncdhhjoaa

