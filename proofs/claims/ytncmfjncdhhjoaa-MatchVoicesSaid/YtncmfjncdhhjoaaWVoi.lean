/- Voice: the cheapest quills for the jacks, and how much is cut off each. -/
import Derived.Test.YtncmfjncdhhjoaaWPc2
import Derived.Test.YtncmfjncdhhjoaaWBest
import Derived.Test.YtncmfjncdhhjoaaMShi
import Derived.StillTailTactics
namespace Go.Proofs.Ytncmfjncdhhjoaa
open Go.RowKit

/-- How much is cut off the quill of jack i. -/
def offF (js qs : List J2) (to : Nat → Nat) (i : Nat) : Int := (qs.getD (to i) ⟨0, 0⟩).b - (js.getD i ⟨0, 0⟩).b
theorem offF_at {js qs : List J2} {to : Nat → Nat} {i : Nat} {j q : J2} (hj : js[i]? = some j) (hq : qs[to i]? = some q) : offF js qs to i = q.b - j.b := by
  unfold offF
  rw [List.getD_eq_getElem?_getD, List.getD_eq_getElem?_getD, hj, hq]
  rfl
structure VoiOk (w : World) (js qs : List J2) (bend trim : Int) (n m : Nat) (w' : World) (gt go : Nat) (to : Nat → Nat) : Prop where
  far : w.heap.size ≤ gt ∧ w.heap.size ≤ go
  res : Blk 3 w' gt (fl (fun i => (to i : Int)) n)
  offs : Blk 3 w' go (fl (offF js qs to) n)
  min : LexMin n m (cst (priL js qs bend trim)) to
def VoiPost (w : World) (js qs : List J2) (bend trim : Int) (n m : Nat) (e : Ending) (w' : World) : Prop :=
  Below w.heap.size w w' ∧ ((okS js qs bend trim = false ∧ e = .returned (.tuple #[.slice none 0 0, .slice none 0 0, .int .i64 0, .int .i64 1])) ∨
    (okS js qs bend trim = true ∧ (∀ τ, ¬ Asg n m (cst (priL js qs bend trim)) τ) ∧ e = .returned (.tuple #[.slice none 0 0, .slice none 0 0, .int .i64 0, .int .i64 6])) ∨
    (okS js qs bend trim = true ∧ ∃ gt go to, VoiOk w js qs bend trim n m w' gt go to ∧
      e = .returned (.tuple #[.slice (some ⟨gt, 0, none⟩) n n, .slice (some ⟨go, 0, none⟩) n n, .int .i64 (costN (cst (priL js qs bend trim)) to n), .int .i64 0])))
/-- While what is cut off is counted. -/
structure VoM (w w' : World) (gb gt q n i : Nat) (b : List Value) (to : Nat → Nat) (F : Nat → Int) : Prop where
  box : Blk 35 w' gb b
  res : Blk 3 w' gt (fl (fun i => (to i : Int)) n)
  cur : Blk 3 w' q (fl (fun y => if y < i then F y else 0) n)
  far : w.heap.size ≤ q ∧ gb < q ∧ gt < q
  bel : Below w.heap.size w w'
section
variable {w w' : World} {gb gt q n i : Nat} {b : List Value} {to : Nat → Nat} {F : Nat → Int}
theorem VoM.next (h : VoM w w' gb gt q n i b to F) : VoM w (w'.setCell ⟨q, i, none⟩ (.int .i64 (F i))) gb gt q n (i + 1) b to F := by
  refine ⟨h.box.setOther (a := ⟨q, i, none⟩) (Nat.ne_of_lt h.far.2.1) _, h.res.setOther (a := ⟨q, i, none⟩) (Nat.ne_of_lt h.far.2.2) _, ?_, h.far, below_set h.bel h.far.1 _⟩
  have := h.cur.setI i (F i)
  have e : upd (fun y => if y < i then F y else 0) i (F i) = fun y => if y < i + 1 then F y else 0 := by
    funext y
    by_cases e : y = i
    · subst e; rw [upd_at, if_pos (by omega)]
    · rw [upd_ne e]
      by_cases h : y < i
      · rw [if_pos h, if_pos (by omega)]
      · rw [if_neg h, if_neg (by omega)]
  rwa [e] at this
theorem VoM.alloc (h : VoM w w' gb gt q n i b to F) (o : Obj) : VoM w (w'.alloc o) gb gt q n i b to F := ⟨h.box.alloc o, h.res.alloc o, h.cur.alloc o, h.far, h.bel.alloc h.bel.size o⟩
theorem VoM.drewN (h : VoM w w' gb gt q n i b to F) (z : Nat) : VoM w (w'.drewN z) gb gt q n i b to F := ⟨h.box.drewN z, h.res.drewN z, h.cur.drewN z, h.far, below_drewN h.bel z⟩
end

theorem results_tmp4 {fn : Func} {t u v x : Tmp} (h : fn.results = #[.tmp t, .tmp u, .tmp v, .tmp x]) (tmps : Array Value) (P : Program) (w : World) :
    (results fn tmps).run P w = .ok (.tuple #[tmps.getD t undef, tmps.getD u undef, tmps.getD v undef, tmps.getD x undef]) w := by
  simp [results, h]
set_option maxHeartbeats 8000000 in
set_option maxRecDepth 100000 in
theorem voice_any (A A' : Option Addr) (c c' n m : Nat) (js qs : List J2) (bend trim : Int) (w : World) (hA : JAt w A js) (hA' : JAt w A' qs) (hn : n = js.length) (hm : m = qs.length) :
    Calls Try.prog 46 #[.slice A n c, .slice A' m c', .int .i64 bend, .int .i64 trim] w (VoiPost w js qs bend trim n m) := by
  have htb := mtable_any A A' c c' n m js qs bend trim w hA hA' hn hm
  have hkp := fun W (h : Below w.heap.size w W) => (⟨Vals.keep hA h, Vals.keep hA' h⟩ : JAt W A js ∧ JAt W A' qs)
  have HKP := Lib.hid hkp
  have HTB := Lib.hid htb
  have HN := Lib.hid hn
  have HM := Lib.hid hm
  clear htb hkp hA hA' hn hm
  go_enter Try.func46, Try.ntmps46
  go_wp2_with (fail)
  refine (HTB.out).mono ?_
  rintro e w1 ⟨hl1, ⟨hok, rfl⟩ | ⟨hok, g, gs, rfl, hT⟩⟩
  · have HF : Hid (VoiPost w js qs bend trim n m (.returned (.tuple #[.slice none 0 0, .slice none 0 0, .int .i64 0, .int .i64 1])) w1) := Lib.hid ⟨hl1, .inl ⟨hok, rfl⟩⟩
    clear hl1 hok
    go_wp2_with (fail)
    (try simp only [Exit.inBlock, Exit.then]); refine bodyPost_ret (results_tmp4 rfl _ _ _) rfl ?_
    exact HF.out
  · have hgd := pri_good hok
    rw [← HN.out, ← HM.out] at hgd
    obtain ⟨⟨d1, d2, d3⟩, -⟩ := okS_t hok
    rw [← HN.out, ← HM.out] at d2
    rw [← HN.out] at d1
    rw [← HM.out] at d3
    have hTb := hT.tab hgd
    have hbe := best_any (some ⟨g, 0, none⟩) n n (priL js qs bend trim) w1 hTb hgd.rows.symm
    have hck : chkT (priL js qs bend trim) = true := chkT_of d1 d2 d3 hgd
    have HBE := Lib.hid hbe
    have HT := Lib.hid hT
    have HG := Lib.hid hgd
    have HOK := Lib.hid hok
    have HCK := Lib.hid hck
    have HMR := makeRowM n (by omega)
    clear hbe hT hTb hok hgd hck
    go_wp2_with (fail)
    refine (HBE.out).mono ?_
    intro e w2 hpost
    have hl2 := hpost.1
    have hl12 := hl1.trans (hl2.mono hl1.size)
    rcases hpost.2 with ⟨hchk, rfl⟩ | ⟨n', m', _, hn', hG, _, hno, rfl⟩ | ⟨n', m', gt, gu, gv, to, u, v, _, hn', BO, rfl⟩
    · rw [HCK.out] at hchk
      exact absurd hchk (by decide)
    · obtain rfl : n' = n := by rw [← hn', HG.out.rows]
      obtain rfl : m' = m := by
        obtain ⟨l, hl, hm1⟩ := HG.out.row (i := 0) (by omega)
        exact (hG.cols 0 l hl).symm.trans hm1
      have HF : ∀ o, Hid (VoiPost w js qs bend trim n' m' (.returned (.tuple #[.slice none 0 0, .slice none 0 0, .int .i64 0, .int .i64 6])) (w2.alloc o)) := fun o => Lib.hid ⟨hl12.alloc hl12.size o, .inr (.inl ⟨HOK.out, hno, rfl⟩)⟩
      clear hpost hl2 hn' hG hno hl12 hl1
      unfold zeroM
      go_wp2_with (fail)
      (try simp only [Exit.inBlock, Exit.then]); refine bodyPost_ret (results_tmp4 rfl _ _ _) rfl ?_
      exact (HF _).out
    · obtain rfl : n = n' := by rw [← hn', HG.out.rows]
      obtain rfl : m = m' := by
        obtain ⟨l, hl, hm1⟩ := HG.out.row (i := 0) (by omega)
        exact hm1.symm.trans (BO.good.cols 0 l hl)
      have hres := BO.res
      have hmin := BO.min
      have hfar := BO.far.1
      obtain ⟨C, hC⟩ : ∃ C, C = costN (cst (priL js qs bend trim)) to n := ⟨_, rfl⟩
      obtain ⟨bl, hbl⟩ : ∃ bl : List Value, bl = [.slice (some ⟨gt, 0, none⟩) n n, .slice (some ⟨gu, 0, none⟩) n n, .slice (some ⟨gv, 0, none⟩) m m, .int .i64 C] := ⟨_, rfl⟩
      have hbn : Blk 35 (w2.alloc (.cells #[.slice (some ⟨gt, 0, none⟩) n n, .slice (some ⟨gu, 0, none⟩) n n, .slice (some ⟨gv, 0, none⟩) m m, .int .i64 C] 35)) w2.heap.size bl := by rw [hbl]; exact Blk.new w2 35 _
      have hr1 := hres.alloc (.cells #[.slice (some ⟨gt, 0, none⟩) n n, .slice (some ⟨gu, 0, none⟩) n n, .slice (some ⟨gv, 0, none⟩) m m, .int .i64 C] 35)
      have hl3 := hl12.alloc hl12.size (.cells #[.slice (some ⟨gt, 0, none⟩) n n, .slice (some ⟨gu, 0, none⟩) n n, .slice (some ⟨gv, 0, none⟩) m m, .int .i64 C] 35)
      have hgt2 : gt < w2.heap.size := hres.lt
      rw [← hC]
      have HBX := Lib.hid hbn
      have HR := Lib.hid hr1
      have HL := Lib.hid hl3
      have HMIN := Lib.hid hmin
      have HC := Lib.hid hC
      have HBL := Lib.hid hbl
      have hwg : w.heap.size ≤ gt := Nat.le_trans hl1.size hfar
      clear hpost hn' BO hres hmin hfar hbn hr1 hl3 hC hbl hl1 hl2 hl12 HBE HTB HCK HT
      go_upto_region 7 with (fail)
      obtain ⟨gb, hgb⟩ : ∃ q, q = w2.heap.size := ⟨_, rfl⟩
      rw [← hgb] at HBX hgt2 ⊢
      clear hgb
      generalize w2.alloc (.cells #[.slice (some ⟨gt, 0, none⟩) n n, .slice (some ⟨gu, 0, none⟩) n n, .slice (some ⟨gv, 0, none⟩) m m, .int .i64 C] 35) = W3 at *
      have HV0 : Hid (VoM w (W3.alloc (.cells (Array.replicate n (.int .i64 0)) 3)) gb gt W3.heap.size n 0 bl to (offF js qs to)) := Lib.hid (by
        refine ⟨HBX.out.alloc _, HR.out.alloc _, ?_, ⟨HL.out.size, HBX.out.lt, HR.out.lt⟩, HL.out.alloc HL.out.size _⟩
        have e : fl (fun y => if y < 0 then offF js qs to y else 0) n = List.replicate n (.int .i64 0) := by
          rw [← fl_const]
          exact fl_congr (fun y _ => by rw [if_neg (by omega)])
        rw [e]
        have := Blk.new W3 3 (List.replicate n (.int .i64 0))
        simpa using this)
      clear HBX HR HL
      go_upto_region 8 with (fail)
      obtain ⟨q, hq⟩ : ∃ q, q = W3.heap.size := ⟨_, rfl⟩
      rw [← hq] at HV0 ⊢
      clear hq
      generalize W3.alloc (.cells (Array.replicate n (.int .i64 0)) 3) = W4 at *
      go_wp2_with (fail)
      go_loopw [42, 16, 17] (fun t _ _ wr => ∃ i : Nat, i ≤ n ∧ t = .int .i64 (i : Int) ∧ Hid (VoM w wr gb gt q n i bl to (offF js qs to))) (fun t _ _ _ => n - (intOf t).toNat)
      case atStart => exact ⟨0, Nat.zero_le _, rfl, HV0⟩
      case round =>
        clear HV0
        obtain ⟨i, hin, rfl, HV⟩ := hrel
        by_cases hlt : i < n
        · have hlt2 : (i : Int) < (n : Int) := by omega
          obtain ⟨g1, off, x, rfl, hg, hx, hc0, hc1⟩ := JAt.at_ (HKP.out wr HV.out.bel).1 (i := i) (by have := HN.out; omega)
          have htm : to i < m := (HMIN.out.asg.ok i hlt).1
          obtain ⟨g2, off2, y, rfl, hg2, hy, hc2, hc3⟩ := JAt.at_ (HKP.out wr HV.out.bel).2 (i := to i) (by have := HM.out; omega)
          obtain ⟨ja, jb⟩ := x
          obtain ⟨qa, qb⟩ := y
          simp only at hc0 hc1 hc2 hc3
          obtain ⟨-, -, -, hj, hqq⟩ := okS_t HOK.out
          have hjr := (okJ_t (hj _ (List.mem_of_getElem? hx))).2
          have hqr := (okJ_t (hqq _ (List.mem_of_getElem? hy))).2
          simp only at hjr hqr
          have hoff := offF_at (to := to) hx hy
          simp only at hoff
          obtain ⟨dv, hdv⟩ : ∃ d, d = offF js qs to i := ⟨_, rfl⟩
          have w3 : IntKind.i64.wrap (qb - jb) = dv := by rw [wrapI (by omega) (by omega), hdv]; exact hoff.symm
          have hV1 := HV.out.alloc (.cells #[.int .i64 ja, .int .i64 jb] 68)
          have hjx : Blk 68 (wr.alloc (.cells #[.int .i64 ja, .int .i64 jb] 68)) wr.heap.size [.int .i64 ja, .int .i64 jb] := Blk.new wr 68 _
          have hqc : (wr.alloc (.cells #[.int .i64 ja, .int .i64 jb] 68)).cell? ⟨g2, off2 + to i * 2 + 1, none⟩ = some (.int .i64 qb) := ((below_new wr (.cells #[.int .i64 ja, .int .i64 jb] 68)).cell (p := ⟨g2, off2 + to i * 2 + 1, none⟩) hg2).trans hc3
          have htI : (to i : Int) < (m : Int) := by omega
          have ht0 : (0 : Int) ≤ (to i : Int) := by omega
          have HDV := Lib.hid hdv
          have HV1 := Lib.hid hV1
          have HJX := Lib.hid hjx
          clear hx hy hj hqq hjr hqr hoff hdv hV1 hjx hc2 hc3 HV
          go_upto_region 11 with (fail)
          obtain ⟨jq, hjq⟩ : ∃ q, q = wr.heap.size := ⟨_, rfl⟩
          rw [← hjq] at HJX ⊢
          clear hjq hc0 hc1
          generalize wr.alloc (.cells #[.int .i64 ja, .int .i64 jb] 68) = V at *
          have x0 : V.cell? ⟨gb, 0, none⟩ = some (.slice (some ⟨gt, 0, none⟩) n n) := by rw [HV1.out.box.cell, HBL.out]; rfl
          have x1 : V.cell? ⟨gt, i, none⟩ = some (.int .i64 (to i : Int)) := by rw [HV1.out.res.cell, fl_at hlt]
          have x2 : V.cell? ⟨jq, 1, none⟩ = some (.int .i64 jb) := HJX.out.cell 1
          have x3 : V.cell? ⟨q, i, none⟩ = some (.int .i64 0) := by rw [HV1.out.cur.cell, fl_at hlt, if_neg (by omega)]
          have x4 := HV1.out.cur.frozen
          have HN1 : Hid (VoM w (V.drew.setCell ⟨q, i, none⟩ (.int .i64 dv)) gb gt q n (i + 1) bl to (offF js qs to)) := Lib.hid (by rw [HDV.out]; exact (HV1.out.drewN 1).next)
          clear HV1 HJX
          go_still_tail 15, (by kernel_rfl)
          change wpList _ _ _ _ _ V.drew
          go_wp2_with (fail)
          go_roundw
          case rel => exact ⟨i + 1, by omega, by go_num, HN1⟩
          case measure => simp [intOf]; omega
        · obtain rfl : i = n := by omega
          have y0 : wr.cell? ⟨gb, 0, none⟩ = some (.slice (some ⟨gt, 0, none⟩) i i) := by rw [HV.out.box.cell, HBL.out]; rfl
          have y3 : wr.cell? ⟨gb, 3, none⟩ = some (.int .i64 C) := by rw [HV.out.box.cell, HBL.out]; rfl
          have HF : ∀ z, Hid (VoiPost w js qs bend trim i m (.returned (.tuple #[.slice (some ⟨gt, 0, none⟩) i i, .slice (some ⟨q, 0, none⟩) i i, .int .i64 C, .int .i64 0])) (wr.drewN z)) := fun z => Lib.hid (by
            have h := HV.out.drewN z
            refine ⟨h.bel, .inr (.inr ⟨HOK.out, gt, q, to, ⟨⟨hwg, h.far.1⟩, h.res, ?_, HMIN.out⟩, by rw [HC.out]⟩)⟩
            have := h.cur
            rwa [fl_congr (f := fun y => if y < i then offF js qs to y else 0) (g := offF js qs to) (fun y hy => by rw [if_pos hy])] at this)
          clear HV
          go_wp2_with (fail)
          go_quiet (fail)
          go_wp2
          (try simp only [Exit.inBlock, Exit.then]); refine bodyPost_ret (results_tmp4 rfl _ _ _) rfl ?_
          exact (HF _).out
end Go.Proofs.Ytncmfjncdhhjoaa
