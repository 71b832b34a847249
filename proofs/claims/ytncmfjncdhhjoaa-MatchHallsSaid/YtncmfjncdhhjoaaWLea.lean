/- The walk of MatchLeast. -/
import Derived.Test.YtncmfjncdhhjoaaWLiw
import Derived.Test.YtncmfjncdhhjoaaWTbl
import Derived.Test.YtncmfjncdhhjoaaWRTot
namespace Go.Proofs.Ytncmfjncdhhjoaa
open Go.RowKit

theorem good_eq {n m n' m' : Nat} {ls : List (List Int)} (h : Good n m ls) (g : Good n' m' ls) (h1 : 1 ≤ n) : n = n' ∧ m = m' := by
  refine ⟨h.rows.symm.trans g.rows, ?_⟩
  obtain ⟨l, hl, hm⟩ := h.row (i := 0) (by omega)
  exact hm.symm.trans (g.cols 0 l hl)
theorem held_len {es : List (Value × List Int)} {ls : List (List Int)} (h : es.map (·.2) = ls) : es.length = ls.length := by rw [← h, List.length_map]

set_option maxHeartbeats 8000000 in
set_option maxRecDepth 100000 in
theorem matchLeast_any (A A' : Option Addr) (c c' L L' : Nat) (ls : List (List Int)) (l0 : List Int) (w : World) (T : TabIn w A ls) (hL : L = ls.length) (hA' : Ints w A' l0) (hL' : L' = l0.length) (hc' : L' ≤ c') (hnil : A' = none → c' = 0) :
    Calls Try.prog 12 #[.slice A L c, .slice A' L' c'] w fun e w' => e = .returned (.bool true) ∧ Below w.heap.size w w' := by
  have htb := table_any A c L 40 44 ls w T hL (by omega) (by omega)
  have hct := fun W (h : Below w.heap.size w W) => cut_any A' c' L' 40 l0 W (hA'.keep h) hL' hc' hnil (by omega)
  have HTB := Lib.hid htb
  have HCT := Lib.hid hct
  have hl40 : (l0.take 40).length ≤ 1000 := by rw [List.length_take]; omega
  generalize l0.take 40 = l at *
  generalize tblL ls 40 44 = ts at *
  clear htb hct T hA' hL hL' hc' hnil
  go_enter Try.func12, Try.ntmps12
  go_wp2_with (first
    | (go_at_call 21; refine (HTB.out).mono ?_; rintro e w1 ⟨v, es, rfl, hH, hv, hN, hE, hl1⟩
       obtain ⟨g, cap, he, hT⟩ := hH.tab hv hN
       rw [hE] at hT
       rw [held_len hE] at he
       subst he
       have HTT := Lib.hid hT
       clear hH hv hN hE hT)
    | (go_at_call 22; refine (HCT.out _ hl1).mono ?_; rintro e w2 ⟨v2, rfl, _, ⟨g2, cap2, he2, hI2⟩, hl2⟩
       subst he2
       have HI2 := Lib.hid hI2
       have HTT2 := Lib.hid ((HTT.out).keep hl2)
       clear hI2))
  have hl12 := hl1.trans (hl2.mono hl1.size)
  have hck := refCheck_any w1.heap.size (some ⟨g, 0, none⟩) cap ts.length ts w2 HTT2.out rfl
  cases hchk : chkT ts with
  | false =>
    have hce : ckE ts = 1 := by unfold ckE; rw [hchk]; rfl
    rw [hce] at hck
    have HCK := Lib.hid hck
    clear hck hce hchk
    refine (HCK.out).mono ?_
    rintro e w3 ⟨rfl, hl3⟩
    have hl13 := hl12.trans (hl3.mono hl12.size)
    go_wp2_with (go_at_call 26; refine (lives_any _).mono ?_; rintro e w4 ⟨rfl, hl4⟩)
    go_ret
    exact ⟨rfl, hl13.trans (hl4.mono hl13.size)⟩
  | true =>
    have hce : ckE ts = 0 := by unfold ckE; rw [hchk]; rfl
    rw [hce] at hck
    obtain ⟨n, m, hn, hm, h1, h2, h3, G⟩ := chkT_good hchk
    have HCK := Lib.hid hck
    have HG := Lib.hid G
    have HCH := Lib.hid hchk
    have HNN := Lib.hid hn
    clear hck hce hchk hm G hn
    refine (HCK.out).mono ?_
    rintro e w3 ⟨rfl, hl3⟩
    have hl13 := hl12.trans (hl3.mono hl12.size)
    have HTT3 := Lib.hid (((HTT2.out).keep (hl3.mono hl2.size)).mono (show w1.heap.size ≤ w3.heap.size by have := hl2.size; have := hl3.size; omega))
    have HI3 := Lib.hid (Vals.keep HI2.out hl3)
    have hbe := best_any (some ⟨g, 0, none⟩) cap ts.length ts w3 HTT3.out rfl
    have HBE := Lib.hid hbe
    clear hbe
    go_wp2_with (fail)
    refine (HBE.out).mono ?_
    intro e w4 hpost
    have hl4 := hpost.1
    have hl14 := hl13.trans (hl4.mono hl13.size)
    have HTT4 := Lib.hid ((HTT3.out).keep hl4)
    have HI4 := Lib.hid (Vals.keep HI3.out hl4)
    have HTO := Lib.hid (fun W (hW : Below w4.heap.size w4 W) => refTotal_any w3.heap.size n m cap cap2 l.length (some ⟨g, 0, none⟩) (some ⟨g2, 0, none⟩) ts l W ((HTT4.out).keep (hW.mono hl4.size)) HG.out (Vals.keep HI4.out hW) rfl h1 h2 h3 hl40)
    have hts : (ts.length : Int) = (n : Int) := by rw [HNN.out]
    rw [HNN.out]
    rcases hpost.2 with ⟨hf, _⟩ | ⟨n', m', _, _, hG', _, hno, rfl⟩ | ⟨n', m', gt, gu, gv, to, u, v, _, hn', BO, rfl⟩
    · rw [HCH.out] at hf; cases hf
    · obtain ⟨rfl, rfl⟩ := good_eq HG.out hG' h1
      have HNO := Lib.hid hno
      clear hno hG' hpost hl4 HBE HCK HTB HCT
      unfold zeroM
      go_wp2_with (first
        | (go_at_call 27; refine (HTO.out _ (below_new w4 _)).mono ?_; rintro e w5 ⟨hl5, ⟨ha, rfl⟩ | ⟨hna, rfl⟩⟩)
        | (go_at_call 26; refine (lives_any _).mono ?_; rintro e w6 ⟨rfl, hl6⟩))
      · exact absurd ha.asg (HNO.out _)
      · have n1 := below_new w4 (.cells #[.slice none 0 0, .slice none 0 0, .slice none 0 0, .int .i64 0] 35)
        have q1 := hl14.trans (n1.mono hl14.size)
        have q2 := q1.trans (hl5.mono q1.size)
        go_ret
        exact ⟨rfl, q2.trans (hl6.mono q2.size)⟩
    · obtain ⟨rfl, rfl⟩ := good_eq HG.out BO.good h1
      have hmin := BO.min
      have HMIN := Lib.hid hmin
      have HRES := Lib.hid BO.res
      clear BO hpost hl4 HBE HCK HTB HCT hn' hmin
      generalize hcs : costN (cst ts) to n = cs at *
      have HCS := Lib.hid hcs
      clear hcs
      go_wp2_with (first
        | (go_at_call 27; refine (HTO.out _ (below_new w4 _)).mono ?_; intro e w5 hp5
           have hl5 := hp5.1
           have hr : Blk 35 w5 w4.heap.size [.slice (some ⟨gt, 0, none⟩) n n, .slice (some ⟨gu, 0, none⟩) n n, .slice (some ⟨gv, 0, none⟩) m m, .int .i64 cs] := (Blk.new w4 35 _).keep hl5
           have hbt := (HRES.out.alloc (.cells #[.slice (some ⟨gt, 0, none⟩) n n, .slice (some ⟨gu, 0, none⟩) n n, .slice (some ⟨gv, 0, none⟩) m m, .int .i64 cs] 35)).keep hl5
           have HBT := Lib.hid hbt
           have HRR := Lib.hid hr
           have n1 := below_new w4 (.cells #[.slice (some ⟨gt, 0, none⟩) n n, .slice (some ⟨gu, 0, none⟩) n n, .slice (some ⟨gv, 0, none⟩) m m, .int .i64 cs] 35)
           have q1 := hl14.trans (n1.mono hl14.size)
           have q2 := q1.trans (hl5.mono q1.size)
           have HI5 := Lib.hid (Vals.keep (Vals.keep HI4.out n1) hl5)
           have r3 : w5.cell? ⟨w4.heap.size, 3, none⟩ = some (.int .i64 cs) := hr.cell 3
           have r0 : w5.cell? ⟨w4.heap.size, 0, none⟩ = some (.slice (some ⟨gt, 0, none⟩) n n) := hr.cell 0
           have hcase := hp5.2
           clear hp5 hr hbt n1 q1
           rcases hcase with ⟨ha, rfl⟩ | ⟨hna, rfl⟩
           have hle : ¬ (costN (cst ts) (colOf l) n < cs) := by
             have := HMIN.out.least _ ha.asg
             rw [HCS.out] at this; omega
           have hleb : decide (costN (cst ts) (colOf l) n < cs) = false := by simpa using hle
           have hlen := ha.len
           have hlb : ((n : Int) != (l.length : Int)) = false := by rw [hlen]; simp
           have HAA := Lib.hid ha
           clear ha hle hlen)
        | (go_at_call 26; refine (lives_any _).mono ?_; rintro e w6 ⟨rfl, hl6⟩))
      · have hbt6 := HBT.out.keep hl6
        have hr6 := HRR.out.keep hl6
        have HI6 := Lib.hid (Vals.keep HI5.out hl6)
        have q3 : Below w.heap.size w w6 := q2.trans (hl6.mono q2.size)
        have HB6 := Lib.hid hbt6
        have s3 : w6.cell? ⟨w4.heap.size, 3, none⟩ = some (.int .i64 cs) := hr6.cell 3
        have s0 : w6.cell? ⟨w4.heap.size, 0, none⟩ = some (.slice (some ⟨gt, 0, none⟩) n n) := hr6.cell 0
        clear hbt6 hr6 r3 r0 hlb hleb
        go_loopw [11] (fun t wr => ∃ i z : Nat, i ≤ n ∧ t = .int .i64 (i : Int) ∧ Hid (∀ j, j < i → costN (cst ts) (colOf l) n = cs ∧ to j = colOf l j) ∧ wr = w6.drewN z) (fun t _ => n - (intOf t).toNat)
        case atStart => exact ⟨0, 0, Nat.zero_le _, rfl, Lib.hid (fun j hj => by omega), rfl⟩
        case round =>
          obtain ⟨i, z, hi, rfl, HE, rfl⟩ := hrel
          by_cases hlt : i < n
          · have hd : decide ((i : Int) < (l.length : Int)) = true := by have := HAA.out.len; simp; omega
            have hd2 : decide (i < l.length) = true := by have := HAA.out.len; simp; omega
            by_cases hcc : cs = costN (cst ts) (colOf l) n
            · have hbb : (cs == costN (cst ts) (colOf l) n) = true := by simpa using hcc
              have ct := HB6.out.int hlt
              obtain ⟨g5, off5, x, e5, hg5, hx, hcx⟩ := Ints.at_ HI6.out (i := i) (by have := HAA.out.len; omega)
              injection e5 with e5
              injection e5 with e6 e7
              subst e6 e7
              rw [Nat.zero_add] at hcx
              have hgx : l.getD i 0 = x := by rw [List.getD_eq_getElem?_getD, hx]; rfl
              have hxp : 0 ≤ x := by rw [← hgx]; exact HAA.out.pos i hlt
              have hco : colOf l i = x.toNat := by unfold colOf; rw [hgx]
              have hle : to i ≤ colOf l i := HMIN.out.lex _ HAA.out.asg (by rw [HCS.out]; exact hcc.symm) i hlt (fun b hb => ((HE.out b hb).2).symm)
              rw [hco] at hle
              have HCO := Lib.hid hco
              have hlx : i < l.length := by have := HAA.out.len; omega
              have hlx2 : (i : Int) < (l.length : Int) := by omega
              clear hx hgx hco
              have HCC := Lib.hid hcc
              clear hcc
              by_cases hne : (to i : Int) = x
              · have hnb : ((to i : Int) != x) = false := by simpa using hne
                have HE2 : Hid (∀ j, j < i + 1 → costN (cst ts) (colOf l) n = cs ∧ to j = colOf l j) := Lib.hid (fun j hj => by
                  by_cases e : j = i
                  · subst e; exact ⟨HCC.out.symm, by rw [HCO.out]; omega⟩
                  · exact HE.out j (by omega))
                clear hne
                generalize to i = ti at *
                go_wp2_with (fail)
                go_quiet (fail)
                go_wp2_with (fail)
                go_roundw
                case rel => exact ⟨i + 1, _, by omega, by go_num, HE2, rfl⟩
                case measure => simp [intOf]; omega
              · have hnb : ((to i : Int) != x) = true := by simpa using hne
                have hlt2 : (to i : Int) < x := by omega
                have hltb : decide ((to i : Int) < x) = true := by simpa using hlt2
                clear hne hlt2 hle
                generalize to i = ti at *
                go_wp2_with (fail)
                go_quiet (fail)
                go_wp2_with (fail)
                go_quiet (fail)
                go_wp2
                go_ret
                exact ⟨by first | rfl | (rw [hltb]; rfl), by first | exact below_drewN q3 _ | exact below_drewN (below_drewN q3 _) _ | exact below_drewN (below_drewN (below_drewN q3 _) _) _⟩
            · have hbb : (cs == costN (cst ts) (colOf l) n) = false := by simpa using hcc
              clear hcc
              go_wp2
              go_ret
              exact ⟨rfl, below_drewN q3 _⟩
          · have hd : decide ((i : Int) < (l.length : Int)) = false := by have := HAA.out.len; simp; omega
            have hd2 : decide (i < l.length) = false := by have := HAA.out.len; simp; omega
            go_wp2
            go_ret
            exact ⟨rfl, below_drewN q3 _⟩
      · go_ret
        exact ⟨rfl, q2.trans (hl6.mono q2.size)⟩

end Go.Proofs.Ytncmfjncdhhjoaa
