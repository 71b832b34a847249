/- The walk of MatchWithouts. -/
import Derived.Test.YtncmfjncdhhjoaaWWo
import Derived.Test.YtncmfjncdhhjoaaWRWo
import Derived.Test.YtncmfjncdhhjoaaWRBt
import Derived.Test.YtncmfjncdhhjoaaWOwT
import Derived.Deep.Cut
namespace Go.Proofs.Ytncmfjncdhhjoaa
open Go.RowKit

set_option maxHeartbeats 8000000 in
set_option maxRecDepth 100000 in
theorem withouts_bad (A : Option Addr) (c L : Nat) (row : Int) (ls : List (List Int)) (w : World) (T : TabIn w A ls) (hL : L = ls.length) (hchk : chkT (tblL ls 66 66) = false) :
    Calls Try.prog 8 #[.slice A L c, .int .i64 row] w fun e w' => e = .returned (.bool true) ∧ Below w.heap.size w w' := by
  have htb := table_any A c L 66 66 ls w T hL (by omega) (by omega)
  have HTB := Lib.hid htb
  generalize tblL ls 66 66 = ts at *
  have hce : ckE ts = 1 := by unfold ckE; rw [hchk]; rfl
  have HCE := Lib.hid hce
  have HCH := Lib.hid hchk
  clear htb T hL hce hchk
  go_enter Try.func8, Try.ntmps8
  go_wp2_with (fail)
  refine (HTB.out).mono ?_
  rintro e w1 ⟨v, es, rfl, hH, hv, hN, hE, hl1⟩
  obtain ⟨g, cap, rfl, hT⟩ := ownT_of hH hv hN hE
  have hck := refCheck_any w1.heap.size (some ⟨g, 0, none⟩) cap ts.length ts w1 hT.tab rfl
  rw [HCE.out] at hck
  have HCK := Lib.hid hck
  have HT := Lib.hid hT
  clear hH hv hN hE hT hck HTB
  go_wp2_with (fail)
  refine (HCK.out).mono ?_
  rintro e w2 ⟨rfl, hl2⟩
  have hl12 := hl1.trans (hl2.mono hl1.size)
  have HT2 := Lib.hid (HT.out.keep hl2)
  have hwo := without_any (some ⟨g, 0, none⟩) cap ts.length ts row w2 HT2.out.tab rfl
  have HWO := Lib.hid hwo
  clear HCK HT hwo
  go_wp2_with (fail)
  refine (HWO.out).mono ?_
  rintro e w3 ⟨hl3, ⟨-, rfl⟩ | ⟨n, m, r, hc, -⟩⟩
  · have hl13 := hl12.trans (hl3.mono hl12.size)
    go_wp2_with (go_at_call 26; refine (lives_any _).mono ?_; rintro e w5 ⟨rfl, hl5⟩)
    go_ret
    exact ⟨rfl, hl13.trans (hl5.mono hl13.size)⟩
  · rw [HCH.out] at hc; cases hc

set_option maxHeartbeats 16000000 in
set_option maxRecDepth 100000 in
theorem withouts_good (A : Option Addr) (c L : Nat) (row : Int) (ls : List (List Int)) (w : World) (T : TabIn w A ls) (hL : L = ls.length) (hchk : chkT (tblL ls 66 66) = true) :
    Calls Try.prog 8 #[.slice A L c, .int .i64 row] w fun e w' => e = .returned (.bool true) ∧ Below w.heap.size w w' := by
  have htb := table_any A c L 66 66 ls w T hL (by omega) (by omega)
  have HTB := Lib.hid htb
  generalize tblL ls 66 66 = ts at *
  have hce : ckE ts = 0 := by unfold ckE; rw [hchk]; rfl
  have HCE := Lib.hid hce
  have HCH := Lib.hid hchk
  clear htb T hL hce hchk
  go_enter Try.func8, Try.ntmps8
  go_wp2_with (fail)
  refine (HTB.out).mono ?_
  rintro e w1 ⟨v, es, rfl, hH, hv, hN, hE, hl1⟩
  obtain ⟨g, cap, rfl, hT⟩ := ownT_of hH hv hN hE
  have hck := refCheck_any w1.heap.size (some ⟨g, 0, none⟩) cap ts.length ts w1 hT.tab rfl
  rw [HCE.out] at hck
  have HCK := Lib.hid hck
  have HT := Lib.hid hT
  clear hH hv hN hE hT hck HTB
  go_wp2_with (fail)
  refine (HCK.out).mono ?_
  rintro e w2 ⟨rfl, hl2⟩
  have hl12 := hl1.trans (hl2.mono hl1.size)
  have HT2 := Lib.hid (HT.out.keep hl2)
  obtain ⟨N, hN⟩ : ∃ N, N = ts.length := ⟨_, rfl⟩
  rw [← hN]
  have HN := Lib.hid hN
  obtain ⟨n0, m0, hn0, -, b1, b2, b3, G0⟩ := chkT_good HCH.out
  obtain ⟨g', off', A0, c0, eA, -, hc0, -⟩ := G0.at_ HT2.out.tab (i := 0) (by omega)
  injection eA with eA
  injection eA with e1 e2
  subst e1 e2
  have hc0' : w2.cell? ⟨g, 0, none⟩ = some (.slice A0 m0 c0) := hc0
  have hNI : (0 : Int) < (N : Int) := by omega
  have hN0 : 0 < N := by omega
  have HB := Lib.hid (show (N ≤ m0 ∧ m0 ≤ 64) by omega)
  clear HCK HT hN hl2 hl1 G0 hc0 hn0 b1 b2 b3
  go_upto_region 3 with (fail)
  go_cut [29] from 12 (fun s ww => s = .bool (decide (5 < N) || decide (6 < m0)) ∧ ww = w2)
  case first =>
    by_cases h5 : 5 < N
    · have d1 : decide (N > 5) = true := by simpa using h5
      have d2 : decide (5 < N) = true := by simpa using h5
      have d3 : decide ((5 : Int) < (N : Int)) = true := by simp; omega
      clear h5
      go_wp2_with (fail)
      go_meet
      case rel => exact ⟨by simp [d2], rfl⟩
    · have d1 : decide (N > 5) = false := by simpa using h5
      have d2 : decide (5 < N) = false := by simpa using h5
      have d3 : decide ((5 : Int) < (N : Int)) = false := by simp; omega
      clear h5
      go_wp2_with (fail)
      go_meet
      case rel =>
        refine ⟨?_, rfl⟩
        rw [d2, Bool.false_or]
        have e : decide ((6 : Int) < (m0 : Int)) = decide (6 < m0) := by simp; omega
        first | rfl | (rw [e]) | (simp; done) | (simp; omega)
  case rest =>
  obtain ⟨rfl, rfl⟩ := hcut
  obtain ⟨bb, hbb⟩ : ∃ bb, bb = (decide (5 < N) || decide (6 < m0)) := ⟨_, rfl⟩
  rw [← hbb]
  clear hbb
  go_upto_if 29 with (fail)
  go_cut [5] from 12 (fun s ww => ∃ (g cap N : Nat) (us : List (List Int)), s = .slice (some ⟨g, 0, none⟩) N cap ∧ Hid (N = us.length) ∧ Hid (chkT us = true) ∧ Hid (OwnT ww g us) ∧ Below w.heap.size w ww)
  case first =>
    cases bb with
    | true =>
      have htb := table_any (some ⟨g, 0, none⟩) cap N 5 6 ts wc HT2.out.inn HN.out (by omega) (by omega)
      have HTB := Lib.hid htb
      clear htb
      go_wp2_with (fail)
      refine (HTB.out).mono ?_
      rintro e w3 ⟨v, es, rfl, hH, hv, hN, hE, hl3⟩
      obtain ⟨g3, cap3, rfl, hT3⟩ := ownT_of hH hv hN hE
      have HT3 := Lib.hid hT3
      have HC3 := Lib.hid (chkT_tbl (R := 5) (C := 6) HCH.out (by omega) (by omega))
      have hl13 := hl12.trans (hl3.mono hl12.size)
      obtain ⟨N3, hN3⟩ : ∃ N3, N3 = (tblL ts 5 6).length := ⟨_, rfl⟩
      rw [← hN3]
      have HN3 := Lib.hid hN3
      clear hH hv hN hE hT3 hN3 HTB
      go_wp2_with (fail)
      go_meet
      case rel => exact ⟨g3, cap3, N3, _, rfl, HN3, HC3, HT3, hl13⟩
    | false =>
      go_wp2_with (fail)
      go_meet
      case rel => exact ⟨g, cap, N, ts, rfl, HN, HCH, HT2, hl12⟩
  case rest =>
  clear HT2 HN HCH HCE hl12 hc0' hNI hN0 HB
  obtain ⟨g, cap, N, us, rfl, HN, HCH, HT, hlc⟩ := hcut
  have hwo := without_any (some ⟨g, 0, none⟩) cap N us row wc HT.out.tab HN.out
  have HWO := Lib.hid hwo
  clear hwo
  go_wp2_with (fail)
  refine (HWO.out).mono ?_
  rintro e w3 ⟨hl3, ⟨hbad, rfl⟩ | ⟨n, m, r, -, hn, rfl, hr, hG, ⟨d1, d2⟩, hcase⟩⟩
  · have hl13 := hlc.trans (hl3.mono hlc.size)
    have hor : row < 0 ∨ ((0 : Int) ≤ row ∧ (N : Int) ≤ row) := by
      have := HN.out
      rcases hbad with h | h | h
      · rw [HCH.out] at h; cases h
      · exact .inl h
      · by_cases h0 : row < 0
        · exact .inl h0
        · exact .inr ⟨by omega, by omega⟩
    clear hbad HWO
    rcases hor with h | ⟨h, h'⟩
    · have hd : decide (row < 0) = true := by simpa using h
      clear h
      go_wp2_with (go_at_call 26; refine (lives_any _).mono ?_; rintro e w5 ⟨rfl, hl5⟩)
      go_ret
      exact ⟨rfl, hl13.trans (hl5.mono hl13.size)⟩
    · have hd : decide (row < 0) = false := by simpa using h
      have hd2 : decide ((N : Int) ≤ row) = true := by simpa using h'
      have hd3 : decide (row ≥ (N : Int)) = true := by simpa using h'
      clear h h'
      go_wp2_with (go_at_call 26; refine (lives_any _).mono ?_; rintro e w5 ⟨rfl, hl5⟩)
      go_ret
      exact ⟨rfl, hl13.trans (hl5.mono hl13.size)⟩
  · have hl13 := hlc.trans (hl3.mono hlc.size)
    have HT3 := Lib.hid (HT.out.keep hl3)
    have hNn : N = n + 1 := by have := HN.out; omega
    have hd : decide ((r : Int) < 0) = false := by simp
    have hd2 : decide ((N : Int) ≤ (r : Int)) = false := by simp; omega
    have hd3 : decide ((r : Int) ≥ (N : Int)) = false := by simp; omega
    have hd4 : decide (N ≤ r) = false := by simp; omega
    have hrw := refWithout_any (some ⟨g, 0, none⟩) cap N n m r us w3 HT3.out.tab hNn hG hr (by omega)
    have HRW := Lib.hid hrw
    have HG2 := Lib.hid (hG.erase hr)
    have HG := Lib.hid hG
    have HR := Lib.hid hr
    have HCASE := Lib.hid hcase
    have HD := Lib.hid (show n ≤ m ∧ m ≤ 64 by omega)
    clear hrw hG hr d1 d2 hn hNn HWO HCASE
    rcases hcase with ⟨s, hs, rfl⟩ | ⟨hno, rfl⟩
    · have HS := Lib.hid hs
      clear hs
      go_wp2_with (fail)
      refine (HRW.out).mono ?_
      rintro e w4 ⟨g4, cap4, rfl, hT4, hl4⟩
      have hl14 := hl13.trans (hl4.mono hl13.size)
      have hrb := refBest_any _ cap4 n m (some ⟨g4, 0, none⟩) (us.eraseIdx r) HD.out.1 HD.out.2 HG2.out.1 w4 hT4 (Nat.le_refl _)
      have HRB := Lib.hid hrb
      clear hrb hT4 HRW
      go_wp2_with (fail)
      refine (HRB.out).mono ?_
      rintro e w5 ⟨hl5, ad, c5, lt, least, b, rfl, hI5, ⟨rfl, hA, hM, hco⟩ | ⟨rfl, hno⟩⟩
      · have hsl : s = least := by
          obtain ⟨τ, t1, t2, t3⟩ := HS.out
          have k1 := t3 (colOf lt) ((asg_cst HG.out HR.out).1 hM.asg)
          rw [cost_cst HG.out HR.out, hco] at k1
          have k2 := hM.least τ ((asg_cst HG.out HR.out).2 t1)
          rw [hco, ← cost_cst HG.out HR.out, t2] at k2
          omega
        subst hsl
        have hl15 := hl14.trans (hl5.mono hl14.size)
        clear hA hM hco hI5 HRB
        go_wp2_with (go_at_call 26; refine (lives_any _).mono ?_; rintro e w6 ⟨rfl, hl6⟩)
        go_ret
        exact ⟨rfl, hl15.trans (hl6.mono hl15.size)⟩
      · exfalso
        obtain ⟨τ, t1, -, -⟩ := HS.out
        exact hno τ ((asg_cst HG.out HR.out).2 t1)
    · have HNO := Lib.hid hno
      clear hno
      go_wp2_with (fail)
      refine (HRW.out).mono ?_
      rintro e w4 ⟨g4, cap4, rfl, hT4, hl4⟩
      have hl14 := hl13.trans (hl4.mono hl13.size)
      have hrb := refBest_any _ cap4 n m (some ⟨g4, 0, none⟩) (us.eraseIdx r) HD.out.1 HD.out.2 HG2.out.1 w4 hT4 (Nat.le_refl _)
      have HRB := Lib.hid hrb
      clear hrb hT4 HRW
      go_wp2_with (fail)
      refine (HRB.out).mono ?_
      rintro e w5 ⟨hl5, ad, c5, lt, least, b, rfl, hI5, ⟨rfl, hA, hM, hco⟩ | ⟨rfl, hno⟩⟩
      · exact absurd ((asg_cst HG.out HR.out).1 hM.asg) (HNO.out _)
      · have hl15 := hl14.trans (hl5.mono hl14.size)
        clear hno hI5 HRB
        go_wp2_with (go_at_call 26; refine (lives_any _).mono ?_; rintro e w6 ⟨rfl, hl6⟩)
        go_ret
        exact ⟨rfl, hl15.trans (hl6.mono hl15.size)⟩

theorem matchWithouts_any (A : Option Addr) (c L : Nat) (row : Int) (ls : List (List Int)) (w : World) (T : TabIn w A ls) (hL : L = ls.length) :
    Calls Try.prog 8 #[.slice A L c, .int .i64 row] w fun e w' => e = .returned (.bool true) ∧ Below w.heap.size w w' := by
  cases h : chkT (tblL ls 66 66) with
  | false => exact withouts_bad A c L row ls w T hL h
  | true => exact withouts_good A c L row ls w T hL h
end Go.Proofs.Ytncmfjncdhhjoaa
