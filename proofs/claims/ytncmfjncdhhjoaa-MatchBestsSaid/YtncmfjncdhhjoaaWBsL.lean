/- The walk of MatchBests. -/
import Derived.Test.YtncmfjncdhhjoaaWRBt
import Derived.Test.YtncmfjncdhhjoaaWDua
import Derived.Test.YtncmfjncdhhjoaaWShi
import Derived.Deep.Cut
namespace Go.Proofs.Ytncmfjncdhhjoaa
open Go.RowKit

/-- A table of the call's own, with all that the laws ask of it. -/
structure OwnT (w : World) (g : Nat) (us : List (List Int)) : Prop where
  tab : Tab w.heap.size w (some ⟨g, 0, none⟩) us
  inn : TabIn w (some ⟨g, 0, none⟩) us
theorem ownT_of {B : Nat} {w : World} {v : Value} {es : List (Value × List Int)} {us : List (List Int)} (h : Held B w v es) (hv : v ≠ .slice none 0 0) (hn : ∀ x, x ∈ es → x.1 ≠ .slice none 0 0) (he : es.map (·.2) = us) :
    ∃ g cap, v = .slice (some ⟨g, 0, none⟩) us.length cap ∧ OwnT w g us := by
  subst he
  obtain ⟨g, cap, e, hT⟩ := h.tab hv hn
  obtain ⟨g', cap', e', hTI⟩ := h.tabIn hv hn
  rw [e] at e'
  injection e' with e1 e2 e3
  injection e1 with e1
  injection e1 with e1
  subst e1
  exact ⟨g, cap, by rw [e, List.length_map], hT, hTI⟩
theorem OwnT.keep {w w' : World} {g : Nat} {us : List (List Int)} (h : OwnT w g us) (hb : Below w.heap.size w w') : OwnT w' g us := ⟨(h.tab.keep hb).mono hb.size, h.inn.keep hb⟩
theorem chkT_tbl {ts : List (List Int)} {R C : Nat} (h : chkT ts = true) (hR : 1 ≤ R) (hRC : R ≤ C) : chkT (tblL ts R C) = true := by
  obtain ⟨n, m, hn, hm, h1, h2, h3, G⟩ := chkT_good h
  have hat : ∀ i l, (tblL ts R C)[i]? = some l → ∃ l', ts[i]? = some l' ∧ l = l'.take C ∧ i < R := fun i l hl => by
    unfold tblL at hl
    rw [List.getElem?_map, List.getElem?_take] at hl
    split at hl
    · obtain ⟨l', hl', rfl⟩ := Option.map_eq_some_iff.1 hl
      exact ⟨l', hl', rfl, by assumption⟩
    · cases hl
  have hlen : (tblL ts R C).length = min R n := by unfold tblL; rw [List.length_map, List.length_take, hn]
  refine chkT_of (n := min R n) (m := min C m) ?_ ?_ ?_ ⟨hlen, fun i l hl => ?_, fun i k hi hk => ?_⟩
  · omega
  · omega
  · omega
  · obtain ⟨l', hl', rfl, _⟩ := hat i l hl
    rw [List.length_take, G.cols i l' hl']
  · obtain ⟨l, hl⟩ : ∃ l, (tblL ts R C)[i]? = some l := ⟨_, List.getElem?_eq_getElem (by rw [hlen]; exact hi)⟩
    obtain ⟨l', hl', rfl, _⟩ := hat i l hl
    have hkC : k < C := by omega
    have e : cst (tblL ts R C) i k = cst ts i k := by
      rw [cst_of hl, cst_of hl', List.getD_eq_getElem?_getD, List.getElem?_take, if_pos hkC, ← List.getD_eq_getElem?_getD]
    rw [e]
    exact G.rng i k (by omega) (by omega)
theorem list_of_asg {n m : Nat} {c : Nat → Nat → Int} {lt : List Int} {to : Nat → Nat} (h : IsAsg n m c lt) (e : ∀ i, i < n → to i = colOf lt i) : mpI (fun i => (to i : Int)) n = lt := by
  apply List.ext_getElem?
  intro i
  by_cases hi : i < n
  · have h1 : (mpI (fun i => (to i : Int)) n)[i]? = some (to i : Int) := by simp [mpI, hi]
    have h2 : lt[i]? = some (lt.getD i 0) := by rw [List.getD_eq_getElem?_getD, List.getElem?_eq_getElem (by rw [h.len]; exact hi)]; rfl
    have h3 := h.pos i hi
    have h4 := e i hi
    rw [h1, h2]
    unfold colOf at h4
    congr 1
    omega
  · rw [List.getElem?_eq_none (by rw [mpI_len]; omega), List.getElem?_eq_none (by rw [h.len]; omega)]

set_option maxHeartbeats 8000000 in
set_option maxRecDepth 100000 in
theorem bests_bad (A : Option Addr) (c L : Nat) (ls : List (List Int)) (w : World) (T : TabIn w A ls) (hL : L = ls.length) (hchk : chkT (tblL ls 66 66) = false) :
    Calls Try.prog 4 #[.slice A L c] w fun e w' => e = .returned (.bool true) ∧ Below w.heap.size w w' := by
  have htb := table_any A c L 66 66 ls w T hL (by omega) (by omega)
  have HTB := Lib.hid htb
  generalize tblL ls 66 66 = ts at *
  have hce : ckE ts = 1 := by unfold ckE; rw [hchk]; rfl
  have HCE := Lib.hid hce
  have HCH := Lib.hid hchk
  clear htb T hL hce hchk
  go_enter Try.func4, Try.ntmps4
  go_wp2_with (fail)
  refine (HTB.out).mono ?_
  rintro e w1 ⟨v, es, rfl, hH, hv, hN, hE, hl1⟩
  obtain ⟨g, cap, rfl, hT⟩ := ownT_of hH hv hN hE
  have hck := refCheck_any w1.heap.size (some ⟨g, 0, none⟩) cap ts.length ts w1 hT.tab rfl
  rw [HCE.out] at hck
  have HCK := Lib.hid hck
  have HT := Lib.hid hT
  clear hH hv hN hE hT hck HTB
  go_wp2_with (fail)
  refine (HCK.out).mono ?_
  rintro e w2 ⟨rfl, hl2⟩
  have hl12 := hl1.trans (hl2.mono hl1.size)
  have HT2 := Lib.hid (HT.out.keep hl2)
  have hbe := best_any (some ⟨g, 0, none⟩) cap ts.length ts w2 HT2.out.tab rfl
  have HBE := Lib.hid hbe
  clear HCK HT hbe
  go_wp2_with (fail)
  refine (HBE.out).mono ?_
  intro e w3 hpost
  have hl3 := hpost.1
  have hl13 := hl12.trans (hl3.mono hl12.size)
  rcases hpost.2 with ⟨_, rfl⟩ | ⟨n, m, hc, _⟩ | ⟨n, m, gt, gu, gv, to, u, v, hc, _⟩
  · have n1 := below_new w3 (.cells #[.slice none 0 0, .slice none 0 0, .slice none 0 0, .int .i64 0] 35)
    have q1 := hl13.trans (n1.mono hl13.size)
    have hbn : Blk 35 (w3.alloc (.cells #[.slice none 0 0, .slice none 0 0, .slice none 0 0, .int .i64 0] 35)) w3.heap.size [.slice none 0 0, .slice none 0 0, .slice none 0 0, .int .i64 0] := Blk.new w3 35 _
    have HBN := Lib.hid hbn
    have z0 := hbn.cell 0
    have z1 := hbn.cell 1
    have z2 := hbn.cell 2
    have z3 := hbn.cell 3
    clear hpost hbn
    unfold zeroM
    go_wp2_with (first
      | (go_at_call 29; refine (empty_ok _).mono ?_; rintro e w4 ⟨hl4, rfl⟩
         have q3 := q1.trans (hl4.mono q1.size))
      | (go_at_call 26; refine (lives_any _).mono ?_; rintro e w5 ⟨rfl, hl5⟩))
    go_ret
    exact ⟨rfl, q3.trans (hl5.mono q3.size)⟩
  · rw [HCH.out] at hc; cases hc
  · rw [HCH.out] at hc; cases hc

set_option maxHeartbeats 16000000 in
set_option maxRecDepth 100000 in
theorem bests_good (A : Option Addr) (c L : Nat) (ls : List (List Int)) (w : World) (T : TabIn w A ls) (hL : L = ls.length) (hchk : chkT (tblL ls 66 66) = true) :
    Calls Try.prog 4 #[.slice A L c] w fun e w' => e = .returned (.bool true) ∧ Below w.heap.size w w' := by
  have htb := table_any A c L 66 66 ls w T hL (by omega) (by omega)
  have HTB := Lib.hid htb
  generalize tblL ls 66 66 = ts at *
  have hce : ckE ts = 0 := by unfold ckE; rw [hchk]; rfl
  have HCE := Lib.hid hce
  have HCH := Lib.hid hchk
  clear htb T hL hce hchk
  go_enter Try.func4, Try.ntmps4
  go_wp2_with (fail)
  refine (HTB.out).mono ?_
  rintro e w1 ⟨v, es, rfl, hH, hv, hN, hE, hl1⟩
  obtain ⟨g, cap, rfl, hT⟩ := ownT_of hH hv hN hE
  have hck := refCheck_any w1.heap.size (some ⟨g, 0, none⟩) cap ts.length ts w1 hT.tab rfl
  rw [HCE.out] at hck
  have HCK := Lib.hid hck
  have HT := Lib.hid hT
  clear hH hv hN hE hT hck HTB
  go_wp2_with (fail)
  refine (HCK.out).mono ?_
  rintro e w2 ⟨rfl, hl2⟩
  have hl12 := hl1.trans (hl2.mono hl1.size)
  have HT2 := Lib.hid (HT.out.keep hl2)
  obtain ⟨N, hN⟩ : ∃ N, N = ts.length := ⟨_, rfl⟩
  rw [← hN]
  have HN := Lib.hid hN
  clear HCK HT hN hl2 hl1
  go_upto_if 20 with (fail)
  go_cut [3] from 10 (fun s ww => ∃ (g cap N : Nat) (us : List (List Int)), s = .slice (some ⟨g, 0, none⟩) N cap ∧ Hid (N = us.length) ∧ Hid (chkT us = true) ∧ Hid (OwnT ww g us) ∧ Below w.heap.size w ww)
  case first =>
    by_cases h5 : 5 < N
    · have d1 : decide (N > 5) = true := by simpa using h5
      have d2 : decide (5 < N) = true := by simpa using h5
      have d3 : decide ((5 : Int) < (N : Int)) = true := by simp; omega
      have htb := table_any (some ⟨g, 0, none⟩) cap N 5 7 ts w2 HT2.out.inn HN.out (by omega) (by omega)
      have HTB := Lib.hid htb
      clear htb h5
      rw [d3]
      go_wp2_with (fail)
      refine (HTB.out).mono ?_
      rintro e w3 ⟨v, es, rfl, hH, hv, hN, hE, hl3⟩
      obtain ⟨g3, cap3, rfl, hT3⟩ := ownT_of hH hv hN hE
      have HT3 := Lib.hid hT3
      have HC3 := Lib.hid (chkT_tbl (R := 5) (C := 7) HCH.out (by omega) (by omega))
      have hl13 := hl12.trans (hl3.mono hl12.size)
      obtain ⟨N3, hN3⟩ : ∃ N3, N3 = (tblL ts 5 7).length := ⟨_, rfl⟩
      rw [← hN3]
      have HN3 := Lib.hid hN3
      clear hH hv hN hE hT3 hN3 HTB
      go_wp2_with (fail)
      go_meet
      case rel => exact ⟨g3, cap3, N3, _, rfl, HN3, HC3, HT3, hl13⟩
    · have d1 : decide (N > 5) = false := by simpa using h5
      have d2 : decide (5 < N) = false := by simpa using h5
      have d3 : decide ((5 : Int) < (N : Int)) = false := by simp; omega
      clear h5
      rw [d3]
      go_wp2_with (fail)
      go_meet
      case rel => exact ⟨g, cap, N, ts, rfl, HN, HCH, HT2, hl12⟩
  case rest =>
  clear HT2 HN HCH HCE hl12
  obtain ⟨g, cap, N, us, rfl, HN, HCH, HT, hlc⟩ := hcut
  obtain ⟨n0, m0, hn0, hm0, b1, b2, b3, G0⟩ := chkT_good HCH.out
  obtain ⟨g', off', A0, c0, eA, _, hc0, _⟩ := G0.at_ HT.out.tab (i := 0) (by omega)
  injection eA with eA
  injection eA with e1 e2
  subst e1 e2
  have hc0' : wc.cell? ⟨g, 0, none⟩ = some (.slice A0 m0 c0) := hc0
  have hNI : (0 : Int) < (N : Int) := by have := HN.out; omega
  have hN0 : 0 < N := by omega
  clear hn0 hm0 G0 b1 b2 b3 hc0
  go_upto_if 31 with (fail)
  go_cut [3] from 10 (fun s ww => ∃ (g cap N : Nat) (us : List (List Int)), s = .slice (some ⟨g, 0, none⟩) N cap ∧ Hid (N = us.length) ∧ Hid (chkT us = true) ∧ Hid (OwnT ww g us) ∧ Below w.heap.size w ww)
  case first =>
    by_cases h5 : 7 < m0
    · have d1 : decide (m0 > 7) = true := by simpa using h5
      have d2 : decide (7 < m0) = true := by simpa using h5
      have d3 : decide ((7 : Int) < (m0 : Int)) = true := by simp; omega
      have htb := table_any (some ⟨g, 0, none⟩) cap N 5 7 us wc HT.out.inn HN.out (by omega) (by omega)
      have HTB := Lib.hid htb
      clear htb h5
      rw [d3]
      go_wp2_with (fail)
      refine (HTB.out).mono ?_
      rintro e w3 ⟨v, es, rfl, hH, hv, hN, hE, hl3⟩
      obtain ⟨g3, cap3, rfl, hT3⟩ := ownT_of hH hv hN hE
      have HT3 := Lib.hid hT3
      have HC3 := Lib.hid (chkT_tbl (R := 5) (C := 7) HCH.out (by omega) (by omega))
      have hl13 := hlc.trans (hl3.mono hlc.size)
      obtain ⟨N3, hN3⟩ : ∃ N3, N3 = (tblL us 5 7).length := ⟨_, rfl⟩
      rw [← hN3]
      have HN3 := Lib.hid hN3
      clear hH hv hN hE hT3 hN3 HTB
      go_wp2_with (fail)
      go_meet
      case rel => exact ⟨g3, cap3, N3, _, rfl, HN3, HC3, HT3, hl13⟩
    · have d1 : decide (m0 > 7) = false := by simpa using h5
      have d2 : decide (7 < m0) = false := by simpa using h5
      have d3 : decide ((7 : Int) < (m0 : Int)) = false := by simp; omega
      clear h5
      rw [d3]
      go_wp2_with (fail)
      go_meet
      case rel => exact ⟨g, cap, N, us, rfl, HN, HCH, HT, hlc⟩
  case rest =>
  clear HT HN HCH hlc hc0' hNI hN0
  obtain ⟨g, cap, N, us, rfl, HN, HCH, HT, hlc⟩ := hcut
  have hbe := best_any (some ⟨g, 0, none⟩) cap N us wc HT.out.tab HN.out
  have HBE := Lib.hid hbe
  clear hbe
  go_wp2_with (fail)
  refine (HBE.out).mono ?_
  intro e w3 hpost
  have hl3 := hpost.1
  have hl13 := hlc.trans (hl3.mono hlc.size)
  have HT3 := Lib.hid (HT.out.keep hl3)
  rcases hpost.2 with ⟨hf, _⟩ | ⟨n, m, _, hn, hG, ⟨d1, d2, d3⟩, hno, rfl⟩ | ⟨n, m, gt, gu, gv, to, u, v, hchk, hn, BO, rfl⟩
  · rw [HCH.out] at hf; cases hf
  · have n1 := below_new w3 (.cells #[.slice none 0 0, .slice none 0 0, .slice none 0 0, .int .i64 0] 35)
    have q1 := hl13.trans (n1.mono hl13.size)
    have hnN : n = N := by rw [HN.out, hn]
    have hrb := refBest_any _ cap n m (some ⟨g, 0, none⟩) us d2 d3 hG _ (HT3.out.keep n1).tab (Nat.le_refl _)
    rw [hnN] at hrb
    have HRB := Lib.hid hrb
    have HNO := Lib.hid hno
    have hbn : Blk 35 (w3.alloc (.cells #[.slice none 0 0, .slice none 0 0, .slice none 0 0, .int .i64 0] 35)) w3.heap.size [.slice none 0 0, .slice none 0 0, .slice none 0 0, .int .i64 0] := Blk.new w3 35 _
    have HBN := Lib.hid hbn
    have HNN := Lib.hid hnN
    clear hpost hbn hrb hno hnN hn hG
    unfold zeroM
    go_wp2_with (fail)
    refine (HRB.out).mono ?_
    rintro e w4 ⟨hl4, ad, c4, lt, least, b, rfl, hI4, ⟨rfl, hA, _⟩ | ⟨rfl, _⟩⟩
    · rw [← HNN.out] at hA
      exact absurd hA.asg (HNO.out _)
    · have q2 := q1.trans (hl4.mono q1.size)
      have hb3 := HBN.out.keep hl4
      have z0 : w4.cell? ⟨w3.heap.size, 0, none⟩ = some (.slice none 0 0) := hb3.cell 0
      have z1 : w4.cell? ⟨w3.heap.size, 1, none⟩ = some (.slice none 0 0) := hb3.cell 1
      have z2 : w4.cell? ⟨w3.heap.size, 2, none⟩ = some (.slice none 0 0) := hb3.cell 2
      have z3 : w4.cell? ⟨w3.heap.size, 3, none⟩ = some (.int .i64 0) := hb3.cell 3
      clear hb3 hI4 HRB
      go_wp2_with (first
        | (go_at_call 29; refine (empty_ok _).mono ?_; rintro e w5 ⟨hl5, rfl⟩
           have q3 := q2.trans (hl5.mono q2.size))
        | (go_at_call 26; refine (lives_any _).mono ?_; rintro e w6 ⟨rfl, hl6⟩))
      go_ret
      exact ⟨rfl, q3.trans (hl6.mono q3.size)⟩
  · obtain ⟨d1, d2, d3⟩ := BO.dim
    have G := BO.good
    have hnN : n = N := by rw [HN.out, hn]
    obtain ⟨p1, p2, p3, p4⟩ := dual_plain BO.min.asg BO.proof BO.bnd.1 BO.bnd.2
    obtain ⟨O, hO⟩ : ∃ O, O = Obj.cells #[.slice (some ⟨gt, 0, none⟩) n n, .slice (some ⟨gu, 0, none⟩) n n, .slice (some ⟨gv, 0, none⟩) m m, .int .i64 (costN (cst us) to n)] 35 := ⟨_, rfl⟩
    have n1 := below_new w3 O
    have q1 := hl13.trans (n1.mono hl13.size)
    have hbn : Blk 35 (w3.alloc O) w3.heap.size [.slice (some ⟨gt, 0, none⟩) n n, .slice (some ⟨gu, 0, none⟩) n n, .slice (some ⟨gv, 0, none⟩) m m, .int .i64 (costN (cst us) to n)] := by rw [hO]; exact Blk.new w3 35 _
    have r1 := BO.res.alloc O
    have r2 := BO.rows.alloc O
    have r3 := BO.cols.alloc O
    have hkb : ∀ W, Below (w3.alloc O).heap.size (w3.alloc O) W → Blk 35 W w3.heap.size [.slice (some ⟨gt, 0, none⟩) n n, .slice (some ⟨gu, 0, none⟩) n n, .slice (some ⟨gv, 0, none⟩) m m, .int .i64 (costN (cst us) to n)] ∧ Ints W (some ⟨gt, 0, none⟩) (mpI (fun i => (to i : Int)) n) := fun W h =>
      ⟨hbn.keep h, by have := (Hd.of_blk (r1.keep h)).vals; rwa [fl_mpI] at this⟩
    have hlp : ∀ W, Below (w3.alloc O).heap.size (w3.alloc O) W → Calls Try.prog 32 #[.slice (some ⟨g, 0, none⟩) n cap, .agg #[.slice (some ⟨gt, 0, none⟩) n n, .slice (some ⟨gu, 0, none⟩) n n, .slice (some ⟨gv, 0, none⟩) m m, .int .i64 (costN (cst us) to n)]] W fun e w' => Below W.heap.size W w' ∧ e = .returned (.bool true) := fun W hW => by
      have h := lproves_ok W.heap.size cap n n m n m (some ⟨g, 0, none⟩) (some ⟨gt, 0, none⟩) (some ⟨gu, 0, none⟩) (some ⟨gv, 0, none⟩) us (mpI (fun i => (to i : Int)) n) (mpI u n) (mpI v m) W
        ((HT3.out.keep n1).keep hW).tab (Nat.le_refl _)
        (by have := (Hd.of_blk (r1.keep hW)).vals; rwa [fl_mpI] at this) (by have := (Hd.of_blk (r2.keep hW)).vals; rwa [fl_mpI] at this) (by have := (Hd.of_blk (r3.keep hW)).vals; rwa [fl_mpI] at this)
        G d1 d2 d3 (mpI_len _ _).symm (mpI_len _ _).symm p1 p3 p4
      rwa [p2] at h
    have hrb := refBest_any _ cap n m (some ⟨g, 0, none⟩) us d2 d3 G _ (HT3.out.keep n1).tab (Nat.le_refl _)
    have HLP := Lib.hid hlp
    have HKB := Lib.hid hkb
    have HRB := Lib.hid hrb
    have HMIN := Lib.hid BO.min
    have hn64 : n ≤ 64 := by omega
    clear hlp hkb hrb p1 p2 p3 p4 G BO hbn r1 r2 r3 hpost hchk hn
    rw [← hnN]
    clear hnN
    generalize hcs : costN (cst us) to n = cs at *
    have HCS := Lib.hid hcs
    clear hcs
    subst hO
    go_wp2_with (fail)
    refine (HRB.out).mono ?_
    rintro e w4 ⟨hl4, ad, c4, lt, least, b, rfl, hI4, ⟨rfl, hA, hM, hco⟩ | ⟨rfl, hno⟩⟩
    · obtain ⟨he1, he2⟩ := HMIN.out.unique hM
      have hls := list_of_asg hA he2
      have hcl : cs = least := by rw [← hco, ← he1]; exact HCS.out.symm
      subst hcl
      have q2 := q1.trans (hl4.mono q1.size)
      obtain ⟨hb3, hIt⟩ := HKB.out w4 hl4
      rw [hls] at hIt
      have hln : lt.length = n := hA.len
      rw [hln]
      have hsm := same_any (some ⟨gt, 0, none⟩) (some ad) n c4 n n lt lt w4 hIt hI4 hln.symm hln.symm (by omega) (by omega)
      rw [decide_eq_true rfl] at hsm
      have HSM := Lib.hid hsm
      have z0 : w4.cell? ⟨w3.heap.size, 0, none⟩ = some (.slice (some ⟨gt, 0, none⟩) n n) := hb3.cell 0
      clear hb3 hI4 HRB hIt hsm hls hA hM hco he1 he2 hln
      go_wp2_with (first
        | (go_at_call 31; refine (HSM.out).mono ?_; rintro e w5 ⟨rfl, hl5⟩
           have hl45 := hl4.trans (hl5.mono hl4.size)
           have hb5 := (HKB.out w5 hl45).1
           have y0 : w5.cell? ⟨w3.heap.size, 0, none⟩ = some (.slice (some ⟨gt, 0, none⟩) n n) := hb5.cell 0
           have y1 : w5.cell? ⟨w3.heap.size, 1, none⟩ = some (.slice (some ⟨gu, 0, none⟩) n n) := hb5.cell 1
           have y2 : w5.cell? ⟨w3.heap.size, 2, none⟩ = some (.slice (some ⟨gv, 0, none⟩) m m) := hb5.cell 2
           have y3 : w5.cell? ⟨w3.heap.size, 3, none⟩ = some (.int .i64 cs) := hb5.cell 3
           have q3 := q2.trans (hl5.mono q2.size)
           clear hb5)
        | (go_at_call 32; refine (HLP.out _ hl45).mono ?_; rintro e w6 ⟨hl6, rfl⟩
           have q4 := q3.trans (hl6.mono q3.size))
        | (go_at_call 26; refine (lives_any _).mono ?_; rintro e w7 ⟨rfl, hl7⟩))
      go_ret
      exact ⟨rfl, q4.trans (hl7.mono q4.size)⟩
    · exact absurd HMIN.out.asg (hno _)

theorem matchBests_any (A : Option Addr) (c L : Nat) (ls : List (List Int)) (w : World) (T : TabIn w A ls) (hL : L = ls.length) :
    Calls Try.prog 4 #[.slice A L c] w fun e w' => e = .returned (.bool true) ∧ Below w.heap.size w w' := by
  cases h : chkT (tblL ls 66 66) with
  | false => exact bests_bad A c L ls w T hL h
  | true => exact bests_good A c L ls w T hL h
end Go.Proofs.Ytncmfjncdhhjoaa
