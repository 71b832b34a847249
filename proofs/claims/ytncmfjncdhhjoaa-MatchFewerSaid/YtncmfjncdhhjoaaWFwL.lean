/- The walk of MatchFewer. -/
import Derived.Test.YtncmfjncdhhjoaaWWo
import Derived.Test.YtncmfjncdhhjoaaWOwT
namespace Go.Proofs.Ytncmfjncdhhjoaa
open Go.RowKit

set_option maxHeartbeats 16000000 in
set_option maxRecDepth 100000 in
theorem matchFewer_any (A : Option Addr) (c L : Nat) (row : Int) (ls : List (List Int)) (w : World) (T : TabIn w A ls) (hL : L = ls.length) :
    Calls Try.prog 17 #[.slice A L c, .int .i64 row] w fun e w' => e = .returned (.bool true) ∧ Below w.heap.size w w' := by
  have htb := table_any A c L 30 33 ls w T hL (by omega) (by omega)
  have HTB := Lib.hid htb
  generalize tblL ls 30 33 = ts at *
  clear htb T hL
  go_enter Try.func17, Try.ntmps17
  go_wp2_with (fail)
  refine (HTB.out).mono ?_
  rintro e w1 ⟨v, es, rfl, hH, hv, hN, hE, hl1⟩
  obtain ⟨g, cap, rfl, hT⟩ := ownT_of hH hv hN hE
  have hck := refCheck_any w1.heap.size (some ⟨g, 0, none⟩) cap ts.length ts w1 hT.tab rfl
  have HT := Lib.hid hT
  clear hH hv hN hE hT HTB
  cases hchk : chkT ts with
  | false =>
    have hce : ckE ts = 1 := by unfold ckE; rw [hchk]; rfl
    rw [hce] at hck
    have HCK := Lib.hid hck
    clear hck hce hchk
    go_wp2_with (first
      | (go_at_call 23; refine (HCK.out).mono ?_; rintro e w3 ⟨rfl, hl3⟩
         have hl13 := hl1.trans (hl3.mono hl1.size))
      | (go_at_call 26; refine (lives_any _).mono ?_; rintro e w4 ⟨rfl, hl4⟩))
    go_ret
    exact ⟨rfl, hl13.trans (hl4.mono hl13.size)⟩
  | true =>
    have hce : ckE ts = 0 := by unfold ckE; rw [hchk]; rfl
    rw [hce] at hck
    obtain ⟨N, hN⟩ : ∃ N, N = ts.length := ⟨_, rfl⟩
    rw [← hN] at hck ⊢
    have HCK := Lib.hid hck
    have HCH := Lib.hid hchk
    have HN := Lib.hid hN
    obtain ⟨n0, m0, hn0, -, d1, d2, d3, G⟩ := chkT_good hchk
    have hN1 : 1 ≤ N := by omega
    have hN64 : N ≤ 64 := by omega
    have HG := Lib.hid G
    obtain rfl : N = n0 := by omega
    clear hck hce hchk G hN hn0
    go_wp2_with (fail)
    refine (HCK.out).mono ?_
    rintro e w2 ⟨rfl, hl2⟩
    have hl12 := hl1.trans (hl2.mono hl1.size)
    have HT2 := Lib.hid (HT.out.keep hl2)
    have hbe := best_any (some ⟨g, 0, none⟩) cap N ts w2 HT2.out.tab HN.out
    have HBE := Lib.hid hbe
    clear HCK HT hbe
    go_wp2_with (fail)
    refine (HBE.out).mono ?_
    intro e w3 hpost
    have hl3 := hpost.1
    have hl13 := hl12.trans (hl3.mono hl12.size)
    have HT3 := Lib.hid (HT2.out.keep hl3)
    obtain ⟨r, hr, ht1, ht2, ht3⟩ := range_ex row hN1 (by omega : N ≤ 1000000000)
    generalize htq : row.tmod (N : Int) = q at *
    have w1' : IntKind.i64.wrap (q + (N : Int)) = q + (N : Int) := wrapI (by omega) (by omega)
    have hz : ¬ (N : Int) = 0 := by omega
    have hz2 : ¬ N = 0 := by omega
    clear HBE HT2
    rcases hpost.2 with ⟨hf, _⟩ | ⟨n, m, _, hn, hG, _, hno, rfl⟩ | ⟨n, m, gt, gu, gv, to, u, v, _, hn, BO, rfl⟩
    · rw [HCH.out] at hf; cases hf
    · have n1 := below_new w3 (.cells #[.slice none 0 0, .slice none 0 0, .slice none 0 0, .int .i64 0] 35)
      have q1 := hl13.trans (n1.mono hl13.size)
      have hwo := without_any (some ⟨g, 0, none⟩) cap N ts (r : Int) _ (HT3.out.keep n1).tab HN.out
      have HWO := Lib.hid hwo
      clear hpost hno hwo hG hn n1
      unfold zeroM
      go_wp2_with (fail)
      refine (HWO.out).mono ?_
      rintro e w4 ⟨hl4, ⟨hbad, rfl⟩ | ⟨n5, m5, r5, -, -, -, -, -, -, ⟨s, -, rfl⟩ | ⟨-, rfl⟩⟩⟩
      · exfalso
        have := HN.out
        rcases hbad with h | h | h
        · rw [HCH.out] at h; cases h
        · omega
        · omega
      · have q2 := q1.trans (hl4.mono q1.size)
        go_wp2_with (go_at_call 26; refine (lives_any _).mono ?_; rintro e w5 ⟨rfl, hl5⟩)
        go_ret
        exact ⟨rfl, q2.trans (hl5.mono q2.size)⟩
      · have q2 := q1.trans (hl4.mono q1.size)
        go_wp2_with (go_at_call 26; refine (lives_any _).mono ?_; rintro e w5 ⟨rfl, hl5⟩)
        go_ret
        exact ⟨rfl, q2.trans (hl5.mono q2.size)⟩
    · obtain ⟨rfl, rfl⟩ := good_eq2 HG.out BO.good hN1
      obtain ⟨hia, hco⟩ := isAsg_of2 BO.min.asg
      have hA := BO.min.asg
      have hsmb : 0 ≤ costN (cst ts) to N ∧ costN (cst ts) to N ≤ (N : Int) * 1000000000 := by
        have h5 := sumN_bound' (f := fun a => cst ts a (to a)) (K := 1000000000) (n := N) fun a ha => by
          have := HG.out.rng a (to a) ha (hA.ok a ha).1; omega
        have h6 := sumN_nonneg (f := fun a => cst ts a (to a)) (n := N) fun a ha => by
          have h7 := HG.out.rng a (to a) ha (hA.ok a ha).1
          have h8 := (hA.ok a ha).2
          omega
        exact ⟨h6, h5.2⟩
      obtain ⟨N', hN'⟩ : ∃ N', N = N' + 1 := ⟨N - 1, by omega⟩
      have hplain : ∀ s, WoOk N' m0 (cst ts) r s → 0 ≤ s ∧ s ≤ costN (cst ts) to N - cst ts r (to r) := fun s hs => by
        subst hN'
        refine ⟨wo_pos HG.out hs, ?_⟩
        obtain ⟨f1, f2⟩ := fewer_plain HG.out (by omega : r ≤ N') hA
        obtain ⟨τ, _, _, h3⟩ := hs
        rw [← f2]; exact h3 _ f1
      have hsome : ¬ ∀ τ, ¬ Asg N' m0 (fun i k => cst ts (sk r i) k) τ := fun h => by
        subst hN'
        exact h _ (fewer_plain HG.out (by omega : r ≤ N') hA).1
      have htor := (hA.ok r hr).1
      have hzr := HG.out.rng r (to r) hr htor
      obtain ⟨O, hO⟩ : ∃ O, O = Obj.cells #[.slice (some ⟨gt, 0, none⟩) N N, .slice (some ⟨gu, 0, none⟩) N N, .slice (some ⟨gv, 0, none⟩) m0 m0, .int .i64 (costN (cst ts) to N)] 35 := ⟨_, rfl⟩
      have n1 := below_new w3 O
      have q1 := hl13.trans (n1.mono hl13.size)
      have hbn : Blk 35 (w3.alloc O) w3.heap.size [.slice (some ⟨gt, 0, none⟩) N N, .slice (some ⟨gu, 0, none⟩) N N, .slice (some ⟨gv, 0, none⟩) m0 m0, .int .i64 (costN (cst ts) to N)] := by rw [hO]; exact Blk.new w3 35 _
      have r1 := BO.res.alloc O
      have hT4 := HT3.out.keep n1
      have hkb : ∀ W, Below (w3.alloc O).heap.size (w3.alloc O) W → Blk 35 W w3.heap.size [.slice (some ⟨gt, 0, none⟩) N N, .slice (some ⟨gu, 0, none⟩) N N, .slice (some ⟨gv, 0, none⟩) m0 m0, .int .i64 (costN (cst ts) to N)] ∧ Blk 3 W gt (fl (fun i => (to i : Int)) N) ∧ OwnT W g ts := fun W h => ⟨hbn.keep h, r1.keep h, hT4.keep h⟩
      have hto := fun W (h : Below (w3.alloc O).heap.size (w3.alloc O) W) => refTotal_any W.heap.size N m0 cap N N (some ⟨g, 0, none⟩) (some ⟨gt, 0, none⟩) ts ((List.range N).map fun i => (to i : Int)) W (hkb W h).2.2.tab HG.out
        (by have := (Hd.of_blk (hkb W h).2.1).vals; rwa [fl_is] at this) (by simp) d1 d2 d3 (by omega)
      have hwo := without_any (some ⟨g, 0, none⟩) cap N ts (r : Int) _ hT4.tab HN.out
      have HWO := Lib.hid hwo
      have HTO := Lib.hid hto
      have HKB := Lib.hid hkb
      have HPL := Lib.hid hplain
      have HSO := Lib.hid hsome
      have HIA := Lib.hid hia
      have HNN := Lib.hid hN'
      clear hwo hto hkb hplain hsome hia hco hA BO hbn r1 hT4 hpost hn n1 hN'
      generalize costN (cst ts) to N = cs at *
      have q1' := q1
      subst hO
      go_wp2_with (fail)
      refine (HWO.out).mono ?_
      rintro e w4 ⟨hl4, ⟨hbad, rfl⟩ | ⟨n5, m5, r5, -, hn5, hr5, -, hG5, -, ⟨s, hs, rfl⟩ | ⟨hno, rfl⟩⟩⟩
      · exfalso
        have := HN.out
        rcases hbad with h | h | h
        · rw [HCH.out] at h; cases h
        · omega
        · omega
      · have hr5' : r5 = r := by omega
        have hn5' : n5 = N' := by have := HN.out; have := HNN.out; omega
        subst hr5' hn5'
        have hm5 : m5 = m0 := by
          have h1 := good_eq2 hG5 (by have h2 := HG.out; rw [HNN.out] at h2; exact h2) (by omega)
          exact h1.2
        subst hm5
        obtain ⟨s1, s2⟩ := HPL.out s hs
        have q2 := q1.trans (hl4.mono q1.size)
        have b0 := (HKB.out w4 hl4).1.cell 0
        simp only [List.getElem?_cons_zero] at b0
        have HTO4 := Lib.hid (HTO.out w4 hl4)
        clear hs hG5 hn5 hr5 HPL HSO HTO HWO
        go_wp2_with (fail)
        refine (HTO4.out).mono ?_
        rintro e w5 ⟨hl5, ⟨-, rfl⟩ | ⟨hna, rfl⟩⟩
        · have hl45 := hl4.trans (hl5.mono hl4.size)
          have q3 := q2.trans (hl5.mono q2.size)
          have hkc : ∀ W, Below w5.heap.size w5 W → W.cell? ⟨w3.heap.size, 0, none⟩ = some (.slice (some ⟨gt, 0, none⟩) N N) ∧ W.cell? ⟨w3.heap.size, 3, none⟩ = some (.int .i64 cs) ∧ W.cell? ⟨gt, r5, none⟩ = some (.int .i64 (to r5 : Int)) := fun W h => by
            obtain ⟨k1, k2, _⟩ := HKB.out W (hl45.trans (h.mono hl45.size))
            exact ⟨k1.cell 0, k1.cell 3, k2.int hr⟩
          obtain ⟨g', off', Ar, cr, eA, hg', hcr, hcell⟩ := HG.out.at_ ((HKB.out w5 hl45).2.2.tab) hr
          injection eA with eA
          injection eA with e1 e2
          subst e1 e2
          obtain ⟨gc, offc, rfl, hgc, hcc⟩ := hcell (by omega)
          have hcz := hcc (to r5) htor
          obtain ⟨x0, x3, xt⟩ := hkc w5 (Below.refl _ _)
          have HKC := Lib.hid hkc
          generalize cst ts r5 (to r5) = z at *
          generalize to r5 = t at *
          have hw2 : IntKind.i64.wrap (cs - z) = cs - z := wrapI (by omega) (by omega)
          have hd1 : decide (s ≤ cs - z) = true := by simpa using s2
          have hd2 : decide (s ≥ 0) = true := by simpa using s1
          have hd3 : decide (0 ≤ s) = true := by simpa using s1
          have hrI : (r5 : Int) < (N : Int) := by omega
          have htI : (t : Int) < (m5 : Int) := by omega
          have hkd : ∀ W, Below w5.heap.size w5 W → W.cell? ⟨g, 0 + r5, none⟩ = some (.slice (some ⟨gc, offc, none⟩) m5 cr) ∧ W.cell? ⟨gc, offc + t, none⟩ = some (.int .i64 z) := fun W h =>
            ⟨(h.cell (p := ⟨g, 0 + r5, none⟩) hg').trans hcr, (h.cell (p := ⟨gc, offc + t, none⟩) hgc).trans hcz⟩
          have HKD := Lib.hid hkd
          have y0 : w5.cell? ⟨g, r5, none⟩ = some (.slice (some ⟨gc, offc, none⟩) m5 cr) := by rw [Nat.zero_add] at hcr; exact hcr
          clear hkc hkd hcc hcell hcr s1 s2 hzr hsmb HTO4 HIA hg' hgc
          have hwd : Below w5.heap.size w5 w5.drew := (Below.refl _ _).drew
          go_wp2_with (fail)
          go_region_held3 (fun w' => w'.cell? ⟨w3.heap.size, 0, none⟩ = some (.slice (some ⟨gt, 0, none⟩) N N) ∧ w'.cell? ⟨w3.heap.size, 3, none⟩ = some (.int .i64 cs) ∧ w'.cell? ⟨gt, r5, none⟩ = some (.int .i64 (t : Int)) ∧ w'.cell? ⟨g, r5, none⟩ = some (.slice (some ⟨gc, offc, none⟩) m5 cr) ∧ w'.cell? ⟨gc, offc + t, none⟩ = some (.int .i64 z))
            (first | exact ⟨x0, x3, xt, y0, hcz⟩ | exact ⟨j0, j1, j2, j3, j4⟩ | go_keep)
            ((go_at_call 26; (with_reducible refine (lives_any _).mono ?_); rintro e w7 ⟨rfl, hl7⟩
              have hl7' := hwd.trans hl7
              obtain ⟨j0, j1, j2⟩ := HKC.out w7 hl7'
              obtain ⟨j3', j4⟩ := HKD.out w7 hl7'
              have j3 : w7.cell? ⟨g, r5, none⟩ = some (.slice (some ⟨gc, offc, none⟩) m5 cr) := by rw [Nat.zero_add] at j3'; exact j3'))
          go_wp2_with (fail)
          go_ret
          exact ⟨rfl, q3.trans (hl7'.mono q3.size)⟩
        · exact absurd HIA.out hna
      · have hr5' : r5 = r := by omega
        have hn5' : n5 = N' := by have := HN.out; have := HNN.out; omega
        subst hr5' hn5'
        have hm5 : m5 = m0 := by
          have h1 := good_eq2 hG5 (by have h2 := HG.out; rw [HNN.out] at h2; exact h2) (by omega)
          exact h1.2
        subst hm5
        exact absurd hno HSO.out
end Go.Proofs.Ytncmfjncdhhjoaa
