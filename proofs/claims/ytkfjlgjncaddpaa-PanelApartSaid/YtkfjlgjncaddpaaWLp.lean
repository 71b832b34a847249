/- PanelApart. -/
import Derived.Test.YtkfjlgjncaddpaaPn
import Derived.Test.YtkfjlgjncaddpaaWBrf
import Derived.Test.YtkfjlgjncaddpaaWThr
import Derived.Test.YtkfjlgjncaddpaaWBst
import Derived.Test.YtkfjlgjncaddpaaWLiv
import Derived.Test.YtkfjlgjncaddpaaWRck
import Derived.Deep.Cut
import Derived.Deep.CutRange
import Derived.Deep.RegionHeld3
namespace Go.Proofs.Ytkfjlgjncaddpaa
open Go.RowKit

theorem lay_best {k : Nat} {ss : List Sh} {i j : Nat} : ∃ ps, lay k ss i j (planF k ss i j) = some ps := by
  obtain ⟨ps, h1, _⟩ := rd_best k ss (i + j) 0 0 i j [] (by simp)
  rw [List.append_nil] at h1
  refine ⟨ps, ?_⟩
  unfold lay planF
  rw [h1]
  rfl
theorem many_le {k : Nat} {ss : List Sh} {i j : Nat} {l : List Cu} {ps : List Pc} (h : lay k ss i j l = some ps) : (ps.length : Int) ≤ (i : Int) * j := by
  obtain ⟨_, hpo, _⟩ := lay_known h
  have h1 := area_upper h
  have h2 := (sumP_bound aOf (lo := 1) (hi := (i : Int) * j) (fun t ht => by
    obtain ⟨_, b, c⟩ := hpo t ht
    have e1 : 1 * 1 ≤ t.w * t.h := Int.mul_le_mul b.2.2.1 b.2.2.2 (by omega) (by omega)
    have e2 : t.w * t.h ≤ i * j := Int.mul_le_mul (by omega) (by omega) (by omega) (by omega)
    unfold aOf
    omega)).1
  omega
theorem pair_at {R : Pc → Pc → Prop} {l : List Pc} (h : l.Pairwise R) {a b : Nat} (hab : a < b) (hb : b < l.length) : R (l.getD a pc0) (l.getD b pc0) := by
  have := List.pairwise_iff_getElem.1 h a b (by omega) hb hab
  rw [List.getD_eq_getElem?_getD, List.getElem?_eq_getElem (by omega), List.getD_eq_getElem?_getD, List.getElem?_eq_getElem hb]
  exact this
set_option maxHeartbeats 4000000 in
set_option maxRecDepth 100000 in
theorem apart_law (W H K : Int) (A : Option Addr) (c L : Nat) (ss : List Sh) (A' : Option Addr) (c' M : Nat) (y : List Cu) (bb : Bool) (w : World) (hA : ShAt w A ss) (hL : L = ss.length) (hc : L ≤ c) (hnil : A = none → c = 0) (hW : -9223372036854775808 ≤ W ∧ W ≤ 9223372036854775807) (hH : -9223372036854775808 ≤ H ∧ H ≤ 9223372036854775807) (hA' : CuAt w A' y) (hM : M = y.length) (hc' : M ≤ c') (hnil' : A' = none → c' = 0) :
    Calls Try.prog 9 #[.agg #[.int .i64 W, .int .i64 H, .int .i64 K, .slice A L c], .slice A' M c', .bool bb] w fun e w' => e = .returned (.bool true) ∧ Below w.heap.size w w' := by
  have hb0 : Below w.heap.size w (w.alloc (.cells #[.int .i64 W, .int .i64 H, .int .i64 K, .slice A L c] 24)) := below_new w (.cells #[.int .i64 W, .int .i64 H, .int .i64 K, .slice A L c] 24)
  have hfw := few_any W H K A c L ss (w.alloc (.cells #[.int .i64 W, .int .i64 H, .int .i64 K, .slice A L c] 24)) (hA.keep hb0) hL hc hnil hW hH
  have HBF : Hid (∀ V, Below (w.alloc (.cells #[.int .i64 W, .int .i64 H, .int .i64 K, .slice A L c] 24)).heap.size (w.alloc (.cells #[.int .i64 W, .int .i64 H, .int .i64 K, .slice A L c] 24)) V → Calls Try.prog 26 #[.slice A' M c'] V (BrfPost y V)) := Lib.hid fun V hV => brief_any A' c' M y V ((hA'.keep hb0).keep hV) hM hc' hnil'
  have HFW := Lib.hid hfw
  have HB0 := Lib.hid hb0
  clear hfw hb0 hA hL hW hH hc hnil hA' hM hc' hnil'
  go_enter Try.func9, Try.ntmps9
  go_upto_region 2 with (first | (go_at_call 16; (with_reducible refine (HFW.out).mono ?_); rintro e w1 ⟨g, cap, rfl, hwg, hnc, hcm, hH, hb1⟩) | (go_at_call 26; (with_reducible refine (HBF.out _ hb1).mono ?_); rintro e w2 ⟨g2, cap2, rfl, hwg2, hnc2, hcm2, hpl, hgl2, hb2⟩))
  have hpn := @pn_new w _ w2 g cap (cut20 W) (cut20 H) K ss HB0.out hwg hnc hcm (hH.keep hb2) (below_on hb1 hb1.size hb2)
  have hpl1 := hpl.keep (below_new w2 (.cells #[.int .i64 (cut20 W), .int .i64 (cut20 H), .int .i64 K, .slice (some ⟨g, 0, none⟩) (fewL ss).length cap] 24))
  have hbr : (briefL y).length ≤ 300 := by unfold briefL; rw [List.length_take]; omega
  obtain ⟨q, hq⟩ : ∃ q, q = w2.heap.size := ⟨_, rfl⟩
  rw [← hq] at hpn ⊢
  generalize (w2.alloc (.cells #[.int .i64 (cut20 W), .int .i64 (cut20 H), .int .i64 K, .slice (some ⟨g, 0, none⟩) (fewL ss).length cap] 24)) = W1 at *
  generalize cut20 W = X at *
  generalize cut20 H = Y at *
  generalize fewL ss = zs at *
  generalize briefL y = l at *
  obtain ⟨n, hn⟩ : ∃ n, n = zs.length := ⟨_, rfl⟩
  rw [← hn] at hpn ⊢
  obtain ⟨m2, hm2⟩ : ∃ m, m = l.length := ⟨_, rfl⟩
  rw [← hm2] at hnc2 hbr ⊢
  have HP := Lib.hid hpn
  have HPL := Lib.hid hpl1
  have HM2 := Lib.hid hm2
  clear HFW HB0 HBF hq hpn hH hwg hnc hcm hb1 hn hpl hpl1 hgl2 hb2 hwg2 hm2
  have hn17 : n ≤ 17 := HP.out.len.2.1
  have hbe : ∀ V, PnM w V q g n cap X Y K zs → Calls Try.prog 23 #[.int .i64 X, .int .i64 Y, .int .i64 K, .slice (some ⟨g, 0, none⟩) n cap] V fun e w' => ∃ A3 M3 c3 l3 v er, e = .returned (.tuple #[.slice A3 M3 c3, .int .i64 v, .int .i64 er]) ∧ CuAt w' A3 l3 ∧ Hid (M3 = l3.length) ∧ M3 ≤ c3 ∧ (A3 = none → c3 = 0) ∧ c3 ≤ maxLen ∧ M3 ≤ 100000 ∧ Hid (∀ i j k : Nat, X = i → Y = j → K = k → okP X Y K zs = true → l3 = planF k zs i j) ∧ Below V.heap.size V w' := fun V h => (pbest_any X Y K (some ⟨g, 0, none⟩) cap n zs V h.sh.vals h.len.1 (by have := h.len; omega)).mono fun e w' ⟨hb, h1⟩ => by
    rcases h1 with ⟨hno, h2⟩ | ⟨i, j, k, q1, q2, q3, hok, g', cap', h2, _, h3, h4, _, h5⟩
    · exact ⟨none, 0, 0, [], 0, 1, h2, Vals.nil, Lib.hid rfl, Nat.le_refl _, fun _ => rfl, by unfold maxLen; omega, by omega, Lib.hid (fun _ _ _ _ _ _ h => by rw [hno] at h; cases h), hb⟩
    · subst q1 q2 q3
      obtain ⟨i', j', k', a1, a2, a3, hi1, hi, hj1, hj, _⟩ := okP_ok hok
      obtain rfl : i = i' := by omega
      obtain rfl : j = j' := by omega
      have hpp : ∀ i' j' k' : Nat, (i : Int) = i' → (j : Int) = j' → (k : Int) = k' → okP i j k zs = true → planF k zs i j = planF k' zs i' j' := by
        intro i' j' k' b1 b2 b3 _
        obtain rfl : i = i' := by omega
        obtain rfl : j = j' := by omega
        obtain rfl : k = k' := by omega
        rfl
      have := @planF_len k i j zs hi1 hj1 hi hj
      exact ⟨_, _, _, _, _, _, h2, h5, Lib.hid rfl, h3, (fun e => by cases e), h4, by omega, Lib.hid hpp, hb⟩
  have HBE := Lib.hid hbe
  clear hbe
  go_upto_if 21 with (fail)
  go_cut [8] from 9 (fun s ww => ∃ A2 M2 c2 l2, s = .slice A2 M2 c2 ∧ CuAt ww A2 l2 ∧ M2 = l2.length ∧ M2 ≤ c2 ∧ (A2 = none → c2 = 0) ∧ c2 ≤ maxLen ∧ M2 ≤ 100000 ∧ Hid (bb = true → ∀ i j k : Nat, X = i → Y = j → K = k → okP X Y K zs = true → l2 = planF k zs i j) ∧ PnM w ww q g n cap X Y K zs)
  case first =>
    cases bb with
    | false =>
      go_wp2_with (fail)
      go_meet
      case rel => exact ⟨_, _, _, l, rfl, HPL.out, HM2.out, hnc2, (fun e => by cases e), hcm2, by omega, Lib.hid (fun e => by cases e), HP.out⟩
    | true =>
      obtain ⟨p0, p1, p2, p3⟩ := HP.out.cells
      go_wp2_with (go_at_call 23; (with_reducible refine (HBE.out _ HP.out).mono ?_); rintro e w3 ⟨A3, M3, c3, l3, v3, er3, rfl, hl3, hm3.out, hc3, hn3, hx3, hy3, hpf3, hb3⟩)
      go_meet
      case rel => exact ⟨_, _, _, l3, rfl, hl3, hm3.out, hc3, hn3, hx3, hy3, Lib.hid (fun _ => hpf3.out), HP.out.keep hb3⟩
  case rest =>
    clear HP HPL HM2 hnc2 hcm2 hbr HBE
    obtain ⟨A2, M2, c2, l2, rfl, hl2, hm2, hc2, hn2, hx2, hy2, hbb, hp2⟩ := hcut
    have HP := Lib.hid hp2
    have HPL := Lib.hid hl2
    have hff := four w q g n cap X Y K zs A2 M2 c2 l2 hm2 hc2 hn2 hx2 hy2
    have HM2 := Lib.hid hm2
    clear hp2 hl2 hc2 hn2 hx2 hm2
    have hck := fun V (h : PnM w V q g n cap X Y K zs) => refCheck_any X Y K (some ⟨g, 0, none⟩) cap n zs V h.sh.vals h.len.1 (by omega)
    rcases hff with ⟨ec, hec, hbad⟩ | ⟨i, j, k, ps, rfl, rfl, rfl, hok, hlay, hok4⟩
    · unfold Bad4 at hbad
      have HB4 := Lib.hid fun V h1 h2 => (hbad V h1 h2).1
      have hec0 : ¬ ec = 0 := by rcases hec with ⟨h, _⟩ | ⟨h, _⟩ <;> omega
      have hd0 : (ec != 0) = true := by simp [hec0]
      have hb1 : bb = true → (ec == 1) = true := fun e => by
        rcases hec with ⟨h, _⟩ | ⟨h, hok, hn⟩
        · simp [h]
        · obtain ⟨i, j, k, a1, a2, a3, _⟩ := okP_ok hok
          obtain ⟨ps, hps⟩ := @lay_best k zs i j
          rw [← hbb.out e i j k a1 a2 a3 hok, hn i j k a1 a2 a3] at hps
          cases hps
      clear hbad hec hck hbb
      obtain ⟨p0, p1, p2, p3⟩ := HP.out.cells
      cases bb with
      | false =>
        clear hb1
        go_wp2_with (first | (go_at_call 28; (with_reducible refine (HB4.out _ HP.out HPL.out).mono ?_); rintro e w6 ⟨rfl, hb6⟩) | (go_at_call 20; (with_reducible refine (lives_any _).mono ?_); rintro e w7 ⟨rfl, hb7⟩))
        go_ret
        exact ⟨rfl, below2 (below2 HP.out.bel hb6) hb7⟩
      | true =>
        have hd1 := hb1 rfl
        clear hb1
        go_wp2_with (first | (go_at_call 28; (with_reducible refine (HB4.out _ HP.out HPL.out).mono ?_); rintro e w6 ⟨rfl, hb6⟩) | (go_at_call 20; (with_reducible refine (lives_any _).mono ?_); rintro e w7 ⟨rfl, hb7⟩))
        go_ret
        exact ⟨rfl, below2 (below2 HP.out.bel hb6) hb7⟩
    · unfold Ok4 at hok4
      have HB4 := Lib.hid fun V h1 h2 => (hok4 V h1 h2).1
      have e1 : ckE i j k zs = 0 := by unfold ckE; rw [hok]; rfl
      rw [e1] at hck
      obtain ⟨⟨u, hu, eu⟩, hpo, _⟩ := lay_known hlay
      have hap := rd_apart (by omega) _ _ _ _ _ _ _ hu
      rw [eu] at hap
      have hml := many_le hlay
      obtain ⟨i2, j2, k2, b1, b2, b3, hi1, hi, hj1, hj, hk, _⟩ := okP_ok hok
      have hi64 : i ≤ 64 := by omega
      have hj64 : j ≤ 64 := by omega
      have hk8 : k ≤ 8 := by omega
      clear b1 b2 b3 hi1 hi hj1 hj hk i2 j2 k2
      have hij : 0 ≤ (i : Int) * j ∧ (i : Int) * j ≤ 4096 := ⟨Int.mul_nonneg (by omega) (by omega), by
        have : (i : Int) * j ≤ 64 * 64 := Int.mul_le_mul (by omega) (by omega) (by omega) (by omega)
        omega⟩
      have hwij : IntKind.i64.wrap ((i : Int) * j) = (i : Int) * j := wrapI (by omega) (by omega)
      obtain ⟨N, hN⟩ : ∃ N, N = ps.length := ⟨_, rfl⟩
      rw [← hN] at HB4 hml
      have HN := Lib.hid hN
      have hdl : decide ((i : Int) * j < (N : Int)) = false := by simp; omega
      have hN4 : N ≤ 4096 := by omega
      have HCK := Lib.hid hck
      have HPO : Hid (∀ m, m < N → PcOk zs 0 0 i j (ps.getD m pc0)) := Lib.hid fun m hm => hpo _ (pmem (by omega))
      have HAP : Hid (∀ a b, a < b → b < N → (ps.getD a pc0).x + (ps.getD a pc0).w + k ≤ (ps.getD b pc0).x ∨ (ps.getD a pc0).y + (ps.getD a pc0).h + k ≤ (ps.getD b pc0).y) := Lib.hid fun a b h1 h2 => pair_at hap h1 (by omega)
      clear hok4 hok hlay hpo hap hck e1 hu eu hml hN hbb
      obtain ⟨p0, p1, p2, p3⟩ := HP.out.cells
      go_upto_region 5 with (go_at_call 28; (with_reducible refine (HB4.out _ HP.out HPL.out).mono ?_); rintro e w4 ⟨A3, c3, rfl, hpa4, hb4⟩)
      have HP4 := Lib.hid (HP.out.keep hb4)
      have HA4 := Lib.hid hpa4
      clear p0 p1 p2 p3 hb4 HPL HP hpa4 HB4
      obtain ⟨p0, p1, p2, p3⟩ := HP4.out.cells
      go_upto_region 7 with (go_at_call 17; (with_reducible refine (HCK.out _ HP4.out).mono ?_); rintro e w5 ⟨rfl, hb5⟩)
      have HP5 := Lib.hid (HP4.out.keep hb5)
      have HA5 := Lib.hid (HA4.out.keep hb5)
      clear p0 p1 p2 p3 hb5 HP4 HA4 HCK
      obtain ⟨p0, p1, p2, p3⟩ := HP5.out.cells
      go_upto_region 10 with (fail)
      clear p0 p1 p2 p3
      go_loopw [11, 12, 13, 14, 15, 16] (fun t _ _ _ _ _ wr => ∃ m : Nat, m ≤ N ∧ t = .int .i64 (m : Int) ∧ Hid (PnM w wr q g n cap i j k zs) ∧ Hid (PcAt wr A3 ps)) (fun t _ _ _ _ _ _ => N - (intOf t).toNat)
      case atStart => exact ⟨0, Nat.zero_le _, rfl, HP5, HA5⟩
      case round =>
        clear HP5 HA5
        obtain ⟨m, hm, rfl, HP, HA⟩ := hrel
        by_cases hlt : m < N
        · have hlt2 : (m : Int) < (N : Int) := by omega
          obtain ⟨_, ⟨a1, a2, a3, a4⟩, a5, a6⟩ := HPO.out m hlt
          have hapm := fun a (h : a < m) => HAP.out a m h hlt
          obtain ⟨g3, off, eA, hg, c0, c1, c2', c3', c4⟩ := PcAt.at_ HA.out (i := m) (by have := HN.out; omega)
          subst eA
          obtain ⟨p, hp⟩ : ∃ p, p = ps.getD m pc0 := ⟨_, rfl⟩
          rw [← hp] at a1 a2 a3 a4 a5 a6 hapm c0 c1 c2' c3' c4
          clear hp
          obtain ⟨ax, ay, aw, ah, asn⟩ := p
          simp only at a1 a2 a3 a4 a5 a6 hapm c0 c1 c2' c3' c4
          have hbn := below_new wr (.cells #[.int .i64 ax, .int .i64 ay, .int .i64 aw, .int .i64 ah, .int .i64 asn] 53)
          have HPN := Lib.hid (HP.out.keep hbn)
          have HAN := Lib.hid (HA.out.keep hbn)
          have HQ := Lib.hid (Blk.new wr 53 [.int .i64 ax, .int .i64 ay, .int .i64 aw, .int .i64 ah, .int .i64 asn])
          change Hid (Blk 53 (wr.alloc (.cells #[.int .i64 ax, .int .i64 ay, .int .i64 aw, .int .i64 ah, .int .i64 asn] 53)) wr.heap.size _) at HQ
          have HAM := Lib.hid hapm
          clear hbn hapm
          go_upto_region 13 with (fail)
          obtain ⟨qa, hqa⟩ : ∃ qa, qa = wr.heap.size := ⟨_, rfl⟩
          rw [← hqa] at HQ ⊢
          clear hqa c0 c1 c2' c3' c4 HP HA hg
          generalize wr.alloc (.cells #[.int .i64 ax, .int .i64 ay, .int .i64 aw, .int .i64 ah, .int .i64 asn] 53) = V at *
          obtain ⟨p0, p1, p2, p3⟩ := HPN.out.cells
          have s0 : V.cell? ⟨qa, 0, none⟩ = some (.int .i64 ax) := HQ.out.cell 0
          have s1 : V.cell? ⟨qa, 1, none⟩ = some (.int .i64 ay) := HQ.out.cell 1
          have s2 : V.cell? ⟨qa, 2, none⟩ = some (.int .i64 aw) := HQ.out.cell 2
          have s3 : V.cell? ⟨qa, 3, none⟩ = some (.int .i64 ah) := HQ.out.cell 3
          have d1 : decide (ax < 0) = false := by simp; omega
          have d2 : decide (ay < 0) = false := by simp; omega
          have d3 : decide (aw < 1) = false := by simp; omega
          have d4 : decide (ah < 1) = false := by simp; omega
          have x1 : IntKind.i64.wrap (ax + aw) = ax + aw := wrapI (by omega) (by omega)
          have x2 : IntKind.i64.wrap (ay + ah) = ay + ah := wrapI (by omega) (by omega)
          have d5 : decide ((i : Int) < ax + aw) = false := by simp; omega
          have d6 : decide ((j : Int) < ay + ah) = false := by simp; omega
          go_upto_region 16 with (fail)
          clear p0 p1 p2 p3 s0 s1 s2 s3 d1 d2 d3 d4 d5 d6
          go_loopw [13, 14, 15, 16] (fun t _ _ _ wr => ∃ z : Nat, z ≤ m ∧ t = .int .i64 (z : Int) ∧ Hid (PnM w wr q g n cap i j k zs) ∧ Hid (PcAt wr (some ⟨g3, off, none⟩) ps) ∧ Hid (Blk 53 wr qa [.int .i64 ax, .int .i64 ay, .int .i64 aw, .int .i64 ah, .int .i64 asn])) (fun t _ _ _ _ => m - (intOf t).toNat)
          case atStart => exact ⟨0, Nat.zero_le _, rfl, HPN, HAN, HQ⟩
          case round =>
            clear HPN HAN HQ
            obtain ⟨z, hz, rfl, HP, HA, HQ⟩ := hrel
            by_cases hzt : z < m
            · have hzt2 : (z : Int) < (m : Int) := by omega
              have hzn : (z : Int) < (N : Int) := by omega
              obtain ⟨_, ⟨b1, b2, b3, b4⟩, b5, b6⟩ := HPO.out z (by omega)
              have hsep := HAM.out z hzt
              obtain ⟨g4, off4, eA, hg, c0, c1, c2', c3', c4⟩ := PcAt.at_ HA.out (i := z) (by have := HN.out; omega)
              obtain ⟨rfl, rfl⟩ : g3 = g4 ∧ off = off4 := by injection eA with eA; injection eA with e1 e2; exact ⟨e1, e2⟩
              obtain ⟨p, hp⟩ : ∃ p, p = ps.getD z pc0 := ⟨_, rfl⟩
              rw [← hp] at b1 b2 b3 b4 b5 b6 hsep c0 c1 c2' c3' c4
              clear hp eA
              obtain ⟨bx, by_, bw, bh, bs⟩ := p
              simp only at b1 b2 b3 b4 b5 b6 hsep c0 c1 c2' c3' c4
              have hbn := below_new wr (.cells #[.int .i64 bx, .int .i64 by_, .int .i64 bw, .int .i64 bh, .int .i64 bs] 53)
              have HPN := Lib.hid (HP.out.keep hbn)
              have HAN := Lib.hid (HA.out.keep hbn)
              have HQN := Lib.hid (HQ.out.keep hbn)
              have HQ2 := Lib.hid (Blk.new wr 53 [.int .i64 bx, .int .i64 by_, .int .i64 bw, .int .i64 bh, .int .i64 bs])
              change Hid (Blk 53 (wr.alloc (.cells #[.int .i64 bx, .int .i64 by_, .int .i64 bw, .int .i64 bh, .int .i64 bs] 53)) wr.heap.size _) at HQ2
              clear hbn
              go_upto_region 19 with (fail)
              obtain ⟨qb, hqb⟩ : ∃ qb, qb = wr.heap.size := ⟨_, rfl⟩
              rw [← hqb] at HQ2 ⊢
              clear hqb c0 c1 c2' c3' c4 HP HA hg HQ
              generalize wr.alloc (.cells #[.int .i64 bx, .int .i64 by_, .int .i64 bw, .int .i64 bh, .int .i64 bs] 53) = V2 at *
              obtain ⟨p0, p1, p2, p3⟩ := HPN.out.cells
              have s0 : V2.cell? ⟨qa, 0, none⟩ = some (.int .i64 ax) := HQN.out.cell 0
              have s1 : V2.cell? ⟨qa, 1, none⟩ = some (.int .i64 ay) := HQN.out.cell 1
              have s2 : V2.cell? ⟨qa, 2, none⟩ = some (.int .i64 aw) := HQN.out.cell 2
              have s3 : V2.cell? ⟨qa, 3, none⟩ = some (.int .i64 ah) := HQN.out.cell 3
              have r0 : V2.cell? ⟨qb, 0, none⟩ = some (.int .i64 bx) := HQ2.out.cell 0
              have r1 : V2.cell? ⟨qb, 1, none⟩ = some (.int .i64 by_) := HQ2.out.cell 1
              have r2 : V2.cell? ⟨qb, 2, none⟩ = some (.int .i64 bw) := HQ2.out.cell 2
              have r3 : V2.cell? ⟨qb, 3, none⟩ = some (.int .i64 bh) := HQ2.out.cell 3
              have y1 : IntKind.i64.wrap (bx + bw) = bx + bw := wrapI (by omega) (by omega)
              have y2 : IntKind.i64.wrap (bx + bw + (k : Int)) = bx + bw + k := wrapI (by omega) (by omega)
              have y3 : IntKind.i64.wrap (by_ + bh) = by_ + bh := wrapI (by omega) (by omega)
              have y4 : IntKind.i64.wrap (by_ + bh + (k : Int)) = by_ + bh + k := wrapI (by omega) (by omega)
              have y5 : IntKind.i64.wrap (ax + aw + (k : Int)) = ax + aw + k := wrapI (by omega) (by omega)
              have y6 : IntKind.i64.wrap (ay + ah + (k : Int)) = ay + ah + k := wrapI (by omega) (by omega)
              have hsd : decide (bx + bw + (k : Int) ≤ ax) = true ∨ decide (by_ + bh + (k : Int) ≤ ay) = true := by simpa using hsep
              clear hsep
              cases f1 : decide (bx + bw + (k : Int) ≤ ax) <;> cases f2 : decide (ax + aw + (k : Int) ≤ bx) <;> cases f3 : decide (by_ + bh + (k : Int) ≤ ay) <;> cases f4 : decide (ay + ah + (k : Int) ≤ by_)
              all_goals first
                | (exfalso; rw [f1, f3] at hsd; simp at hsd; done)
                | skip
              all_goals clear hsd
              all_goals go_wp2_with (fail)
              all_goals go_roundw
              all_goals first
                | exact ⟨z + 1, by omega, by go_num, HPN, HAN, HQN⟩
                | (simp [intOf]; omega)
            · obtain rfl : z = m := by omega
              have hzt2 : ¬ (z : Int) < (z : Int) := by omega
              go_wp2_with (fail)
              go_roundw
              case rel => exact ⟨z + 1, by omega, by go_num, HP, HA⟩
              case measure => simp [intOf]; omega
        · obtain rfl : m = N := by omega
          have hlt2 : ¬ (m : Int) < (m : Int) := by omega
          go_wp2_with (go_at_call 20; (with_reducible refine (lives_any _).mono ?_); rintro e w7 ⟨rfl, hb7⟩)
          go_ret
          exact ⟨rfl, below2 HP.out.bel hb7⟩
end Go.Proofs.Ytkfjlgjncaddpaa
