/- Part of the proof of NatOwn: OwnW. -/
import Derived.Test.YtaegkhdkhgemmaaPartH
import Derived.Deep.RegionHeld3
namespace Go.Proofs.Ytaegkhdkhgemmaa
open Go.RowKit Num

theorem unhide {p : Prop} (h : Hid p) : p := h.out
theorem and3_ex (x : Int) : ∃ n : Int, 0 ≤ n ∧ n ≤ 3 ∧ bits .and .i64 x 3 = n := by
  have h : (BitVec.ofInt 64 x &&& BitVec.ofInt 64 3).toNat ≤ 3 := by
    rw [BitVec.toNat_and, show (BitVec.ofInt 64 3).toNat = 3 from rfl]
    exact Nat.and_le_right
  refine ⟨((BitVec.ofInt 64 x &&& BitVec.ofInt 64 3).toNat : Int), by omega, by omega, ?_⟩
  show IntKind.i64.wrap ((BitVec.ofInt 64 x &&& BitVec.ofInt 64 3).toNat : Int) = _
  generalize (BitVec.ofInt 64 x &&& BitVec.ofInt 64 3).toNat = n at *
  rw [IntKind.wrap_i64]
  omega

theorem res_empty (w : World) : Res w.heap.size (w.alloc (.cells #[] 22)) (.slice (some ⟨w.heap.size, 0, none⟩) 0 0) 0 :=
  ⟨[], rfl, (fun e h => by cases h), ⟨own_empty w 22, (fun e h => by cases h), (fun i j e f g h => by cases h), (fun e h => by cases h)⟩⟩

set_option maxHeartbeats 4000000 in
set_option maxRecDepth 100000 in
theorem own_walk (A A' : Option Addr) (c c' L L' : Nat) (n : Int) (xs ys : List Nat) (w : World) (hA : Nums .u32 w A xs) (hA' : Nums .u32 w A' ys) (hlow : Low B32 xs) (hlow' : Low B32 ys) (hL : L = xs.length) (hL' : L' = ys.length) (hc : L ≤ c) (hc' : L' ≤ c') (hnil : A = none → c = 0) (hnil' : A' = none → c' = 0) :
    Calls Try.prog 24 #[.slice A L c, .slice A' L' c', .int .i64 n] w (LivesPost w) := by
  have hw1 := whole_tight A c L 20 xs w hA hlow hL hc hnil (by omega)
  have hw2 := fun w' (h : Below w.heap.size w w') => whole_tight A' c' L' 20 ys w' (hA'.keep h) hlow' hL' hc' hnil' (by omega)
  have l1 : (dig B32 (val B32 (xs.take 20))).length ≤ 20 := dig_len_le b32_two (Nat.lt_of_lt_of_le (val_lt _ _ (hlow.take 20)) (Nat.pow_le_pow_right b32_pos (by rw [List.length_take]; omega)))
  have l2 : (dig B32 (val B32 (ys.take 20))).length ≤ 20 := dig_len_le b32_two (Nat.lt_of_lt_of_le (val_lt _ _ (hlow'.take 20)) (Nat.pow_le_pow_right b32_pos (by rw [List.length_take]; omega)))
  generalize val B32 (xs.take 20) = m at *
  generalize val B32 (ys.take 20) = r at *
  obtain ⟨k, hk0, hk3, a1⟩ := and3_ex n
  have hw1 : Calls Try.prog 69 #[.slice A L c, .int .i64 20] w fun e w' => ∃ v, e = .returned v ∧ N32 w' v m ∧ (∀ k c, v = .slice none k c → c = 0) ∧ Below w.heap.size w w' := hw1
  have hw2 : ∀ w', Below w.heap.size w w' → Calls Try.prog 69 #[.slice A' L' c', .int .i64 20] w' fun e w'' => ∃ v, e = .returned v ∧ N32 w'' v r ∧ (∀ k c, v = .slice none k c → c = 0) ∧ Below w'.heap.size w' w'' := hw2
  have h37 := fun a b w h h' => own37 a b m r w h h' l1 l2
  have h38 := fun a b w h h' => own38 a b m r w h h' l1 l2
  have h45 := fun a b w h h' => own45 a b m r w h h' l1 l2
  have h47 := fun a b w h h' => own47 a b m r w h h' l1 l2
  have h58 := fun a b w h h' => own58 a b m r w h h' l1 l2
  have h59 := fun a b w h h' => own59 a b m r w h h' l1 l2
  have h49 := fun a w h => own49 a m w h l1 k hk0 hk3
  have h52 := fun a w h => own52 a m w h l1 k hk0 hk3
  have h56 := fun a w h => own56 a m w h l1 k hk0 hk3
  have lm1 : ∀ w v, N32 w v m → Limbs w v (dig B32 m) := fun w v h => Limbs.num h (by omega)
  have lm2 : ∀ w v, N32 w v r → Limbs w v (dig B32 r) := fun w v h => Limbs.num h (by omega)
  have lc1 : ∀ B w v, OwnLs B w v (dig B32 m) → Limbs w v (dig B32 m) := fun B w v h => h.limbs (by omega)
  have lc2 : ∀ B w v, OwnLs B w v (dig B32 r) → Limbs w v (dig B32 r) := fun B w v h => h.limbs (by omega)
  have hs1 : ∀ a b w, Limbs w a (dig B32 m) → Limbs w b (dig B32 m) → Calls Try.prog 32 #[a, b] w (LivesPost w) := fun a b w h h' => by have := same_nums a b (dig B32 m) (dig B32 m) w h h'; rw [decide_eq_true rfl] at this; exact this
  have hs2 : ∀ a b w, Limbs w a (dig B32 r) → Limbs w b (dig B32 r) → Calls Try.prog 32 #[a, b] w (LivesPost w) := fun a b w h h' => by have := same_nums a b (dig B32 r) (dig B32 r) w h h'; rw [decide_eq_true rfl] at this; exact this
  have HW1 := Lib.hid hw1
  have HW2 := Lib.hid hw2
  have H37 := Lib.hid h37
  have H38 := Lib.hid h38
  have H45 := Lib.hid h45
  have H47 := Lib.hid h47
  have H58 := Lib.hid h58
  have H59 := Lib.hid h59
  have H49 := Lib.hid h49
  have H52 := Lib.hid h52
  have H56 := Lib.hid h56
  have LM1 := Lib.hid lm1
  have LM2 := Lib.hid lm2
  have LC1 := Lib.hid lc1
  have LC2 := Lib.hid lc2
  have HS1 := Lib.hid hs1
  have HS2 := Lib.hid hs2
  have D1 := Lib.hid l1
  have D2 := Lib.hid l2
  clear hw1 hw2 h37 h38 h45 h47 h58 h59 h49 h52 h56 lm1 lm2 lc1 lc2 hs1 hs2 l1 l2
  clear hA hA' hlow hlow' hL hL' hc hc' hnil hnil'
  go_enter Try.func24, Try.ntmps24
  go_wp2_with (fail)
  refine (HW1.out).mono ?_
  rintro e w1 ⟨va, rfl, hva, hna, hb1⟩
  have NA := Lib.hid hna
  clear hna
  go_wp2_with (fail)
  refine (HW2.out _ hb1).mono ?_
  rintro e w2 ⟨vb, rfl, hvb, hnb, hb2⟩
  have NB := Lib.hid hnb
  clear hnb
  have b2 := below_at hb1 (Nat.le_refl _) hb2
  have ka_2 := hva.keep hb2
  go_wp2_with (at_builtin; refine unhide ?_)
  refine Lib.hid ?_
  refine wp_copy rfl _ _ 23 Try.underlying23 rfl w2 va (dig B32 m) rfl rfl (LM1.out _ _ ka_2) (by have := D1.out; omega) NA.out ?_
  intro vc w3 hvc hb3
  have b3 := below_at b2 (Nat.le_refl _) hb3
  have ka_3 := ka_2.keep hb3
  have kb_3 := hvb.keep hb3
  have kc_3 := LC1.out _ _ _ hvc
  go_wp2_with (at_builtin; refine unhide ?_)
  refine Lib.hid ?_
  refine wp_copy rfl _ _ 23 Try.underlying23 rfl w3 vb (dig B32 r) rfl rfl (LM2.out _ _ kb_3) (by have := D2.out; omega) NB.out ?_
  intro vd w4 hvd hb4
  have b4 := below_at b3 (Nat.le_refl _) hb4
  have ka_4 := ka_3.keep hb4
  have kb_4 := kb_3.keep hb4
  have kc_4 := kc_3.keep hb4
  have kd_4 := LC2.out _ _ _ hvd
  have hr0 := res_empty w4
  have bs := below_new w4 (.cells #[] 22)
  clear ka_2 kb_3 ka_3 kc_3 hb1 hb2 hb3 hva hvb hvc hvd b2 b3
  obtain ⟨rv0, hrv0⟩ : ∃ v, Value.slice (some ⟨w4.heap.size, 0, none⟩) 0 0 = v := ⟨_, rfl⟩
  obtain ⟨w5, hw5⟩ : ∃ v, w4.alloc (.cells #[] 22) = v := ⟨_, rfl⟩
  rw [hrv0, hw5] at hr0
  rw [hw5] at bs
  go_wp2_with (fail)
  clear hrv0 hw5
  refine (H37.out _ _ _ (ka_4.keep bs) (kb_4.keep bs)).mono ?_
  rintro e u0 ⟨A0, l0, c0, e0, rfl, hv0, hu0⟩
  go_wp2_with (at_builtin; refine unhide ?_)
  refine Lib.hid ?_
  refine wp_push rfl _ _ rfl w4.heap.size 0 _ u0 _ (.slice A0 l0 c0) _ rfl hr0 (by omega) bs.size hv0 hu0 rfl ?_
  intro rv1 y0 hr1 hy0
  replace bs := bs.trans hy0
  clear hr0 hv0 hu0 hy0
  go_wp2_with (fail)
  refine (H38.out _ _ _ (ka_4.keep bs) (kb_4.keep bs)).mono ?_
  rintro e u1 ⟨A1, l1, c1, e1, rfl, hv1, hu1⟩
  go_wp2_with (at_builtin; refine unhide ?_)
  refine Lib.hid ?_
  refine wp_push rfl _ _ rfl w4.heap.size 1 _ u1 _ (.slice A1 l1 c1) _ rfl hr1 (by omega) bs.size hv1 hu1 rfl ?_
  intro rv2 y1 hr2 hy1
  replace bs := bs.trans hy1
  clear hr1 hv1 hu1 hy1
  go_wp2_with (fail)
  refine (H45.out _ _ _ (ka_4.keep bs) (kb_4.keep bs)).mono ?_
  rintro e u2 ⟨A2, l2, c2, e2, rfl, hv2, hu2⟩
  go_wp2_with (at_builtin; refine unhide ?_)
  refine Lib.hid ?_
  refine wp_push rfl _ _ rfl w4.heap.size 2 _ u2 _ (.slice A2 l2 c2) _ rfl hr2 (by omega) bs.size hv2 hu2 rfl ?_
  intro rv3 y2 hr3 hy2
  replace bs := bs.trans hy2
  clear hr2 hv2 hu2 hy2
  go_wp2_with (fail)
  refine (H47.out _ _ _ (ka_4.keep bs) (kb_4.keep bs)).mono ?_
  rintro e u3 ⟨A3, l3, c3, B3, m3, d3, e3, rfl, hv3, hx3, hvx3, hu3⟩
  go_wp2_with (at_builtin; refine unhide ?_)
  refine Lib.hid ?_
  refine wp_push2 rfl _ _ rfl w4.heap.size 3 _ u3 _ (.slice A3 l3 c3) (.slice B3 m3 d3) _ rfl hr3 (by omega) bs.size hv3 hx3 hvx3 hu3 rfl ?_
  intro rv4 y3 hr4 hy3
  replace bs := bs.trans hy3
  clear hr3 hv3 hu3 hy3 hx3 hvx3
  go_wp2_with (fail)
  refine (H49.out _ _ (ka_4.keep bs)).mono ?_
  rintro e u4 ⟨A4, l4, c4, e4, rfl, hv4, hu4⟩
  go_wp2_with (at_builtin; refine unhide ?_)
  refine Lib.hid ?_
  refine wp_push rfl _ _ rfl w4.heap.size 5 _ u4 _ (.slice A4 l4 c4) _ rfl hr4 (by omega) bs.size hv4 hu4 rfl ?_
  intro rv5 y4 hr5 hy4
  replace bs := bs.trans hy4
  clear hr4 hv4 hu4 hy4
  go_wp2_with (fail)
  refine (H52.out _ _ (ka_4.keep bs)).mono ?_
  rintro e u5 ⟨A5, l5, c5, e5, rfl, hv5, hu5⟩
  go_wp2_with (at_builtin; refine unhide ?_)
  refine Lib.hid ?_
  refine wp_push rfl _ _ rfl w4.heap.size 6 _ u5 _ (.slice A5 l5 c5) _ rfl hr5 (by omega) bs.size hv5 hu5 rfl ?_
  intro rv6 y5 hr6 hy5
  replace bs := bs.trans hy5
  clear hr5 hv5 hu5 hy5
  go_wp2_with (fail)
  refine (H58.out _ _ _ (ka_4.keep bs) (kb_4.keep bs)).mono ?_
  rintro e u6 ⟨A6, l6, c6, e6, rfl, hv6, hu6⟩
  go_wp2_with (at_builtin; refine unhide ?_)
  refine Lib.hid ?_
  refine wp_push rfl _ _ rfl w4.heap.size 7 _ u6 _ (.slice A6 l6 c6) _ rfl hr6 (by omega) bs.size hv6 hu6 rfl ?_
  intro rv7 y6 hr7 hy6
  replace bs := bs.trans hy6
  clear hr6 hv6 hu6 hy6
  go_wp2_with (fail)
  refine (H59.out _ _ _ (ka_4.keep bs) (kb_4.keep bs)).mono ?_
  rintro e u7 ⟨A7, l7, c7, e7, rfl, hv7, hu7⟩
  go_wp2_with (at_builtin; refine unhide ?_)
  refine Lib.hid ?_
  refine wp_push rfl _ _ rfl w4.heap.size 8 _ u7 _ (.slice A7 l7 c7) _ rfl hr7 (by omega) bs.size hv7 hu7 rfl ?_
  intro rv8 y7 hr8 hy7
  replace bs := bs.trans hy7
  clear hr7 hv7 hu7 hy7
  go_wp2_with (fail)
  refine (H56.out _ _ (ka_4.keep bs)).mono ?_
  rintro e u8 ⟨A8, l8, c8, e8, rfl, hv8, hu8⟩
  go_wp2_with (at_builtin; refine unhide ?_)
  refine Lib.hid ?_
  refine wp_push rfl _ _ rfl w4.heap.size 9 _ u8 _ (.slice A8 l8 c8) _ rfl hr8 (by omega) bs.size hv8 hu8 rfl ?_
  intro rv9 y8 hr9 hy8
  replace bs := bs.trans hy8
  clear hr8 hv8 hu8 hy8
  go_wp2_with (fail)
  refine (HS1.out _ _ _ (LM1.out _ _ (ka_4.keep bs)) (kc_4.keep bs)).mono ?_
  rintro e z1 ⟨rfl, hz1⟩
  replace hr9 := hr9.keep hz1
  replace bs := bs.trans (hz1.mono bs.size)
  clear hz1
  go_wp2_with (fail)
  refine (HS2.out _ _ _ (LM2.out _ _ (kb_4.keep bs)) (kd_4.keep bs)).mono ?_
  rintro e z2 ⟨rfl, hz2⟩
  replace hr9 := hr9.keep hz2
  replace bs := bs.trans (hz2.mono bs.size)
  clear hz2
  go_wp2_with (fail)
  refine (lives_any _).mono ?_
  rintro e z3 ⟨rfl, hz3⟩
  replace hr9 := hr9.keep hz3
  replace bs := bs.trans (hz3.mono bs.size)
  clear hz3
  obtain ⟨es, hes, hel, hH⟩ := hr9
  obtain ⟨gr, cr, hrv⟩ := hH.row (by omega)
  rw [hes] at hrv
  subst hrv
  have HES := Lib.hid hes
  have HEL := Lib.hid hel
  have HK0 : Held z3.heap.size (z3.alloc (.cells #[] 22)) (.slice (some ⟨z3.heap.size, 0, none⟩) 0 0) [] := ⟨own_empty z3 22, (fun e h => by cases h), (fun i j e f g h => by cases h), (fun e h => by cases h)⟩
  have bk := below_new z3 (.cells #[] 22)
  clear hes hel
  obtain ⟨kv0, hkv0⟩ : ∃ v, Value.slice (some ⟨z3.heap.size, 0, none⟩) 0 0 = v := ⟨_, rfl⟩
  obtain ⟨w6, hw6⟩ : ∃ v, z3.alloc (.cells #[] 22) = v := ⟨_, rfl⟩
  rw [hkv0, hw6] at HK0
  rw [hw6] at bk
  go_wp2_with (fail)
  clear hkv0 hw6
  go_loopw [31, 32] (fun kv t wr => ∃ (i : Nat) (ks : List (Value × List Nat)), i ≤ 10 ∧ t = .int .i64 (i : Int) ∧ ks.length = i ∧ Hid (ks.map (·.2) = (es.map (·.2)).take i) ∧ Held z3.heap.size wr kv ks ∧ Below z3.heap.size z3 wr) (fun _ t _ => 10 - (intOf t).toNat)
  case atStart => exact ⟨0, [], by omega, rfl, rfl, Lib.hid (by simp), HK0, bk⟩
  case round =>
    clear HK0 bk
    obtain ⟨i, ks, hi, rfl, hks, hm, hK, hbl⟩ := hrel
    by_cases hlt : i < 10
    · obtain ⟨e, he⟩ : ∃ e, es[i]? = some e := ⟨_, List.getElem?_eq_getElem (by have := HES.out; omega)⟩
      have hwr := hH.keep hbl
      have hcell := hwr.cell he
      have hcell2 := (hwr.keep (below_new _ (.cells #[] 56))).cell he
      have hown := hwr.at_ he
      have hlen := HEL.out e (List.mem_of_getElem? he)
      obtain ⟨v, zs⟩ := e
      have hli : Limbs _ v zs := hown.limbs (by omega)
      have hnv : ∀ k c, v = .slice none k c → c = 0 := fun k c h => by
        rcases hown.2 with ⟨h1, _⟩ | ⟨g, cap, cur, h1, _⟩
        · have h1 : v = .slice none 0 0 := h1
          rw [h1] at h; injection h with _ _ h; exact h.symm
        · have h1 : v = .slice (some ⟨g, 0, none⟩) zs.length cap := h1
          rw [h1] at h; injection h with h _ _; cases h
      obtain ⟨Av, cv, hve⟩ := own_slice hown
      have hve : v = .slice Av zs.length cv := hve
      subst hve
      obtain ⟨l, hl⟩ : ∃ l, zs.length = l := ⟨_, rfl⟩
      rw [hl] at hcell hcell2 hli hnv
      have HE := Lib.hid he
      have HKS := Lib.hid hks
      have HL := Lib.hid hl
      have HLI := Lib.hid hli
      have HNV := Lib.hid hnv
      have HBL := Lib.hid hbl
      clear he hks hl hli hnv hown hwr
      go_wp2_with (at_builtin; refine unhide ?_)
      refine Lib.hid ?_
      refine wp_copy rfl _ _ 22 Try.underlying22 rfl _ (.slice Av l cv) zs rfl rfl HLI.out (by omega) HNV.out ?_
      intro vc w2 hvc hb2
      obtain ⟨Ac, cc, hve⟩ := own_slice hvc
      rw [HL.out] at hve
      subst hve
      go_wp2_with (at_builtin; refine unhide ?_)
      refine Lib.hid ?_
      refine wp_pushH rfl _ _ rfl z3.heap.size i _ w2 _ _ _ ks zs rfl HKS.out hK (by omega) HBL.out.size hvc hb2 rfl ?_
      intro kv2 w3 hK2 hb3
      go_wp2_with (fail)
      go_roundw
      case rel => exact ⟨i + 1, _, by omega, by go_num, by simp [HKS.out], Lib.hid (by rw [List.map_append, hm.out, List.take_add_one, List.getElem?_map, HE.out]; rfl), hK2, HBL.out.trans hb3⟩
      case measure => simp [intOf]; omega
    · obtain rfl : i = 10 := by omega
      have hwr := hH.keep hbl
      obtain ⟨gk, ck, hkv⟩ := hK.row (by omega)
      rw [hks] at hkv
      subst hkv
      have hmm : ks.map (·.2) = es.map (·.2) := by rw [hm.out]; exact List.take_of_length_le (by have := HES.out; simp; omega)
      have hbw := bs.trans (hbl.mono bs.size)
      have HMM := Lib.hid hmm
      have HKS := Lib.hid hks
      have HH := Lib.hid hH
      clear hm hmm hks hbl hlt hH bs
      go_wp2_with (fail)
      go_loopw [33] (fun t wr => ∃ (i : Nat) (gs : List (Value × List Nat)), i ≤ 10 ∧ t = .int .i64 (i : Int) ∧ Hid (Lk es gs i) ∧ Held w4.heap.size wr (.slice (some ⟨gr, 0, none⟩) 10 cr) gs ∧ Held z3.heap.size wr (.slice (some ⟨gk, 0, none⟩) 10 ck) ks ∧ Below w4.heap.size w4 wr) (fun t _ => 10 - (intOf t).toNat)
      case atStart => exact ⟨0, es, by omega, rfl, Lib.hid (Lk.refl _), hwr, hK, hbw⟩
      case round =>
        clear hwr hK hbw
        obtain ⟨i, gs, hi, rfl, hlk, hG, hK, hbl⟩ := hrel
        by_cases hlt : i < 10
        · obtain ⟨e, he⟩ : ∃ e, es[i]? = some e := ⟨_, List.getElem?_eq_getElem (by have := HES.out; omega)⟩
          obtain ⟨⟨v, zs⟩, hg, hv, hzl, _⟩ := hlk.out.2 i _ he
          obtain ⟨Av, cv, hve0⟩ := own_slice (hG.at_ hg)
          have hve : v = .slice Av zs.length cv := hve0
          clear hve0
          obtain ⟨l, hl⟩ : ∃ l, zs.length = l := ⟨_, rfl⟩
          rw [hl] at hve
          subst hve
          have hu : ∃ us : List Nat, gs[i]? = some (.slice Av l cv, us) ∧ us.length = l := ⟨zs, hg, hl⟩
          have hgv : ∀ g, (Value.slice Av l cv).ownBlock = some g → g < z3.heap.size := fun g h => by
            have hv : Value.slice Av l cv = e.1 := hv
            rw [hv] at h
            exact (HH.out.lt (List.mem_of_getElem? he) h).2
          have hll : l ≤ 1000 := by have := HEL.out e (List.mem_of_getElem? he); have hzl : zs.length = e.2.length := hzl; omega
          have HU := Lib.hid hu
          have HGV := Lib.hid hgv
          clear he hg hv hzl hl hu hgv
          go_wp2_with (fail)
          go_loopw [34] (fun t wr => ∃ (k : Nat) (hs : List (Value × List Nat)), k ≤ l ∧ t = .int .i64 (k : Int) ∧ Hid (Lk es hs (i + 1)) ∧ Hid (∃ us : List Nat, hs[i]? = some (.slice Av l cv, us) ∧ us.length = l) ∧ Held w4.heap.size wr (.slice (some ⟨gr, 0, none⟩) 10 cr) hs ∧ Held z3.heap.size wr (.slice (some ⟨gk, 0, none⟩) 10 ck) ks ∧ Below w4.heap.size w4 wr) (fun t _ => l - (intOf t).toNat)
          case atStart => exact ⟨0, gs, by omega, rfl, Lib.hid hlk.out.up, HU, hG, hK, hbl⟩
          case round =>
            clear hG hK hbl hlk HU
            obtain ⟨k, hs, hk, rfl, hlk, hu, hG, hK, hbl⟩ := hrel
            obtain ⟨us, hus, hul⟩ := hu.out
            have hcell := hG.cell hus
            have HUS := Lib.hid hus
            have HUL := Lib.hid hul
            clear hu
            by_cases hkl : k < l
            · obtain ⟨gv, x, rfl, hgb, hx, hcx, hfx⟩ := ownls_at (hG.at_ hus) hkl
              have hlt2 := HGV.out gv rfl
              clear hus hul
              have HX := Lib.hid hx
              clear hx
              go_wp2_with (fail)
              obtain ⟨y, hy⟩ : ∃ y : Nat, ((x : Int) + 1) % 4294967296 = (y : Int) := ⟨((x + 1) % 4294967296 : Nat), by omega⟩
              rw [hy]
              go_roundw
              case rel =>
                exact ⟨k + 1, _, by omega, by go_num, Lib.hid (hlk.out.set (k := k) (x := y) HUS.out), Lib.hid ⟨_, List.getElem?_set_self (List.getElem?_eq_some_iff.1 HUS.out).1, by rw [List.length_set]; exact HUL.out⟩, hG.set HUS.out rfl (by rw [HUL.out]; exact hkl), hK.aside hlt2, below_set hbl hgb _⟩
              case measure => simp [intOf]; omega
            · obtain rfl : k = l := by omega
              clear hul hus HUS HUL hkl hk
              go_wp2_with (fail)
              go_loopw [35] (fun t wr => ∃ (q : Nat), i + 1 ≤ q ∧ q ≤ 10 ∧ t = .int .i64 (q : Int) ∧ Held w4.heap.size wr (.slice (some ⟨gr, 0, none⟩) 10 cr) hs ∧ Held z3.heap.size wr (.slice (some ⟨gk, 0, none⟩) 10 ck) ks ∧ Below w4.heap.size w4 wr) (fun t _ => 10 - (intOf t).toNat)
              case atStart => exact ⟨i + 1, by omega, by omega, by go_num, hG, hK, hbl⟩
              case round =>
                clear hG hK hbl
                obtain ⟨q, hq1, hq2, rfl, hG, hK, hbl⟩ := hrel
                by_cases hq : q < 10
                · obtain ⟨e, he⟩ : ∃ e, es[q]? = some e := ⟨_, List.getElem?_eq_getElem (by have := HES.out; omega)⟩
                  obtain ⟨f, hf, _, _, hfe⟩ := hlk.out.2 q _ he
                  obtain ⟨d, hd⟩ : ∃ d, ks[q]? = some d := ⟨_, List.getElem?_eq_getElem (by have := HKS.out; omega)⟩
                  have hde : d.2 = e.2 := by
                    have := congrArg (fun l => l[q]?) HMM.out
                    simp only [List.getElem?_map, hd, he, Option.map_some] at this
                    injection this
                  have hfe := hfe (by omega)
                  subst hfe
                  have hlen := HEL.out f (List.mem_of_getElem? he)
                  have c1 := hG.cell hf
                  have c2 := hK.cell hd
                  have m1 : Limbs _ f.1 f.2 := OwnLs.limbs (hG.at_ hf) (by omega)
                  have m2 : Limbs _ d.1 d.2 := OwnLs.limbs (hK.at_ hd) (by rw [hde]; omega)
                  rw [hde] at m2
                  obtain ⟨v1, e1⟩ : ∃ v, f.1 = v := ⟨_, rfl⟩
                  obtain ⟨v2, e2⟩ : ∃ v, d.1 = v := ⟨_, rfl⟩
                  rw [e1] at c1 m1
                  rw [e2] at c2 m2
                  clear e1 e2 he hf hd hde hlen
                  generalize f.2 = us at *
                  have hsm : ∀ w a b, Limbs w a us → Limbs w b us → Calls Try.prog 32 #[a, b] w (LivesPost w) := fun w a b h h' => by have := same_nums a b us us w h h'; rw [decide_eq_true rfl] at this; exact this
                  have HSM := Lib.hid hsm
                  have hz1 : gr < wr.heap.size := (hG.spine.lt gr rfl).2
                  have hz2 : gk < wr.heap.size := (hK.spine.lt gk rfl).2
                  clear hsm
                  go_wp2_with (fail)
                  go_region_held3 (fun w' => w'.cell? ⟨gr, q, none⟩ = some v1 ∧ w'.cell? ⟨gk, q, none⟩ = some v2)
                    (first
                      | go_keep
                      | exact ⟨c1, c2⟩
                      | exact ⟨(hbx.cell (p := ⟨gr, q, none⟩) hz1).trans c1, (hbx.cell (p := ⟨gk, q, none⟩) hz2).trans c2⟩)
                    ((first
                      | (go_at_call 32; (with_reducible refine (HSM.out _ _ _ ?_ ?_).mono ?_); exact m1.keep (below_drewN (Below.refl _ _) 1); exact m2.keep (below_drewN (Below.refl _ _) 1); rintro e w2 ⟨rfl, hbx⟩)))
                  have hbd := below_drewN (Below.refl wr.heap.size wr) 1
                  have hby := hbd.trans (hbx.mono hbd.size)
                  replace hG := hG.keep hby
                  replace hK := hK.keep hby
                  replace hbl := hbl.trans (hby.mono hbl.size)
                  clear c1 c2 m1 m2 hbx hbd hby
                  go_wp2_with (fail)
                  go_roundw
                  case rel => exact ⟨q + 1, by omega, by omega, by go_num, hG, hK, hbl⟩
                  case measure => simp [intOf]; omega
                · obtain rfl : q = 10 := by omega
                  go_wp2_with (fail)
                  go_roundw
                  case rel => exact ⟨i + 1, hs, by omega, by go_num, hlk, hG, hK, hbl⟩
                  case measure => simp [intOf]; omega
        · obtain rfl : i = 10 := by omega
          clear hlk hG hK
          go_wp2_with (fail)
          refine (HS1.out _ _ _ (LM1.out _ _ (ka_4.keep hbl)) (kc_4.keep hbl)).mono ?_
          rintro e y1 ⟨rfl, hy1⟩
          replace hbl := hbl.trans (hy1.mono hbl.size)
          go_wp2_with (fail)
          refine (HS2.out _ _ _ (LM2.out _ _ (kb_4.keep hbl)) (kd_4.keep hbl)).mono ?_
          rintro e y2 ⟨rfl, hy2⟩
          replace hbl := hbl.trans (hy2.mono hbl.size)
          go_wp2
          go_ret
          exact ⟨rfl, b4.trans (hbl.mono b4.size)⟩
end Go.Proofs.Ytaegkhdkhgemmaa
