/- The best plan is added to a plan. -/
import Derived.Test.YtkfjlgjncaddpaaGr
import Derived.Test.YtkfjlgjncaddpaaWSaw
namespace Go.Proofs.Ytkfjlgjncaddpaa
open Go.RowKit

theorem addPlan_empty (p B : Nat) (a b x y : Int) (v : Value) (l : List Cu) (w : World) (e : a < 1 ∨ b < 1) (hown : w.ownsRow B 73 2 v l.length (cc l)) :
    Calls Try.prog 44 #[.pointer (some ⟨p, 0, none⟩), v, rcV x y a b] w (AddPost w B v l []) := by
  have hem := fun W => empty_any x y a b W
  have hb1 := below_new w (.cells #[.int .i64 x, .int .i64 y, .int .i64 a, .int .i64 b] 89)
  have hq := Blk.new w 89 [.int .i64 x, .int .i64 y, .int .i64 a, .int .i64 b]
  have e2 : emp a b = true := by unfold emp; simpa using e
  have HO1 := Lib.hid (own_keep hown hb1)
  have HG1 : Hid (Gr w _ v v) := Lib.hid (Gr.of_below hb1)
  have HQ1 := Lib.hid hq
  rw [e2] at hem
  have HEM := Lib.hid hem
  clear hem hown e e2 hb1 hq
  unfold rcV
  go_enter Try.func44, Try.ntmps44
  go_upto_region 1 with (fail)
  obtain ⟨q, hq0⟩ : ∃ q, q = w.heap.size := ⟨_, rfl⟩
  rw [← hq0] at HQ1 ⊢
  generalize w.alloc (.cells #[.int .i64 x, .int .i64 y, .int .i64 a, .int .i64 b] 89) = W1 at *
  obtain ⟨r0, r1, r2, r3⟩ := (show _ ∧ _ ∧ _ ∧ _ from ⟨HQ1.out.cell 0, HQ1.out.cell 1, HQ1.out.cell 2, HQ1.out.cell 3⟩ : W1.cell? ⟨q, 0, none⟩ = some (.int .i64 x) ∧ W1.cell? ⟨q, 1, none⟩ = some (.int .i64 y) ∧ W1.cell? ⟨q, 2, none⟩ = some (.int .i64 a) ∧ W1.cell? ⟨q, 3, none⟩ = some (.int .i64 b))
  clear hq0
  go_wp2_with (go_at_call 55; refine (HEM.out _).mono ?_; rintro e W2 ⟨rfl, hb2⟩)
  go_ret
  exact ⟨v, rfl, by rw [List.append_nil]; exact own_keep HO1.out hb2, HG1.out.trans (Gr.of_below hb2)⟩
set_option maxHeartbeats 4000000 in
set_option maxRecDepth 100000 in
theorem addPlan_any (p kerf : Nat) (A : Option Addr) (L cp : Nat) (ss : List Sh) (T : Nat → Nat → Cho) (WW HH B : Nat) (hW : WW ≤ 64) (hH : HH ≤ 64) (hk : kerf ≤ 8) (hT : ∀ i j, 1 ≤ i → 1 ≤ j → i ≤ WW → j ≤ HH → T i j = best kerf ss i j) (hp : p < B) :
    ∀ (n : Nat) (a b x y : Int) (v : Value) (l : List Cu) (w : World), a.toNat + b.toNat ≤ n → a ≤ WW → b ≤ HH → -100 ≤ a → -100 ≤ b → 0 ≤ x → 0 ≤ y → x + a ≤ 1000 → y + b ≤ 1000 → SawM w p kerf A L cp T → B ≤ w.heap.size → w.ownsRow B 73 2 v l.length (cc l) → l.length + (planN kerf ss n a b).length ≤ 100000 →
      Calls Try.prog 44 #[.pointer (some ⟨p, 0, none⟩), v, rcV x y a b] w (AddPost w B v l (planN kerf ss n a b)) := by
  intro n
  induction n with
  | zero =>
    intro a b x y v l w hn _ _ _ _ _ _ _ _ _ _ hown _
    exact addPlan_empty p B a b x y v l w (by omega) hown
  | succ n ih =>
    intro a b x y v l w hn ha hb ha2 hb2 hx hy hxa hyb hm hB hown hlen
    have hem := fun W => empty_any x y a b W
    have hb1 := below_new w (.cells #[.int .i64 x, .int .i64 y, .int .i64 a, .int .i64 b] 89)
    have hq := Blk.new w 89 [.int .i64 x, .int .i64 y, .int .i64 a, .int .i64 b]
    unfold rcV at hem ⊢
    by_cases e : a < 1 ∨ b < 1
    · rw [planN_empty e]
      exact addPlan_empty p B a b x y v l w e hown
    · obtain ⟨i, rfl⟩ : ∃ i : Nat, a = (i : Int) := ⟨a.toNat, by omega⟩
      obtain ⟨j, rfl⟩ : ∃ j : Nat, b = (j : Int) := ⟨b.toNat, by omega⟩
      have e2 : emp i j = false := by unfold emp; simp; omega
      rw [e2] at hem
      obtain ⟨q, hq0⟩ : ∃ q, q = w.heap.size := ⟨_, rfl⟩
      have hi1 : 1 ≤ i := by omega
      have hj1 : 1 ≤ j := by omega
      have hTij := hT i j hi1 hj1 (by omega) (by omega)
      have HM1 := Lib.hid (hm.keep hb1)
      have HO1 := Lib.hid (own_keep hown hb1)
      have HG1 : Hid (Gr w _ v v) := Lib.hid (Gr.of_below hb1)
      have HQ1 := Lib.hid hq
      have HEM := Lib.hid hem
      have HIH := Lib.hid ih
      have HLE := Lib.hid hlen
      have HQ0 := Lib.hid hq0
      have hqs : q < (w.alloc (.cells #[.int .i64 x, .int .i64 y, .int .i64 (i : Int), .int .i64 (j : Int)] 89)).heap.size := by rw [hq0]; simp
      have hvq : ∀ g, v.ownBlock = some g → g < q := fun g hg => by rw [hq0]; exact own_ltS hown g hg
      have HVQ := Lib.hid hvq
      have hBq : B ≤ q := by omega
      have HTIJ := Lib.hid hTij
      clear hem ih hlen hvq hTij hm hown e e2
      go_enter Try.func44, Try.ntmps44
      go_upto_region 1 with (fail)
      rw [← hq0] at HQ1 ⊢
      clear hb1 hq hq0
      generalize w.alloc (.cells #[.int .i64 x, .int .i64 y, .int .i64 (i : Int), .int .i64 (j : Int)] 89) = W1 at *
      obtain ⟨r0, r1, r2, r3⟩ := (show _ ∧ _ ∧ _ ∧ _ from ⟨HQ1.out.cell 0, HQ1.out.cell 1, HQ1.out.cell 2, HQ1.out.cell 3⟩ : W1.cell? ⟨q, 0, none⟩ = some (.int .i64 x) ∧ W1.cell? ⟨q, 1, none⟩ = some (.int .i64 y) ∧ W1.cell? ⟨q, 2, none⟩ = some (.int .i64 (i : Int)) ∧ W1.cell? ⟨q, 3, none⟩ = some (.int .i64 (j : Int)))
      go_upto_region 3 with (go_at_call 55; refine (HEM.out _).mono ?_; rintro e W2 ⟨rfl, hb2⟩)
      have HM2 := Lib.hid (HM1.out.keep hb2)
      have HO2 := Lib.hid (own_keep HO1.out hb2)
      have HG2 := Lib.hid (HG1.out.trans (Gr.of_below hb2))
      have HQ2 := Lib.hid (HQ1.out.keep hb2)
      have hqs2 : q < W2.heap.size := Nat.lt_of_lt_of_le hqs hb2.size
      clear hb2 r0 r1 r2 r3 HM1 HO1 HG1 HQ1 hqs HEM
      have r2 : W2.cell? ⟨q, 2, none⟩ = some (.int .i64 (i : Int)) := HQ2.out.cell 2
      have r3 : W2.cell? ⟨q, 3, none⟩ = some (.int .i64 (j : Int)) := HQ2.out.cell 3
      have k0 := HM2.out.tk i j (by omega) (by omega)
      have k1 := HM2.out.ta i j (by omega) (by omega)
      rw [HTIJ.out] at k0 k1
      have i65 : (i : Int) < 65 := by omega
      have j65 : (j : Int) < 65 := by omega
      have HPA := Lib.hid (@planN_at kerf ss n i j hi1 hj1 _ _ rfl rfl)
      have HBC := Lib.hid (best_cut kerf ss i j)
      obtain ⟨ck, hck⟩ : ∃ ck, ck = (best kerf ss i j).k := ⟨_, rfl⟩
      obtain ⟨ca, hca⟩ : ∃ ca, ca = (best kerf ss i j).a := ⟨_, rfl⟩
      rw [← hck] at k0
      rw [← hca] at k1
      rw [← hck, ← hca] at HPA
      have HCK := Lib.hid hck
      have HCA := Lib.hid hca
      clear hck hca
      have lp : p < W2.heap.size := HM2.out.lt
      have np : ¬ p = W2.heap.size := Nat.ne_of_lt lp
      have nq : ¬ q = W2.heap.size := Nat.ne_of_lt hqs2
      go_region
      clear k0 k1 np nq lp r2 r3
      have hq7 : Blk 73 (W2.alloc (.cells #[.int .i64 ck, .int .i64 ca] 73)).drew W2.heap.size [.int .i64 ck, .int .i64 ca] := (Blk.new W2 73 [.int .i64 ck, .int .i64 ca]).drew
      have hb3 : Below W2.heap.size W2 (W2.alloc (.cells #[.int .i64 ck, .int .i64 ca] 73)).drew := (below_new W2 _).drew
      obtain ⟨q7, hq7e⟩ : ∃ q7, q7 = W2.heap.size := ⟨_, rfl⟩
      rw [← hq7e] at hq7 ⊢
      have HQ7 := Lib.hid hq7
      have HM3 := Lib.hid (HM2.out.keep hb3)
      have HO3 := Lib.hid (own_keep HO2.out hb3)
      have HG3 := Lib.hid (HG2.out.trans (Gr.of_below hb3))
      have HQ3 := Lib.hid (HQ2.out.keep hb3)
      have hqq : q < q7 := by rw [hq7e]; exact hqs2
      clear hq7 hb3 HM2 HO2 HG2 HQ2 hq7e hqs2
      generalize (W2.alloc (.cells #[.int .i64 ck, .int .i64 ca] 73)).drew = W3 at *
      obtain ⟨i0, hi0, hz0, hz1, hz2⟩ := info_parts infoCut
      have c0 : W3.cell? ⟨q7, 0, none⟩ = some (.int .i64 ck) := HQ7.out.cell 0
      have c1 : W3.cell? ⟨q7, 1, none⟩ = some (.int .i64 ca) := HQ7.out.cell 1
      have hb4 := below_new W3 (.cells #[.int .i64 ck, .int .i64 ca] 73)
      have HO4 := Lib.hid (own_keep HO3.out hb4)
      have HM4 := Lib.hid (HM3.out.keep hb4)
      have HG4 := Lib.hid (HG3.out.trans (Gr.of_below hb4))
      have HQ4 := Lib.hid (HQ3.out.keep hb4)
      have HQ74 := Lib.hid (HQ7.out.keep hb4)
      have HN4 := Lib.hid ((Blk.new W3 73 [.int .i64 ck, .int .i64 ca]).vals0)
      have hB4 : B ≤ (W3.alloc (.cells #[.int .i64 ck, .int .i64 ca] 73)).heap.size := Nat.le_trans hB HG4.out.size
      have hmx : l.length + 1 ≤ maxLen := by have := HLE.out; rw [HPA.out, List.length_cons] at this; unfold maxLen; omega
      have hby : (l.length + 1) * 16 ≤ 140737488355328 := by have := HLE.out; rw [HPA.out, List.length_cons] at this; omega
      have hone : ∀ u ∈ [Value.int .i64 ck, .int .i64 ca], u.oneCell' = true := cc_one [⟨ck, ca⟩]
      have HON := Lib.hid hone
      clear hb4 hone HM3 HO3 HG3 HQ3 HQ7
      go_upto_region 5 with (at_builtin; refine wpList_append_lies _ rfl _ _ 36 rfl B 73 i0 zCut 2 16 Try.underlying36 hi0 hz0 hz1 hz2 rfl (by decide) v l.length (cc l) rfl HO4.out ⟨W3.heap.size, 0, none⟩ 1 _ [.int .i64 ck, .int .i64 ca] rfl rfl (vals_cells HN4.out) HON.out (by decide) hmx hby hB4 _ rfl ?_; intro g5 cap5 w5 hown5 hgr5 hat5 hlt5)
      have hvg : ∀ g, v.ownBlock = some g → g < q := HVQ.out
      have HG5 := Lib.hid (HG4.out.trans (show Gr _ w5 v (.slice (some ⟨g5, 0, none⟩) (l.length + 1) cap5) from ⟨hgr5, by
        rcases hat5 with h | h
        · exact .inl h.symm
        · exact .inr fun g hg => by simp only [Value.ownBlock, Option.some.injEq] at hg; omega⟩))
      have HO5 : Hid (w5.ownsRow B 73 2 (.slice (some ⟨g5, 0, none⟩) (l.length + 1) cap5) (l.length + 1) (cc (l ++ [⟨ck, ca⟩]))) := Lib.hid (by rw [cc_append]; exact hown5)
      have HM5 := Lib.hid (HM4.out.belowB ((show Gr _ w5 v (.slice (some ⟨g5, 0, none⟩) (l.length + 1) cap5) from ⟨hgr5, by
        rcases hat5 with h | h
        · exact .inl h.symm
        · exact .inr fun g hg => by simp only [Value.ownBlock, Option.some.injEq] at hg; omega⟩).below hB4 (own_ge HO4.out)) hp)
      have HQ5 := Lib.hid (HQ4.out.grown hgr5 (fun e => by have := hvg q e.symm; omega))
      have HQ75 := Lib.hid (HQ74.out.grown hgr5 (fun e => by have := hvg q7 e.symm; omega))
      clear c0 c1 HO4 HM4 HG4 HQ4 HQ74 HN4 hown5 hgr5 hat5 hvg HON hmx hby hi0 hz0 hz1 hz2 hB4
      have c0 : w5.cell? ⟨q7, 0, none⟩ = some (.int .i64 ck) := HQ75.out.cell 0
      rcases HBC.out with h | ⟨z, _, _, _, ⟨h, _⟩ | ⟨h, _⟩⟩ | ⟨z, hz1, hz2, h⟩ | ⟨z, hz1, hz2, h⟩
      · have hk : ck = 0 := by rw [HCK.out, h]; rfl
        have HK := Lib.hid hk
        have d3 : (ck == 3) = false := by rw [hk]; rfl
        have d4 : (ck == 4) = false := by rw [hk]; rfl
        clear h hk
        go_wp2
        go_ret
        refine ⟨_, rfl, ?_, HG5.out⟩
        rw [HPA.out, HK.out]
        simp only [if_neg (show ¬ (0 : Int) = 3 by omega), if_neg (show ¬ (0 : Int) = 4 by omega)]
        have h := HO5.out
        rw [HK.out] at h
        simpa using h
      · have hk : ck = 1 := by rw [HCK.out, h]
        have HK := Lib.hid hk
        have d3 : (ck == 3) = false := by rw [hk]; rfl
        have d4 : (ck == 4) = false := by rw [hk]; rfl
        clear h hk
        go_wp2
        go_ret
        refine ⟨_, rfl, ?_, HG5.out⟩
        rw [HPA.out, HK.out]
        simp only [if_neg (show ¬ (1 : Int) = 3 by omega), if_neg (show ¬ (1 : Int) = 4 by omega)]
        have h := HO5.out
        rw [HK.out] at h
        simpa using h
      · have hk : ck = 2 := by rw [HCK.out, h]
        have HK := Lib.hid hk
        have d3 : (ck == 3) = false := by rw [hk]; rfl
        have d4 : (ck == 4) = false := by rw [hk]; rfl
        clear h hk
        go_wp2
        go_ret
        refine ⟨_, rfl, ?_, HG5.out⟩
        rw [HPA.out, HK.out]
        simp only [if_neg (show ¬ (2 : Int) = 3 by omega), if_neg (show ¬ (2 : Int) = 4 by omega)]
        have h := HO5.out
        rw [HK.out] at h
        simpa using h
      · have HKC : Hid (ck = 3) := Lib.hid (by rw [HCK.out, h])
        have HKA : Hid (ca = (z : Int)) := Lib.hid (by rw [HCA.out, h])
        have d3 : (ck == 3) = true := by rw [HKC.out]; rfl
        have d4 : (ck == 4) = false := by rw [HKC.out]; rfl
        clear h
        rw [HKA.out] at HQ75
        go_upto_region 7 with (fail)
        have hac := fun W => across_any x y (i : Int) (j : Int) (z : Int) (kerf : Int) W (by omega) (by omega) (by omega) (by omega)
        unfold rcV at hac
        have hkp : ∀ W, Below w5.heap.size w5 W → W.cell? ⟨q, 0, none⟩ = some (.int .i64 x) ∧ W.cell? ⟨q, 1, none⟩ = some (.int .i64 y) ∧ W.cell? ⟨q, 2, none⟩ = some (.int .i64 (i : Int)) ∧ W.cell? ⟨q, 3, none⟩ = some (.int .i64 (j : Int)) ∧ W.cell? ⟨q7, 1, none⟩ = some (.int .i64 (z : Int)) ∧ W.cell? ⟨p, 0, none⟩ = some (.int .i64 (kerf : Int)) := fun W hW => by
          have h1 := HQ5.out.keep hW
          have h2 := HQ75.out.keep hW
          exact ⟨h1.cell 0, h1.cell 1, h1.cell 2, h1.cell 3, h2.cell 1, (HM5.out.keep hW).kf⟩
        have hac2 : ∀ W, Below w5.heap.size w5 W → Calls Try.prog 56 #[.agg #[.int .i64 x, .int .i64 y, .int .i64 (i : Int), .int .i64 (j : Int)], .int .i64 (z : Int), .int .i64 (kerf : Int)] W fun e w' =>
            e = .returned (.tuple #[.agg #[.int .i64 x, .int .i64 y, .int .i64 (z : Int), .int .i64 (j : Int)], .agg #[.int .i64 (x + ((z : Int) + (kerf : Int))), .int .i64 y, .int .i64 ((i : Int) - ((z : Int) + (kerf : Int))), .int .i64 (j : Int)]]) ∧ Below W.heap.size W w' ∧ Below w5.heap.size w5 w' ∧ w'.cell? ⟨q, 0, none⟩ = some (.int .i64 x) ∧ w'.cell? ⟨q, 1, none⟩ = some (.int .i64 y) ∧ w'.cell? ⟨q, 2, none⟩ = some (.int .i64 (i : Int)) ∧ w'.cell? ⟨q, 3, none⟩ = some (.int .i64 (j : Int)) ∧ w'.cell? ⟨q7, 1, none⟩ = some (.int .i64 (z : Int)) ∧ w'.cell? ⟨p, 0, none⟩ = some (.int .i64 (kerf : Int)) :=
          fun W hW => (hac W).mono fun e w' h => ⟨h.1, h.2, below_on hW hW.size h.2, hkp w' (below_on hW hW.size h.2)⟩
        have HAC := Lib.hid hac2
        have B0 : Below w5.heap.size w5 w5.drew := (Below.refl w5.heap.size w5).drew
        have B1 : Below w5.heap.size w5 (w5.alloc o4).drew := ((Below.refl w5.heap.size w5).alloc (Nat.le_refl _) _).drew
        have B2 : Below w5.heap.size w5 ((w5.alloc o4).alloc o4).drew := (((Below.refl w5.heap.size w5).alloc (Nat.le_refl _) _).alloc (by simp) _).drew
        have N1 : Blk 89 (w5.alloc o4).drew w5.heap.size z4 := (Blk.new w5 89 z4).drew
        have N2 : Blk 89 ((w5.alloc o4).alloc o4).drew w5.heap.size z4 := ((Blk.new w5 89 z4).alloc o4).drew
        have N3 : Blk 89 ((w5.alloc o4).alloc o4).drew (w5.heap.size + 1) z4 := (blk_new2 z4).drew
        have HB0 := Lib.hid B0
        have HB1 := Lib.hid B1
        have HB2 := Lib.hid B2
        have HN1 := Lib.hid N1
        have HN2 := Lib.hid N2
        have HN3 := Lib.hid N3
        obtain ⟨r0, r1, r2, r3, r4, r5⟩ := hkp w5.drew B0
        have HKP := Lib.hid hkp
        have lq : q < w5.heap.size := HQ5.out.lt
        have lp : p < w5.heap.size := HM5.out.lt
        have lq7 : q7 < w5.heap.size := HQ75.out.lt
        have nq : ¬ q = w5.heap.size := Nat.ne_of_lt lq
        have np : ¬ p = w5.heap.size := Nat.ne_of_lt lp
        have nq7 : ¬ q7 = w5.heap.size := Nat.ne_of_lt lq7
        clear hkp hac hac2 B0 B1 B2 N1 N2 N3
        go_upto_region 7 with (fail)
        go_cut [8, 9] from 12 (fun a b ww => ∃ b8 b9, a = .pointer (some ⟨b8, 0, none⟩) ∧ b = .pointer (some ⟨b9, 0, none⟩) ∧ Blk 89 ww b8 [.int .i64 x, .int .i64 y, .int .i64 (z : Int), .int .i64 (j : Int)] ∧ Blk 89 ww b9 [.int .i64 (x + ((z : Int) + (kerf : Int))), .int .i64 y, .int .i64 ((i : Int) - ((z : Int) + (kerf : Int))), .int .i64 (j : Int)] ∧ Below w5.heap.size w5 ww ∧ w5.heap.size ≤ b8 ∧ w5.heap.size ≤ b9)
        case first =>
          go_region_held3 (fun w' => w'.cell? ⟨q, 0, none⟩ = some (.int .i64 x) ∧ w'.cell? ⟨q, 1, none⟩ = some (.int .i64 y) ∧ w'.cell? ⟨q, 2, none⟩ = some (.int .i64 (i : Int)) ∧ w'.cell? ⟨q, 3, none⟩ = some (.int .i64 (j : Int)) ∧ w'.cell? ⟨q7, 1, none⟩ = some (.int .i64 (z : Int)) ∧ w'.cell? ⟨p, 0, none⟩ = some (.int .i64 (kerf : Int)))
            (first | with_reducible exact ⟨r0, r1, r2, r3, r4, r5⟩ | with_reducible exact ⟨x0, x1, x2, x3, x4, x5⟩ | with_reducible exact HKP.out _ HB0.out | with_reducible exact HKP.out _ HB1.out | with_reducible exact HKP.out _ HB2.out | ((with_reducible refine HKP.out _ ?_); repeat (first | with_reducible exact hb6 | with_reducible exact HB0.out | with_reducible exact HB1.out | with_reducible exact HB2.out | ((with_reducible refine below_set ?_ ?_ _); rotate_left; focus (first | omega | (simp; omega))) | ((with_reducible refine bel_alloc ?_ ?_); rotate_left; focus (first | omega | (simp; omega))))))
            ((first
              | (go_at_call 56; (with_reducible refine (HAC.out _ HB0.out).mono ?_); rintro e w6 ⟨rfl, _hbW, hb6, x0, x1, x2, x3, x4, x5⟩; have sz6 := hb6.size)
              | (go_at_call 56; (with_reducible refine (HAC.out _ HB1.out).mono ?_); rintro e w6 ⟨rfl, hbW, hb6, x0, x1, x2, x3, x4, x5⟩; have sz6 := hb6.size; have M1 := HN1.out.keep hbW; obtain ⟨m0, m1, m2, m3, m4⟩ := z4c M1; have n1 : ¬ w5.heap.size = w6.heap.size := Nat.ne_of_lt M1.lt; have n2 : ¬ w6.heap.size = w5.heap.size := Nat.ne_of_gt M1.lt; have l1 : w5.heap.size < w6.heap.size := M1.lt)
              | (go_at_call 56; (with_reducible refine (HAC.out _ HB2.out).mono ?_); rintro e w6 ⟨rfl, hbW, hb6, x0, x1, x2, x3, x4, x5⟩; have sz6 := hb6.size; have M2 := HN2.out.keep hbW; have M3 := HN3.out.keep hbW; obtain ⟨m0, m1, m2, m3, m4⟩ := z4c M2; obtain ⟨l0, l1, l2, l3, l4⟩ := z4c M3; have g1 : w5.heap.size < w6.heap.size := M2.lt; have g2 : w5.heap.size + 1 < w6.heap.size := M3.lt)))
          all_goals
            go_wp2_with (fail)
            go_meet
            case rel =>
              refine ⟨_, _, rfl, rfl, ?_, ?_, ?_, by omega, by omega⟩
              · first
                  | with_reducible exact (Blk.new _ 89 [_, _, _, _]).alloc _
                  | with_reducible exact blk_new2 [_, _, _, _]
                  | with_reducible exact (set4 M1 _ _ _ _).alloc _
                  | with_reducible exact blk_news [_, _, _, _]
                  | with_reducible exact far4 (set4 M2 _ _ _ _) (by omega) _ _ _ _
                  | with_reducible exact far4 (set4 M3 _ _ _ _) (by omega) _ _ _ _
              · first
                  | with_reducible exact (Blk.new _ 89 [_, _, _, _]).alloc _
                  | with_reducible exact blk_new2 [_, _, _, _]
                  | with_reducible exact (set4 M1 _ _ _ _).alloc _
                  | with_reducible exact blk_news [_, _, _, _]
                  | with_reducible exact set4 (far4 M2 (by omega) _ _ _ _) _ _ _ _
                  | with_reducible exact set4 (far4 M3 (by omega) _ _ _ _) _ _ _ _
              · repeat (first | with_reducible exact hb6 | ((with_reducible refine below_set ?_ ?_ _); rotate_left; focus (first | omega | (simp; omega))) | ((with_reducible refine bel_alloc ?_ ?_); rotate_left; focus (first | omega | (simp; omega))))
        case rest =>
          obtain ⟨b8, b9, rfl, rfl, hl8, hl9, hbl, hg8, hg9⟩ := hcut
          clear HB0 HB1 HB2 HN1 HN2 HN3 HKP HAC nq np nq7 lq lp lq7 r0 r1 r2 r3 r4 r5
          have HM6 := Lib.hid (HM5.out.keep hbl).drew
          have HO6 := Lib.hid (own_keep HO5.out hbl)
          have HG6 := Lib.hid (HG5.out.trans (Gr.of_below hbl)).drew
          have hB6 : B ≤ wc.drew.heap.size := Nat.le_trans hB HG6.out.size
          have hlm : (l ++ [(⟨ck, ca⟩ : Cu)]).length = l.length + 1 := by simp
          have hpl := HLE.out
          rw [HPA.out, HKC.out, HKA.out] at hpl
          simp only [if_pos, List.length_cons, List.length_append] at hpl
          have hc1 := HIH.out (z : Int) (j : Int) x y (.slice (some ⟨g5, 0, none⟩) (l.length + 1) cap5) (l ++ [⟨ck, ca⟩]) wc.drew (by omega) (by omega) (by omega) (by omega) (by omega) (by omega) (by omega) (by omega) (by omega) HM6.out hB6 (by rw [hlm]; exact HO6.out) (by rw [hlm]; omega)
          have hkp : ∀ (W : World) (v' : Value), Gr wc.drew W (.slice (some ⟨g5, 0, none⟩) (l.length + 1) cap5) v' → W.cell? ⟨b8, 0, none⟩ = some (.int .i64 x) ∧ W.cell? ⟨b8, 1, none⟩ = some (.int .i64 y) ∧ W.cell? ⟨b8, 2, none⟩ = some (.int .i64 (z : Int)) ∧ W.cell? ⟨b8, 3, none⟩ = some (.int .i64 (j : Int)) ∧ W.cell? ⟨b9, 0, none⟩ = some (.int .i64 (x + ((z : Int) + (kerf : Int)))) ∧ W.cell? ⟨b9, 1, none⟩ = some (.int .i64 y) ∧ W.cell? ⟨b9, 2, none⟩ = some (.int .i64 ((i : Int) - ((z : Int) + (kerf : Int)))) ∧ W.cell? ⟨b9, 3, none⟩ = some (.int .i64 (j : Int)) := fun W v' hW => by
            have h1 := hW.blk hl8.drew (by simp only [Value.ownBlock, ne_eq, Option.some.injEq]; omega)
            have h2 := hW.blk hl9.drew (by simp only [Value.ownBlock, ne_eq, Option.some.injEq]; omega)
            exact ⟨h1.cell 0, h1.cell 1, h1.cell 2, h1.cell 3, h2.cell 0, h2.cell 1, h2.cell 2, h2.cell 3⟩
          obtain ⟨y0, y1, y2, y3, y4, y5, y6, y7⟩ := hkp wc.drew _ (Gr.of_below (Below.refl _ _))
          have hc1' : Calls Try.prog 44 #[.pointer (some ⟨p, 0, none⟩), .slice (some ⟨g5, 0, none⟩) (l.length + 1) cap5, .agg #[.int .i64 x, .int .i64 y, .int .i64 (z : Int), .int .i64 (j : Int)]] wc.drew fun e w' => ∃ v', e = .returned v' ∧ Hid (w'.ownsRow B 73 2 v' ((l ++ [(⟨ck, ca⟩ : Cu)]) ++ planN kerf ss n (z : Int) (j : Int)).length (cc ((l ++ [(⟨ck, ca⟩ : Cu)]) ++ planN kerf ss n (z : Int) (j : Int)))) ∧ Hid (Gr wc.drew w' (.slice (some ⟨g5, 0, none⟩) (l.length + 1) cap5) v') ∧ w'.cell? ⟨b8, 0, none⟩ = some (.int .i64 x) ∧ w'.cell? ⟨b8, 1, none⟩ = some (.int .i64 y) ∧ w'.cell? ⟨b8, 2, none⟩ = some (.int .i64 (z : Int)) ∧ w'.cell? ⟨b8, 3, none⟩ = some (.int .i64 (j : Int)) ∧ w'.cell? ⟨b9, 0, none⟩ = some (.int .i64 (x + ((z : Int) + (kerf : Int)))) ∧ w'.cell? ⟨b9, 1, none⟩ = some (.int .i64 y) ∧ w'.cell? ⟨b9, 2, none⟩ = some (.int .i64 ((i : Int) - ((z : Int) + (kerf : Int)))) ∧ w'.cell? ⟨b9, 3, none⟩ = some (.int .i64 (j : Int)) :=
            hc1.mono fun e w' ⟨v', h1, h2, h3⟩ => ⟨v', h1, Lib.hid h2, Lib.hid h3, hkp w' v' h3⟩
          have hc2 : ∀ (v' : Value) (W : World), Hid (W.ownsRow B 73 2 v' ((l ++ [(⟨ck, ca⟩ : Cu)]) ++ planN kerf ss n (z : Int) (j : Int)).length (cc ((l ++ [(⟨ck, ca⟩ : Cu)]) ++ planN kerf ss n (z : Int) (j : Int)))) → Hid (Gr wc.drew W (.slice (some ⟨g5, 0, none⟩) (l.length + 1) cap5) v') →
              Calls Try.prog 44 #[.pointer (some ⟨p, 0, none⟩), v', .agg #[.int .i64 (x + ((z : Int) + (kerf : Int))), .int .i64 y, .int .i64 ((i : Int) - ((z : Int) + (kerf : Int))), .int .i64 (j : Int)]] W fun e w' => ∃ v'', e = .returned v'' ∧ Hid (w'.ownsRow B 73 2 v'' (((l ++ [(⟨ck, ca⟩ : Cu)]) ++ planN kerf ss n (z : Int) (j : Int)) ++ planN kerf ss n ((i : Int) - ((z : Int) + (kerf : Int))) (j : Int)).length (cc (((l ++ [(⟨ck, ca⟩ : Cu)]) ++ planN kerf ss n (z : Int) (j : Int)) ++ planN kerf ss n ((i : Int) - ((z : Int) + (kerf : Int))) (j : Int)))) ∧ Hid (Gr wc.drew w' (.slice (some ⟨g5, 0, none⟩) (l.length + 1) cap5) v'') ∧ w'.cell? ⟨b8, 0, none⟩ = some (.int .i64 x) ∧ w'.cell? ⟨b8, 1, none⟩ = some (.int .i64 y) ∧ w'.cell? ⟨b8, 2, none⟩ = some (.int .i64 (z : Int)) ∧ w'.cell? ⟨b8, 3, none⟩ = some (.int .i64 (j : Int)) ∧ w'.cell? ⟨b9, 0, none⟩ = some (.int .i64 (x + ((z : Int) + (kerf : Int)))) ∧ w'.cell? ⟨b9, 1, none⟩ = some (.int .i64 y) ∧ w'.cell? ⟨b9, 2, none⟩ = some (.int .i64 ((i : Int) - ((z : Int) + (kerf : Int)))) ∧ w'.cell? ⟨b9, 3, none⟩ = some (.int .i64 (j : Int)) := fun v' W ho hg => by
            have hmW := HM6.out.belowB (hg.out.below hB6 (own_ge HO6.out)) hp
            refine (HIH.out ((i : Int) - ((z : Int) + (kerf : Int))) (j : Int) (x + ((z : Int) + (kerf : Int))) y v' _ W (by omega) (by omega) (by omega) (by omega) (by omega) (by omega) (by omega) (by omega) (by omega) hmW (Nat.le_trans hB6 hg.out.size) ho.out ?_).mono fun e w' ⟨v'', h1, h2, h3⟩ => ⟨v'', h1, Lib.hid h2, Lib.hid (hg.out.trans h3), hkp w' v'' (hg.out.trans h3)⟩
            rw [List.length_append, hlm]
            omega
          have HC1 := Lib.hid hc1'
          have HC2 := Lib.hid hc2
          clear hl8 hl9 hbl hg8 hg9 hc1 hc1' hc2 hkp hpl hlm HIH HM6 HM5 HO5 HG5 HQ5 HQ75
          go_upto_region 8 with (fail)
          go_region_held3 (fun w' => w'.cell? ⟨b8, 0, none⟩ = some (.int .i64 x) ∧ w'.cell? ⟨b8, 1, none⟩ = some (.int .i64 y) ∧ w'.cell? ⟨b8, 2, none⟩ = some (.int .i64 (z : Int)) ∧ w'.cell? ⟨b8, 3, none⟩ = some (.int .i64 (j : Int)) ∧ w'.cell? ⟨b9, 0, none⟩ = some (.int .i64 (x + ((z : Int) + (kerf : Int)))) ∧ w'.cell? ⟨b9, 1, none⟩ = some (.int .i64 y) ∧ w'.cell? ⟨b9, 2, none⟩ = some (.int .i64 ((i : Int) - ((z : Int) + (kerf : Int)))) ∧ w'.cell? ⟨b9, 3, none⟩ = some (.int .i64 (j : Int)))
            (first | with_reducible exact ⟨y0, y1, y2, y3, y4, y5, y6, y7⟩ | with_reducible exact ⟨e0, e1, e2, e3, e4, e5, e6, e7⟩ | with_reducible exact hs8)
            ((first
              | (go_at_call 44; (with_reducible refine (HC1.out).mono ?_); rintro e w7 ⟨v7, rfl, ho7, hg7, e0, e1, e2, e3, e4, e5, e6, e7⟩)
              | (go_at_call 44; (with_reducible refine (HC2.out _ _ ho7 hg7).mono ?_); rintro e w8 ⟨v8, rfl, ho8, hg8, hs8⟩)))
          clear y0 y1 y2 y3 y4 y5 y6 y7 e0 e1 e2 e3 e4 e5 e6 e7
          go_wp2
          go_ret
          refine ⟨v8, rfl, ?_, HG6.out.trans hg8.out⟩
          rw [HPA.out, HKC.out]
          simp only [if_pos]
          have h := ho8.out
          rw [HKA.out]
          rw [HKA.out, HKC.out] at h
          simpa [List.append_assoc] using h
      · have HKC : Hid (ck = 4) := Lib.hid (by rw [HCK.out, h])
        have HKA : Hid (ca = (z : Int)) := Lib.hid (by rw [HCA.out, h])
        have d3 : (ck == 3) = false := by rw [HKC.out]; rfl
        have d4 : (ck == 4) = true := by rw [HKC.out]; rfl
        clear h
        rw [HKA.out] at HQ75
        go_upto_region 10 with (fail)
        have hac := fun W => down_any x y (i : Int) (j : Int) (z : Int) (kerf : Int) W (by omega) (by omega) (by omega) (by omega)
        unfold rcV at hac
        have hkp : ∀ W, Below w5.heap.size w5 W → W.cell? ⟨q, 0, none⟩ = some (.int .i64 x) ∧ W.cell? ⟨q, 1, none⟩ = some (.int .i64 y) ∧ W.cell? ⟨q, 2, none⟩ = some (.int .i64 (i : Int)) ∧ W.cell? ⟨q, 3, none⟩ = some (.int .i64 (j : Int)) ∧ W.cell? ⟨q7, 1, none⟩ = some (.int .i64 (z : Int)) ∧ W.cell? ⟨p, 0, none⟩ = some (.int .i64 (kerf : Int)) := fun W hW => by
          have h1 := HQ5.out.keep hW
          have h2 := HQ75.out.keep hW
          exact ⟨h1.cell 0, h1.cell 1, h1.cell 2, h1.cell 3, h2.cell 1, (HM5.out.keep hW).kf⟩
        have hac2 : ∀ W, Below w5.heap.size w5 W → Calls Try.prog 57 #[.agg #[.int .i64 x, .int .i64 y, .int .i64 (i : Int), .int .i64 (j : Int)], .int .i64 (z : Int), .int .i64 (kerf : Int)] W fun e w' =>
            e = .returned (.tuple #[.agg #[.int .i64 x, .int .i64 y, .int .i64 (i : Int), .int .i64 (z : Int)], .agg #[.int .i64 x, .int .i64 (y + ((z : Int) + (kerf : Int))), .int .i64 (i : Int), .int .i64 ((j : Int) - ((z : Int) + (kerf : Int)))]]) ∧ Below W.heap.size W w' ∧ Below w5.heap.size w5 w' ∧ w'.cell? ⟨q, 0, none⟩ = some (.int .i64 x) ∧ w'.cell? ⟨q, 1, none⟩ = some (.int .i64 y) ∧ w'.cell? ⟨q, 2, none⟩ = some (.int .i64 (i : Int)) ∧ w'.cell? ⟨q, 3, none⟩ = some (.int .i64 (j : Int)) ∧ w'.cell? ⟨q7, 1, none⟩ = some (.int .i64 (z : Int)) ∧ w'.cell? ⟨p, 0, none⟩ = some (.int .i64 (kerf : Int)) :=
          fun W hW => (hac W).mono fun e w' h => ⟨h.1, h.2, below_on hW hW.size h.2, hkp w' (below_on hW hW.size h.2)⟩
        have HAC := Lib.hid hac2
        have B0 : Below w5.heap.size w5 w5.drew := (Below.refl w5.heap.size w5).drew
        have B1 : Below w5.heap.size w5 (w5.alloc o4).drew := ((Below.refl w5.heap.size w5).alloc (Nat.le_refl _) _).drew
        have B2 : Below w5.heap.size w5 ((w5.alloc o4).alloc o4).drew := (((Below.refl w5.heap.size w5).alloc (Nat.le_refl _) _).alloc (by simp) _).drew
        have N1 : Blk 89 (w5.alloc o4).drew w5.heap.size z4 := (Blk.new w5 89 z4).drew
        have N2 : Blk 89 ((w5.alloc o4).alloc o4).drew w5.heap.size z4 := ((Blk.new w5 89 z4).alloc o4).drew
        have N3 : Blk 89 ((w5.alloc o4).alloc o4).drew (w5.heap.size + 1) z4 := (blk_new2 z4).drew
        have HB0 := Lib.hid B0
        have HB1 := Lib.hid B1
        have HB2 := Lib.hid B2
        have HN1 := Lib.hid N1
        have HN2 := Lib.hid N2
        have HN3 := Lib.hid N3
        obtain ⟨r0, r1, r2, r3, r4, r5⟩ := hkp w5.drew B0
        have HKP := Lib.hid hkp
        have lq : q < w5.heap.size := HQ5.out.lt
        have lp : p < w5.heap.size := HM5.out.lt
        have lq7 : q7 < w5.heap.size := HQ75.out.lt
        have nq : ¬ q = w5.heap.size := Nat.ne_of_lt lq
        have np : ¬ p = w5.heap.size := Nat.ne_of_lt lp
        have nq7 : ¬ q7 = w5.heap.size := Nat.ne_of_lt lq7
        clear hkp hac hac2 B0 B1 B2 N1 N2 N3
        go_upto_region 10 with (fail)
        go_cut [10, 11] from 12 (fun a b ww => ∃ b8 b9, a = .pointer (some ⟨b8, 0, none⟩) ∧ b = .pointer (some ⟨b9, 0, none⟩) ∧ Blk 89 ww b8 [.int .i64 x, .int .i64 y, .int .i64 (i : Int), .int .i64 (z : Int)] ∧ Blk 89 ww b9 [.int .i64 x, .int .i64 (y + ((z : Int) + (kerf : Int))), .int .i64 (i : Int), .int .i64 ((j : Int) - ((z : Int) + (kerf : Int)))] ∧ Below w5.heap.size w5 ww ∧ w5.heap.size ≤ b8 ∧ w5.heap.size ≤ b9)
        case first =>
          go_region_held3 (fun w' => w'.cell? ⟨q, 0, none⟩ = some (.int .i64 x) ∧ w'.cell? ⟨q, 1, none⟩ = some (.int .i64 y) ∧ w'.cell? ⟨q, 2, none⟩ = some (.int .i64 (i : Int)) ∧ w'.cell? ⟨q, 3, none⟩ = some (.int .i64 (j : Int)) ∧ w'.cell? ⟨q7, 1, none⟩ = some (.int .i64 (z : Int)) ∧ w'.cell? ⟨p, 0, none⟩ = some (.int .i64 (kerf : Int)))
            (first | with_reducible exact ⟨r0, r1, r2, r3, r4, r5⟩ | with_reducible exact ⟨x0, x1, x2, x3, x4, x5⟩ | with_reducible exact HKP.out _ HB0.out | with_reducible exact HKP.out _ HB1.out | with_reducible exact HKP.out _ HB2.out | ((with_reducible refine HKP.out _ ?_); repeat (first | with_reducible exact hb6 | with_reducible exact HB0.out | with_reducible exact HB1.out | with_reducible exact HB2.out | ((with_reducible refine below_set ?_ ?_ _); rotate_left; focus (first | omega | (simp; omega))) | ((with_reducible refine bel_alloc ?_ ?_); rotate_left; focus (first | omega | (simp; omega))))))
            ((first
              | (go_at_call 57; (with_reducible refine (HAC.out _ HB0.out).mono ?_); rintro e w6 ⟨rfl, _hbW, hb6, x0, x1, x2, x3, x4, x5⟩; have sz6 := hb6.size)
              | (go_at_call 57; (with_reducible refine (HAC.out _ HB1.out).mono ?_); rintro e w6 ⟨rfl, hbW, hb6, x0, x1, x2, x3, x4, x5⟩; have sz6 := hb6.size; have M1 := HN1.out.keep hbW; obtain ⟨m0, m1, m2, m3, m4⟩ := z4c M1; have n1 : ¬ w5.heap.size = w6.heap.size := Nat.ne_of_lt M1.lt; have n2 : ¬ w6.heap.size = w5.heap.size := Nat.ne_of_gt M1.lt; have l1 : w5.heap.size < w6.heap.size := M1.lt)
              | (go_at_call 57; (with_reducible refine (HAC.out _ HB2.out).mono ?_); rintro e w6 ⟨rfl, hbW, hb6, x0, x1, x2, x3, x4, x5⟩; have sz6 := hb6.size; have M2 := HN2.out.keep hbW; have M3 := HN3.out.keep hbW; obtain ⟨m0, m1, m2, m3, m4⟩ := z4c M2; obtain ⟨l0, l1, l2, l3, l4⟩ := z4c M3; have g1 : w5.heap.size < w6.heap.size := M2.lt; have g2 : w5.heap.size + 1 < w6.heap.size := M3.lt)))
          all_goals
            go_wp2_with (fail)
            go_meet
            case rel =>
              refine ⟨_, _, rfl, rfl, ?_, ?_, ?_, by omega, by omega⟩
              · first
                  | with_reducible exact (Blk.new _ 89 [_, _, _, _]).alloc _
                  | with_reducible exact blk_new2 [_, _, _, _]
                  | with_reducible exact (set4 M1 _ _ _ _).alloc _
                  | with_reducible exact blk_news [_, _, _, _]
                  | with_reducible exact far4 (set4 M2 _ _ _ _) (by omega) _ _ _ _
                  | with_reducible exact far4 (set4 M3 _ _ _ _) (by omega) _ _ _ _
              · first
                  | with_reducible exact (Blk.new _ 89 [_, _, _, _]).alloc _
                  | with_reducible exact blk_new2 [_, _, _, _]
                  | with_reducible exact (set4 M1 _ _ _ _).alloc _
                  | with_reducible exact blk_news [_, _, _, _]
                  | with_reducible exact set4 (far4 M2 (by omega) _ _ _ _) _ _ _ _
                  | with_reducible exact set4 (far4 M3 (by omega) _ _ _ _) _ _ _ _
              · repeat (first | with_reducible exact hb6 | ((with_reducible refine below_set ?_ ?_ _); rotate_left; focus (first | omega | (simp; omega))) | ((with_reducible refine bel_alloc ?_ ?_); rotate_left; focus (first | omega | (simp; omega))))
        case rest =>
          obtain ⟨b8, b9, rfl, rfl, hl8, hl9, hbl, hg8, hg9⟩ := hcut
          clear HB0 HB1 HB2 HN1 HN2 HN3 HKP HAC nq np nq7 lq lp lq7 r0 r1 r2 r3 r4 r5
          have HM6 := Lib.hid (HM5.out.keep hbl).drew
          have HO6 := Lib.hid (own_keep HO5.out hbl)
          have HG6 := Lib.hid (HG5.out.trans (Gr.of_below hbl)).drew
          have hB6 : B ≤ wc.drew.heap.size := Nat.le_trans hB HG6.out.size
          have hlm : (l ++ [(⟨ck, ca⟩ : Cu)]).length = l.length + 1 := by simp
          have hpl := HLE.out
          rw [HPA.out, HKC.out, HKA.out] at hpl
          simp only [if_pos, if_neg (show ¬ (4 : Int) = 3 by omega), List.length_cons, List.length_append] at hpl
          have hc1 := HIH.out (i : Int) (z : Int) x y (.slice (some ⟨g5, 0, none⟩) (l.length + 1) cap5) (l ++ [⟨ck, ca⟩]) wc.drew (by omega) (by omega) (by omega) (by omega) (by omega) (by omega) (by omega) (by omega) (by omega) HM6.out hB6 (by rw [hlm]; exact HO6.out) (by rw [hlm]; omega)
          have hkp : ∀ (W : World) (v' : Value), Gr wc.drew W (.slice (some ⟨g5, 0, none⟩) (l.length + 1) cap5) v' → W.cell? ⟨b8, 0, none⟩ = some (.int .i64 x) ∧ W.cell? ⟨b8, 1, none⟩ = some (.int .i64 y) ∧ W.cell? ⟨b8, 2, none⟩ = some (.int .i64 (i : Int)) ∧ W.cell? ⟨b8, 3, none⟩ = some (.int .i64 (z : Int)) ∧ W.cell? ⟨b9, 0, none⟩ = some (.int .i64 x) ∧ W.cell? ⟨b9, 1, none⟩ = some (.int .i64 (y + ((z : Int) + (kerf : Int)))) ∧ W.cell? ⟨b9, 2, none⟩ = some (.int .i64 (i : Int)) ∧ W.cell? ⟨b9, 3, none⟩ = some (.int .i64 ((j : Int) - ((z : Int) + (kerf : Int)))) := fun W v' hW => by
            have h1 := hW.blk hl8.drew (by simp only [Value.ownBlock, ne_eq, Option.some.injEq]; omega)
            have h2 := hW.blk hl9.drew (by simp only [Value.ownBlock, ne_eq, Option.some.injEq]; omega)
            exact ⟨h1.cell 0, h1.cell 1, h1.cell 2, h1.cell 3, h2.cell 0, h2.cell 1, h2.cell 2, h2.cell 3⟩
          obtain ⟨y0, y1, y2, y3, y4, y5, y6, y7⟩ := hkp wc.drew _ (Gr.of_below (Below.refl _ _))
          have hc1' : Calls Try.prog 44 #[.pointer (some ⟨p, 0, none⟩), .slice (some ⟨g5, 0, none⟩) (l.length + 1) cap5, .agg #[.int .i64 x, .int .i64 y, .int .i64 (i : Int), .int .i64 (z : Int)]] wc.drew fun e w' => ∃ v', e = .returned v' ∧ Hid (w'.ownsRow B 73 2 v' ((l ++ [(⟨ck, ca⟩ : Cu)]) ++ planN kerf ss n (i : Int) (z : Int)).length (cc ((l ++ [(⟨ck, ca⟩ : Cu)]) ++ planN kerf ss n (i : Int) (z : Int)))) ∧ Hid (Gr wc.drew w' (.slice (some ⟨g5, 0, none⟩) (l.length + 1) cap5) v') ∧ w'.cell? ⟨b8, 0, none⟩ = some (.int .i64 x) ∧ w'.cell? ⟨b8, 1, none⟩ = some (.int .i64 y) ∧ w'.cell? ⟨b8, 2, none⟩ = some (.int .i64 (i : Int)) ∧ w'.cell? ⟨b8, 3, none⟩ = some (.int .i64 (z : Int)) ∧ w'.cell? ⟨b9, 0, none⟩ = some (.int .i64 x) ∧ w'.cell? ⟨b9, 1, none⟩ = some (.int .i64 (y + ((z : Int) + (kerf : Int)))) ∧ w'.cell? ⟨b9, 2, none⟩ = some (.int .i64 (i : Int)) ∧ w'.cell? ⟨b9, 3, none⟩ = some (.int .i64 ((j : Int) - ((z : Int) + (kerf : Int)))) :=
            hc1.mono fun e w' ⟨v', h1, h2, h3⟩ => ⟨v', h1, Lib.hid h2, Lib.hid h3, hkp w' v' h3⟩
          have hc2 : ∀ (v' : Value) (W : World), Hid (W.ownsRow B 73 2 v' ((l ++ [(⟨ck, ca⟩ : Cu)]) ++ planN kerf ss n (i : Int) (z : Int)).length (cc ((l ++ [(⟨ck, ca⟩ : Cu)]) ++ planN kerf ss n (i : Int) (z : Int)))) → Hid (Gr wc.drew W (.slice (some ⟨g5, 0, none⟩) (l.length + 1) cap5) v') →
              Calls Try.prog 44 #[.pointer (some ⟨p, 0, none⟩), v', .agg #[.int .i64 x, .int .i64 (y + ((z : Int) + (kerf : Int))), .int .i64 (i : Int), .int .i64 ((j : Int) - ((z : Int) + (kerf : Int)))]] W fun e w' => ∃ v'', e = .returned v'' ∧ Hid (w'.ownsRow B 73 2 v'' (((l ++ [(⟨ck, ca⟩ : Cu)]) ++ planN kerf ss n (i : Int) (z : Int)) ++ planN kerf ss n (i : Int) ((j : Int) - ((z : Int) + (kerf : Int)))).length (cc (((l ++ [(⟨ck, ca⟩ : Cu)]) ++ planN kerf ss n (i : Int) (z : Int)) ++ planN kerf ss n (i : Int) ((j : Int) - ((z : Int) + (kerf : Int)))))) ∧ Hid (Gr wc.drew w' (.slice (some ⟨g5, 0, none⟩) (l.length + 1) cap5) v'') ∧ w'.cell? ⟨b8, 0, none⟩ = some (.int .i64 x) ∧ w'.cell? ⟨b8, 1, none⟩ = some (.int .i64 y) ∧ w'.cell? ⟨b8, 2, none⟩ = some (.int .i64 (i : Int)) ∧ w'.cell? ⟨b8, 3, none⟩ = some (.int .i64 (z : Int)) ∧ w'.cell? ⟨b9, 0, none⟩ = some (.int .i64 x) ∧ w'.cell? ⟨b9, 1, none⟩ = some (.int .i64 (y + ((z : Int) + (kerf : Int)))) ∧ w'.cell? ⟨b9, 2, none⟩ = some (.int .i64 (i : Int)) ∧ w'.cell? ⟨b9, 3, none⟩ = some (.int .i64 ((j : Int) - ((z : Int) + (kerf : Int)))) := fun v' W ho hg => by
            have hmW := HM6.out.belowB (hg.out.below hB6 (own_ge HO6.out)) hp
            refine (HIH.out (i : Int) ((j : Int) - ((z : Int) + (kerf : Int))) x (y + ((z : Int) + (kerf : Int))) v' _ W (by omega) (by omega) (by omega) (by omega) (by omega) (by omega) (by omega) (by omega) (by omega) hmW (Nat.le_trans hB6 hg.out.size) ho.out ?_).mono fun e w' ⟨v'', h1, h2, h3⟩ => ⟨v'', h1, Lib.hid h2, Lib.hid (hg.out.trans h3), hkp w' v'' (hg.out.trans h3)⟩
            rw [List.length_append, hlm]
            omega
          have HC1 := Lib.hid hc1'
          have HC2 := Lib.hid hc2
          clear hl8 hl9 hbl hg8 hg9 hc1 hc1' hc2 hkp hpl hlm HIH HM6 HM5 HO5 HG5 HQ5 HQ75
          go_upto_region 11 with (fail)
          go_region_held3 (fun w' => w'.cell? ⟨b8, 0, none⟩ = some (.int .i64 x) ∧ w'.cell? ⟨b8, 1, none⟩ = some (.int .i64 y) ∧ w'.cell? ⟨b8, 2, none⟩ = some (.int .i64 (i : Int)) ∧ w'.cell? ⟨b8, 3, none⟩ = some (.int .i64 (z : Int)) ∧ w'.cell? ⟨b9, 0, none⟩ = some (.int .i64 x) ∧ w'.cell? ⟨b9, 1, none⟩ = some (.int .i64 (y + ((z : Int) + (kerf : Int)))) ∧ w'.cell? ⟨b9, 2, none⟩ = some (.int .i64 (i : Int)) ∧ w'.cell? ⟨b9, 3, none⟩ = some (.int .i64 ((j : Int) - ((z : Int) + (kerf : Int)))))
            (first | with_reducible exact ⟨y0, y1, y2, y3, y4, y5, y6, y7⟩ | with_reducible exact ⟨e0, e1, e2, e3, e4, e5, e6, e7⟩ | with_reducible exact hs8)
            ((first
              | (go_at_call 44; (with_reducible refine (HC1.out).mono ?_); rintro e w7 ⟨v7, rfl, ho7, hg7, e0, e1, e2, e3, e4, e5, e6, e7⟩)
              | (go_at_call 44; (with_reducible refine (HC2.out _ _ ho7 hg7).mono ?_); rintro e w8 ⟨v8, rfl, ho8, hg8, hs8⟩)))
          clear y0 y1 y2 y3 y4 y5 y6 y7 e0 e1 e2 e3 e4 e5 e6 e7
          go_wp2
          go_ret
          refine ⟨v8, rfl, ?_, HG6.out.trans hg8.out⟩
          rw [HPA.out, HKC.out]
          simp only [if_pos, if_neg (show ¬ (4 : Int) = 3 by omega)]
          have h := ho8.out
          rw [HKA.out]
          rw [HKA.out, HKC.out] at h
          simpa [List.append_assoc] using h
end Go.Proofs.Ytkfjlgjncaddpaa
