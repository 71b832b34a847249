/- The reader of plans reads as rdF says. -/
import Derived.Test.YtkfjlgjncaddpaaRdf
import Derived.Test.YtkfjlgjncaddpaaWRd2
import Derived.Test.YtkfjlgjncaddpaaWCho
import Derived.Deep.Cut
import Derived.Deep.CutRange
import Derived.Deep.RegionHeld3
import Derived.Deep.RegionWith
namespace Go.Proofs.Ytkfjlgjncaddpaa
open Go.RowKit

theorem read_empty (p : Nat) (w0 : World) (K : Int) (A : Option Addr) (L cp : Nat) (a b x y : Int) (rest : List Cu) (vp : Value) (ps : List Pc) (w : World) (e : a < 1 ∨ b < 1) (h : RdM p w0 w K A L cp rest vp ps) :
    Calls Try.prog 47 #[.pointer (some ⟨p, 0, none⟩), rcV x y a b] w (ReadPost p w0 w K A L cp vp ps (some ([], rest))) := by
  have hem := fun W => empty_any x y a b W
  have hb1 := below_new w (.cells #[.int .i64 x, .int .i64 y, .int .i64 a, .int .i64 b] 89)
  have hq := Blk.new w 89 [.int .i64 x, .int .i64 y, .int .i64 a, .int .i64 b]
  have e2 : emp a b = true := by unfold emp; simpa using e
  have HM := Lib.hid (h.keep hb1)
  have hpl := h.lt
  have HG1 : Hid (GrP p vp vp w _) := Lib.hid (GrP.of_below hb1)
  have HB1 : Hid (Below p w _) := Lib.hid (hb1.mono (Nat.le_of_lt hpl))
  have HQ1 := Lib.hid hq
  rw [e2] at hem
  have HEM := Lib.hid hem
  clear hem h e e2 hb1 hq hpl
  unfold rcV
  go_enter Try.func47, Try.ntmps47
  go_upto_region 1 with (fail)
  obtain ⟨q, hq0⟩ : ∃ q, q = w.heap.size := ⟨_, rfl⟩
  rw [← hq0] at HQ1 ⊢
  generalize w.alloc (.cells #[.int .i64 x, .int .i64 y, .int .i64 a, .int .i64 b] 89) = W1 at *
  obtain ⟨r0, r1, r2, r3⟩ := (show _ ∧ _ ∧ _ ∧ _ from ⟨HQ1.out.cell 0, HQ1.out.cell 1, HQ1.out.cell 2, HQ1.out.cell 3⟩ : W1.cell? ⟨q, 0, none⟩ = some (.int .i64 x) ∧ W1.cell? ⟨q, 1, none⟩ = some (.int .i64 y) ∧ W1.cell? ⟨q, 2, none⟩ = some (.int .i64 a) ∧ W1.cell? ⟨q, 3, none⟩ = some (.int .i64 b))
  clear hq0
  go_wp2_with (go_at_call 55; refine (HEM.out _).mono ?_; rintro e W2 ⟨rfl, hb2⟩)
  go_end0
  have hp1 := HM.out.lt
  exact ⟨rfl, vp, by rw [List.append_nil]; exact HM.out.keep hb2, HG1.out.trans (GrP.of_below hb2), HB1.out.trans (hb2.mono (Nat.le_of_lt hp1))⟩
set_option maxHeartbeats 8000000 in
set_option maxRecDepth 100000 in
theorem read_any (p : Nat) (w0 : World) (kerf : Nat) (A : Option Addr) (L cp : Nat) (ss : List Sh) (hA : ShAt w0 A ss) (hLs : L = ss.length) (hL : L ≤ 1000) (hk : kerf ≤ 8) :
    ∀ (n : Nat) (a b x y : Int) (rest : List Cu) (vp : Value) (ps : List Pc) (w : World), a.toNat + b.toNat ≤ n → a ≤ 64 → b ≤ 64 → -100 ≤ a → -100 ≤ b → 0 ≤ x → 0 ≤ y → x + a ≤ 1000 → y + b ≤ 1000 → RdM p w0 w kerf A L cp rest vp ps → ps.length + rest.length ≤ 100000 →
      Calls Try.prog 47 #[.pointer (some ⟨p, 0, none⟩), rcV x y a b] w (ReadPost p w0 w kerf A L cp vp ps (rdF kerf ss n x y a b rest)) := by
  intro n
  induction n with
  | zero =>
    intro a b x y rest vp ps w hn _ _ _ _ _ _ _ _ hm _
    exact read_empty p w0 kerf A L cp a b x y rest vp ps w (by omega) hm
  | succ n ih =>
    intro a b x y rest vp ps w hn ha hb ha2 hb2 hx hy hxa hyb hm hlen
    by_cases e : a < 1 ∨ b < 1
    · rw [rdF_empty e]
      exact read_empty p w0 kerf A L cp a b x y rest vp ps w e hm
    · have hem := fun W => empty_any x y a b W
      have hb1 := below_new w (.cells #[.int .i64 x, .int .i64 y, .int .i64 a, .int .i64 b] 89)
      have hq := Blk.new w 89 [.int .i64 x, .int .i64 y, .int .i64 a, .int .i64 b]
      have e2 : emp a b = false := by unfold emp; simp; omega
      have ha1 : 1 ≤ a := by omega
      have hb1' : 1 ≤ b := by omega
      rw [e2] at hem
      obtain ⟨q, hq0⟩ : ∃ q, q = w.heap.size := ⟨_, rfl⟩
      have hpw := hm.lt
      have HM1 := Lib.hid (hm.keep hb1)
      have HG1 : Hid (GrP p vp vp w _) := Lib.hid (GrP.of_below hb1)
      have HB1 : Hid (Below p w _) := Lib.hid (hb1.mono (Nat.le_of_lt hpw))
      have HQ1 := Lib.hid hq
      have HEM := Lib.hid hem
      have HIH := Lib.hid ih
      have HLE := Lib.hid hlen
      have HVQ : Hid (∀ g, vp.ownBlock = some g → g < q) := Lib.hid (fun g hg => by rw [hq0]; exact own_ltS hm.own g hg)
      have hpq : p < q := by omega
      have HEE := Lib.hid e
      have HLS := Lib.hid hLs
      clear hLs
      clear hem ih hlen hm e e2 hb1 hq hpw
      unfold rcV
      go_enter Try.func47, Try.ntmps47
      go_upto_region 1 with (fail)
      rw [← hq0] at HQ1 ⊢
      clear hq0
      generalize w.alloc (.cells #[.int .i64 x, .int .i64 y, .int .i64 a, .int .i64 b] 89) = W1 at *
      obtain ⟨r0, r1, r2, r3⟩ := (show _ ∧ _ ∧ _ ∧ _ from ⟨HQ1.out.cell 0, HQ1.out.cell 1, HQ1.out.cell 2, HQ1.out.cell 3⟩ : W1.cell? ⟨q, 0, none⟩ = some (.int .i64 x) ∧ W1.cell? ⟨q, 1, none⟩ = some (.int .i64 y) ∧ W1.cell? ⟨q, 2, none⟩ = some (.int .i64 a) ∧ W1.cell? ⟨q, 3, none⟩ = some (.int .i64 b))
      go_upto_region 2 with (go_at_call 55; refine (HEM.out _).mono ?_; rintro e W2 ⟨rfl, hb2⟩)
      have hp1 := HM1.out.lt
      have HM2 := Lib.hid (HM1.out.keep hb2)
      have HG2 := Lib.hid (HG1.out.trans (GrP.of_below hb2))
      have HB2 := Lib.hid (HB1.out.trans (hb2.mono (Nat.le_of_lt hp1)))
      have HQ2 := Lib.hid (HQ1.out.keep hb2)
      clear hb2 r0 r1 r2 r3 HM1 HG1 HB1 HQ1 hp1 HEM
      cases rest with
      | nil =>
        rw [rdF_nil HEE.out]
        have hnx := next_nil HM2.out
        have HNX := Lib.hid hnx
        have hp2 := HM2.out.lt
        clear hnx
        go_wp2_with (go_at_call 58; refine (HNX.out).mono ?_; rintro e W3 ⟨rfl, hb3⟩)
        exact ⟨rfl, rfl, HB2.out.trans (hb3.mono (Nat.le_of_lt hp2))⟩
      | cons c r =>
        have HNX := Lib.hid (next_cons HM2.out)
        go_upto_region 3 with (go_at_call 58; refine (HNX.out).mono ?_; rintro e W3 ⟨rfl, hm3, hg3, hb3⟩)
        obtain ⟨ck, ca⟩ := c
        have hb4 := below_new W3 (.cells #[.int .i64 ck, .int .i64 ca] 73)
        have hp3 := hm3.lt
        have hq3 := hg3.keepB HQ2.out (by omega) (fun e => by have := HVQ.out q e.symm; omega)
        obtain ⟨q4, hq4⟩ : ∃ q4, q4 = W3.heap.size := ⟨_, rfl⟩
        have HC4 := Lib.hid (Blk.new W3 73 [.int .i64 ck, .int .i64 ca])
        have HM4 := Lib.hid (hm3.keep hb4)
        have HG4 := Lib.hid ((HG2.out.trans hg3).trans (GrP.of_below hb4))
        have HB4 := Lib.hid ((HB2.out.trans hb3).trans (hb4.mono (Nat.le_of_lt hp3)))
        have HQ4 := Lib.hid (hq3.keep hb4)
        have hqq : q < q4 := by rw [hq4]; exact hq3.lt
        have hlen : ps.length + r.length + 1 ≤ 100000 := by have := HLE.out; simp only [List.length_cons] at this; omega
        change Hid (Blk 73 (W3.alloc (.cells #[.int .i64 ck, .int .i64 ca] 73)) W3.heap.size [.int .i64 ck, .int .i64 ca]) at HC4
        rw [← hq4] at HC4 ⊢
        clear hb4 hp3 hq3 hm3 hg3 hb3 HNX HLE HM2 HG2 HB2 HQ2 hq4
        generalize W3.alloc (.cells #[.int .i64 ck, .int .i64 ca] 73) = W4 at *
        have c0 : W4.cell? ⟨q4, 0, none⟩ = some (.int .i64 ck) := HC4.out.cell 0
        have c1 : W4.cell? ⟨q4, 1, none⟩ = some (.int .i64 ca) := HC4.out.cell 1
        by_cases k0 : ck = 0
        · have d0 : (ck == 0) = true := by simp [k0]
          have HKK := Lib.hid k0
          clear k0
          by_cases hca : ca = 0
          · have dA : (ca == 0) = true := by simp [hca]
            have HCA := Lib.hid hca
            clear hca
            go_wp2_with (go_at_call 48; refine (demand_t _).mono ?_; rintro e w5 ⟨rfl, rfl⟩)
            go_end0
            rw [rdF_cons HEE.out, if_pos HKK.out, if_pos HCA.out]
            exact ⟨rfl, vp, by rw [List.append_nil]; exact HM4.out, HG4.out, HB4.out⟩
          · have dA : (ca == 0) = false := by simp [hca]
            go_wp2_with (go_at_call 48; refine (demand_f _).mono ?_; rintro e w5 ⟨rfl, rfl⟩)
            refine ⟨rfl, ?_⟩
            rw [rdF_cons HEE.out, if_pos HKK.out, if_neg hca]
            exact ⟨rfl, HB4.out⟩
        · by_cases k1 : ck = 1
          · have d0 : (ck == 0) = false := by simp [k0]
            have d1 : (ck == 1) = true := by simp [k1]
            have HKK := Lib.hid k1
            clear k1
            have hmd : Hid (RdM p w0 W4.drew kerf A L cp r vp ps) := Lib.hid (HM4.out.keep (Below.refl _ _).drew)
            have hp4 : p < W4.drew.heap.size := HM4.out.lt
            have r0 : W4.drew.cell? ⟨q, 0, none⟩ = some (.int .i64 x) := HQ4.out.cell 0
            have r1 : W4.drew.cell? ⟨q, 1, none⟩ = some (.int .i64 y) := HQ4.out.cell 1
            have r2 : W4.drew.cell? ⟨q, 2, none⟩ = some (.int .i64 a) := HQ4.out.cell 2
            have r3 : W4.drew.cell? ⟨q, 3, none⟩ = some (.int .i64 b) := HQ4.out.cell 3
            have c1' : W4.drew.cell? ⟨q4, 1, none⟩ = some (.int .i64 ca) := c1
            have hq4l : q4 < W4.drew.heap.size := HC4.out.lt
            have hql : q < W4.drew.heap.size := HQ4.out.lt
            by_cases hin : inB ca 0 ((L : Int) - 1) = true
            · have hin2 := inB_t hin
              obtain ⟨z, rfl⟩ : ∃ z : Nat, ca = (z : Int) := ⟨ca.toNat, by omega⟩
              have hsh := shape_ok hmd.out hA HLS.out (by omega) z (by omega)
              obtain ⟨s, hs0⟩ : ∃ s, s = ss.getD z sh0 := ⟨_, rfl⟩
              rw [← hs0] at hsh
              have HS0 := Lib.hid hs0
              clear hs0
              obtain ⟨sw, sh, sv, st⟩ := s
              have HIS := Lib.hid (fun W => isShape_any x y a b ⟨sw, sh, sv, st⟩ W)
              unfold rcV at HIS
              unfold shV at HIS hsh
              have HSH := Lib.hid hsh
              clear hsh
              cases hs : isS ⟨sw, sh, sv, st⟩ a b with
              | true =>
                rw [hs] at HIS
                have HSS := Lib.hid hs
                clear hs
                go_upto_region 8 with (fail)
                go_region_held3 (fun w' => w'.cell? ⟨q, 0, none⟩ = some (.int .i64 x) ∧ w'.cell? ⟨q, 1, none⟩ = some (.int .i64 y) ∧ w'.cell? ⟨q, 2, none⟩ = some (.int .i64 a) ∧ w'.cell? ⟨q, 3, none⟩ = some (.int .i64 b) ∧ w'.cell? ⟨q4, 1, none⟩ = some (.int .i64 (z : Int)))
                  (first | with_reducible exact ⟨r0, r1, r2, r3, c1'⟩ | with_reducible exact ⟨u0, u1, u2, u3, u4⟩ | with_reducible exact ⟨v0, v1, v2, v3, v4⟩ | go_keep)
                  ((first
                    | (go_at_call 60; (with_reducible refine (HSH.out).mono ?_); rintro e w5 ⟨rfl, hb5⟩; have u0 := (hb5.cell (p := ⟨q, 0, none⟩) hql).trans r0; have u1 := (hb5.cell (p := ⟨q, 1, none⟩) hql).trans r1; have u2 := (hb5.cell (p := ⟨q, 2, none⟩) hql).trans r2; have u3 := (hb5.cell (p := ⟨q, 3, none⟩) hql).trans r3; have u4 := (hb5.cell (p := ⟨q4, 1, none⟩) hq4l).trans c1')
                    | (go_at_call 59; (with_reducible refine (HIS.out _).mono ?_); rintro e w6 ⟨rfl, hb6⟩; have hb56 := below_on hb5 hb5.size hb6; have v0 := (hb56.cell (p := ⟨q, 0, none⟩) hql).trans r0; have v1 := (hb56.cell (p := ⟨q, 1, none⟩) hql).trans r1; have v2 := (hb56.cell (p := ⟨q, 2, none⟩) hql).trans r2; have v3 := (hb56.cell (p := ⟨q, 3, none⟩) hql).trans r3; have v4 := (hb56.cell (p := ⟨q4, 1, none⟩) hq4l).trans c1')
                    | (go_at_call 48; (with_reducible refine (demand_t _).mono ?_); rintro e w7 ⟨rfl, rfl⟩)))
                have hm6 := hmd.out.keep hb56
                have HAD := Lib.hid (add_any hm6 (by omega) x y a b (z : Int))
                have HG6 := Lib.hid ((HG4.out.trans (GrP.of_below ((Below.refl W4.heap.size W4).drew))).trans (GrP.of_below hb56))
                have HB6 := Lib.hid (HB4.out.drew.trans (hb56.mono (Nat.le_of_lt hp4)))
                unfold rcV at HAD
                clear hmd hb5 hb6 hb56 hm6 u0 u1 u2 u3 u4 r0 r1 r2 r3 c1' c0 c1
                go_wp2_with (go_at_call 61; (with_reducible refine (HAD.out).mono ?_); rintro e w8 ⟨rfl, v8, hm8, hg8, hb8⟩)
                go_end0
                rw [rdF_cons HEE.out, if_neg k0, if_pos HKK.out, if_pos ⟨by rw [← HLS.out]; exact hin, by rw [Int.toNat_natCast, ← HS0.out]; exact HSS.out⟩]
                exact ⟨rfl, v8, hm8, HG6.out.trans hg8, HB6.out.trans hb8⟩
              | false =>
                rw [hs] at HIS
                have HSS := Lib.hid hs
                clear hs
                go_upto_region 8 with (fail)
                have HPN : Hid (∀ w', Below p w w' → ReadPost p w0 w kerf A L cp vp ps (rdF kerf ss (n + 1) x y a b (⟨ck, (z : Int)⟩ :: r)) (.panicked pnc) w') := Lib.hid fun w' hb => by
                  rw [rdF_cons HEE.out, if_neg k0, if_pos HKK.out, if_neg (fun e => by have h2 := e.2; rw [Int.toNat_natCast, ← HS0.out, HSS.out] at h2; cases h2)]
                  exact ⟨rfl, hb⟩
                refine wp_region_heldE 4 99 (fun w' => w'.cell? ⟨q, 0, none⟩ = some (.int .i64 x) ∧ w'.cell? ⟨q, 1, none⟩ = some (.int .i64 y) ∧ w'.cell? ⟨q, 2, none⟩ = some (.int .i64 a) ∧ w'.cell? ⟨q, 3, none⟩ = some (.int .i64 b) ∧ w'.cell? ⟨q4, 1, none⟩ = some (.int .i64 ((z : Int)))) (by kernel_rfl) (by kernel_rfl) (by decide) (by kernel_rfl) (fun _ _ dst _ _ h => by cases dst <;> exact h) ⟨r0, r1, r2, r3, c1'⟩ ?_
                simp only [List.take_succ_cons, List.take_zero, List.drop_succ_cons, List.drop_zero]
                refine heads_cons (.agg #[.int .i64 x, .int .i64 y, .int .i64 a, .int .i64 b]) (by rfl) (fun w' ⟨y0, y1, y2, y3, y4⟩ => by go_simp) ?_
                refine heads_cons (.pointer (some ⟨p, 0, none⟩)) (by rfl) (fun w' ⟨y0, y1, y2, y3, y4⟩ => by go_simp) ?_
                refine heads_cons (.pointer (some ⟨q4, 1, none⟩)) (by rfl) (fun w' ⟨y0, y1, y2, y3, y4⟩ => by go_simp) ?_
                refine heads_cons (.int .i64 ((z : Int))) (by rfl) (fun w' ⟨y0, y1, y2, y3, y4⟩ => by go_simp) ?_
                refine heads_nil ?_
                refine tailE_cons (by rfl) (fun K hK => ?_)
                go_simp
                refine (HSH.out).mono ?_
                rintro e w5 ⟨rfl, hb5⟩
                have u0 := (hb5.cell (p := ⟨q, 0, none⟩) hql).trans r0
                have u1 := (hb5.cell (p := ⟨q, 1, none⟩) hql).trans r1
                have u2 := (hb5.cell (p := ⟨q, 2, none⟩) hql).trans r2
                have u3 := (hb5.cell (p := ⟨q, 3, none⟩) hql).trans r3
                have u4 := (hb5.cell (p := ⟨q4, 1, none⟩) hq4l).trans c1'
                refine hK _ _ (.inr ⟨u0, u1, u2, u3, u4⟩) ?_
                clear hK K
                refine tailE_cons (by rfl) (fun K hK => ?_)
                go_simp
                refine (HIS.out _).mono ?_
                rintro e w6 ⟨rfl, hb6⟩
                have hb56 := below_on hb5 hb5.size hb6
                refine hK _ _ (.inr ⟨(hb56.cell (p := ⟨q, 0, none⟩) hql).trans r0, (hb56.cell (p := ⟨q, 1, none⟩) hql).trans r1, (hb56.cell (p := ⟨q, 2, none⟩) hql).trans r2, (hb56.cell (p := ⟨q, 3, none⟩) hql).trans r3, (hb56.cell (p := ⟨q4, 1, none⟩) hq4l).trans c1'⟩) ?_
                clear hK K
                refine tailE_cons (by rfl) (fun K hK => ?_)
                go_simp
                refine (demand_f _).mono ?_
                rintro e w7 ⟨rfl, rfl⟩
                exact ⟨rfl, HPN.out _ (HB4.out.drew.trans (hb56.mono (Nat.le_of_lt hp4)))⟩
            · have hin2 : inB ca 0 ((L : Int) - 1) = false := by simpa using hin
              have HSB := Lib.hid (shape_bad hmd.out (by omega) ca hin2)
              go_upto_region 8 with (fail)
              have HPN : Hid (∀ w', Below p w w' → ReadPost p w0 w kerf A L cp vp ps (rdF kerf ss (n + 1) x y a b (⟨ck, ca⟩ :: r)) (.panicked pnc) w') := Lib.hid fun w' hb => by
                rw [rdF_cons HEE.out, if_neg k0, if_pos HKK.out, if_neg (fun e => by rw [← HLS.out, hin2] at e; exact absurd e.1 (by simp))]
                exact ⟨rfl, hb⟩
              refine wp_region_heldE 4 99 (fun w' => w'.cell? ⟨q, 0, none⟩ = some (.int .i64 x) ∧ w'.cell? ⟨q, 1, none⟩ = some (.int .i64 y) ∧ w'.cell? ⟨q, 2, none⟩ = some (.int .i64 a) ∧ w'.cell? ⟨q, 3, none⟩ = some (.int .i64 b) ∧ w'.cell? ⟨q4, 1, none⟩ = some (.int .i64 (ca))) (by kernel_rfl) (by kernel_rfl) (by decide) (by kernel_rfl) (fun _ _ dst _ _ h => by cases dst <;> exact h) ⟨r0, r1, r2, r3, c1'⟩ ?_
              simp only [List.take_succ_cons, List.take_zero, List.drop_succ_cons, List.drop_zero]
              refine heads_cons (.agg #[.int .i64 x, .int .i64 y, .int .i64 a, .int .i64 b]) (by rfl) (fun w' ⟨y0, y1, y2, y3, y4⟩ => by go_simp) ?_
              refine heads_cons (.pointer (some ⟨p, 0, none⟩)) (by rfl) (fun w' ⟨y0, y1, y2, y3, y4⟩ => by go_simp) ?_
              refine heads_cons (.pointer (some ⟨q4, 1, none⟩)) (by rfl) (fun w' ⟨y0, y1, y2, y3, y4⟩ => by go_simp) ?_
              refine heads_cons (.int .i64 (ca)) (by rfl) (fun w' ⟨y0, y1, y2, y3, y4⟩ => by go_simp) ?_
              refine heads_nil ?_
              refine tailE_cons (by rfl) (fun K hK => ?_)
              go_simp
              refine (HSB.out).mono ?_
              rintro e w5 ⟨rfl, hb5⟩
              exact ⟨rfl, HPN.out _ (HB4.out.drew.trans (hb5.mono (Nat.le_of_lt hp4)))⟩
          · by_cases k2 : ck = 2
            · have d0 : (ck == 0) = false := by simp [k0]
              have d1 : (ck == 1) = false := by simp [k1]
              have d2 : (ck == 2) = true := by simp [k2]
              have HKK := Lib.hid k2
              clear k2
              have hmd : Hid (RdM p w0 W4.drew kerf A L cp r vp ps) := Lib.hid (HM4.out.keep (Below.refl _ _).drew)
              have hp4 : p < W4.drew.heap.size := HM4.out.lt
              have r0 : W4.drew.cell? ⟨q, 0, none⟩ = some (.int .i64 x) := HQ4.out.cell 0
              have r1 : W4.drew.cell? ⟨q, 1, none⟩ = some (.int .i64 y) := HQ4.out.cell 1
              have r2 : W4.drew.cell? ⟨q, 2, none⟩ = some (.int .i64 a) := HQ4.out.cell 2
              have r3 : W4.drew.cell? ⟨q, 3, none⟩ = some (.int .i64 b) := HQ4.out.cell 3
              have c1' : W4.drew.cell? ⟨q4, 1, none⟩ = some (.int .i64 ca) := c1
              have hq4l : q4 < W4.drew.heap.size := HC4.out.lt
              have hql : q < W4.drew.heap.size := HQ4.out.lt
              by_cases hin : inB ca 0 ((L : Int) - 1) = true
              · have hin2 := inB_t hin
                obtain ⟨z, rfl⟩ : ∃ z : Nat, ca = (z : Int) := ⟨ca.toNat, by omega⟩
                have hsh := shape_ok hmd.out hA HLS.out (by omega) z (by omega)
                obtain ⟨s, hs0⟩ : ∃ s, s = ss.getD z sh0 := ⟨_, rfl⟩
                rw [← hs0] at hsh
                have HS0 := Lib.hid hs0
                clear hs0
                obtain ⟨sw, sh, sv, st⟩ := s
                have HIS := Lib.hid (fun W => isTurned_any x y a b ⟨sw, sh, sv, st⟩ W)
                unfold rcV at HIS
                unfold shV at HIS hsh
                have HSH := Lib.hid hsh
                clear hsh
                cases hs : isT ⟨sw, sh, sv, st⟩ a b with
                | true =>
                  rw [hs] at HIS
                  have HSS := Lib.hid hs
                  clear hs
                  go_upto_region 11 with (fail)
                  go_region_held3 (fun w' => w'.cell? ⟨q, 0, none⟩ = some (.int .i64 x) ∧ w'.cell? ⟨q, 1, none⟩ = some (.int .i64 y) ∧ w'.cell? ⟨q, 2, none⟩ = some (.int .i64 a) ∧ w'.cell? ⟨q, 3, none⟩ = some (.int .i64 b) ∧ w'.cell? ⟨q4, 1, none⟩ = some (.int .i64 (z : Int)))
                    (first | with_reducible exact ⟨r0, r1, r2, r3, c1'⟩ | with_reducible exact ⟨u0, u1, u2, u3, u4⟩ | with_reducible exact ⟨v0, v1, v2, v3, v4⟩ | go_keep)
                    ((first
                      | (go_at_call 60; (with_reducible refine (HSH.out).mono ?_); rintro e w5 ⟨rfl, hb5⟩; have u0 := (hb5.cell (p := ⟨q, 0, none⟩) hql).trans r0; have u1 := (hb5.cell (p := ⟨q, 1, none⟩) hql).trans r1; have u2 := (hb5.cell (p := ⟨q, 2, none⟩) hql).trans r2; have u3 := (hb5.cell (p := ⟨q, 3, none⟩) hql).trans r3; have u4 := (hb5.cell (p := ⟨q4, 1, none⟩) hq4l).trans c1')
                      | (go_at_call 62; (with_reducible refine (HIS.out _).mono ?_); rintro e w6 ⟨rfl, hb6⟩; have hb56 := below_on hb5 hb5.size hb6; have v0 := (hb56.cell (p := ⟨q, 0, none⟩) hql).trans r0; have v1 := (hb56.cell (p := ⟨q, 1, none⟩) hql).trans r1; have v2 := (hb56.cell (p := ⟨q, 2, none⟩) hql).trans r2; have v3 := (hb56.cell (p := ⟨q, 3, none⟩) hql).trans r3; have v4 := (hb56.cell (p := ⟨q4, 1, none⟩) hq4l).trans c1')
                      | (go_at_call 48; (with_reducible refine (demand_t _).mono ?_); rintro e w7 ⟨rfl, rfl⟩)))
                  have hm6 := hmd.out.keep hb56
                  have HAD := Lib.hid (add_any hm6 (by omega) x y a b (z : Int))
                  have HG6 := Lib.hid ((HG4.out.trans (GrP.of_below ((Below.refl W4.heap.size W4).drew))).trans (GrP.of_below hb56))
                  have HB6 := Lib.hid (HB4.out.drew.trans (hb56.mono (Nat.le_of_lt hp4)))
                  unfold rcV at HAD
                  clear hmd hb5 hb6 hb56 hm6 u0 u1 u2 u3 u4 r0 r1 r2 r3 c1' c0 c1
                  go_wp2_with (go_at_call 61; (with_reducible refine (HAD.out).mono ?_); rintro e w8 ⟨rfl, v8, hm8, hg8, hb8⟩)
                  go_end0
                  rw [rdF_cons HEE.out, if_neg k0, if_neg k1, if_pos HKK.out, if_pos ⟨by rw [← HLS.out]; exact hin, by rw [Int.toNat_natCast, ← HS0.out]; exact HSS.out⟩]
                  exact ⟨rfl, v8, hm8, HG6.out.trans hg8, HB6.out.trans hb8⟩
                | false =>
                  rw [hs] at HIS
                  have HSS := Lib.hid hs
                  clear hs
                  go_upto_region 11 with (fail)
                  have HPN : Hid (∀ w', Below p w w' → ReadPost p w0 w kerf A L cp vp ps (rdF kerf ss (n + 1) x y a b (⟨ck, (z : Int)⟩ :: r)) (.panicked pnc) w') := Lib.hid fun w' hb => by
                    rw [rdF_cons HEE.out, if_neg k0, if_neg k1, if_pos HKK.out, if_neg (fun e => by have h2 := e.2; rw [Int.toNat_natCast, ← HS0.out, HSS.out] at h2; cases h2)]
                    exact ⟨rfl, hb⟩
                  refine wp_region_heldE 4 99 (fun w' => w'.cell? ⟨q, 0, none⟩ = some (.int .i64 x) ∧ w'.cell? ⟨q, 1, none⟩ = some (.int .i64 y) ∧ w'.cell? ⟨q, 2, none⟩ = some (.int .i64 a) ∧ w'.cell? ⟨q, 3, none⟩ = some (.int .i64 b) ∧ w'.cell? ⟨q4, 1, none⟩ = some (.int .i64 ((z : Int)))) (by kernel_rfl) (by kernel_rfl) (by decide) (by kernel_rfl) (fun _ _ dst _ _ h => by cases dst <;> exact h) ⟨r0, r1, r2, r3, c1'⟩ ?_
                  simp only [List.take_succ_cons, List.take_zero, List.drop_succ_cons, List.drop_zero]
                  refine heads_cons (.agg #[.int .i64 x, .int .i64 y, .int .i64 a, .int .i64 b]) (by rfl) (fun w' ⟨y0, y1, y2, y3, y4⟩ => by go_simp) ?_
                  refine heads_cons (.pointer (some ⟨p, 0, none⟩)) (by rfl) (fun w' ⟨y0, y1, y2, y3, y4⟩ => by go_simp) ?_
                  refine heads_cons (.pointer (some ⟨q4, 1, none⟩)) (by rfl) (fun w' ⟨y0, y1, y2, y3, y4⟩ => by go_simp) ?_
                  refine heads_cons (.int .i64 ((z : Int))) (by rfl) (fun w' ⟨y0, y1, y2, y3, y4⟩ => by go_simp) ?_
                  refine heads_nil ?_
                  refine tailE_cons (by rfl) (fun K hK => ?_)
                  go_simp
                  refine (HSH.out).mono ?_
                  rintro e w5 ⟨rfl, hb5⟩
                  have u0 := (hb5.cell (p := ⟨q, 0, none⟩) hql).trans r0
                  have u1 := (hb5.cell (p := ⟨q, 1, none⟩) hql).trans r1
                  have u2 := (hb5.cell (p := ⟨q, 2, none⟩) hql).trans r2
                  have u3 := (hb5.cell (p := ⟨q, 3, none⟩) hql).trans r3
                  have u4 := (hb5.cell (p := ⟨q4, 1, none⟩) hq4l).trans c1'
                  refine hK _ _ (.inr ⟨u0, u1, u2, u3, u4⟩) ?_
                  clear hK K
                  refine tailE_cons (by rfl) (fun K hK => ?_)
                  go_simp
                  refine (HIS.out _).mono ?_
                  rintro e w6 ⟨rfl, hb6⟩
                  have hb56 := below_on hb5 hb5.size hb6
                  refine hK _ _ (.inr ⟨(hb56.cell (p := ⟨q, 0, none⟩) hql).trans r0, (hb56.cell (p := ⟨q, 1, none⟩) hql).trans r1, (hb56.cell (p := ⟨q, 2, none⟩) hql).trans r2, (hb56.cell (p := ⟨q, 3, none⟩) hql).trans r3, (hb56.cell (p := ⟨q4, 1, none⟩) hq4l).trans c1'⟩) ?_
                  clear hK K
                  refine tailE_cons (by rfl) (fun K hK => ?_)
                  go_simp
                  refine (demand_f _).mono ?_
                  rintro e w7 ⟨rfl, rfl⟩
                  exact ⟨rfl, HPN.out _ (HB4.out.drew.trans (hb56.mono (Nat.le_of_lt hp4)))⟩
              · have hin2 : inB ca 0 ((L : Int) - 1) = false := by simpa using hin
                have HSB := Lib.hid (shape_bad hmd.out (by omega) ca hin2)
                go_upto_region 11 with (fail)
                have HPN : Hid (∀ w', Below p w w' → ReadPost p w0 w kerf A L cp vp ps (rdF kerf ss (n + 1) x y a b (⟨ck, ca⟩ :: r)) (.panicked pnc) w') := Lib.hid fun w' hb => by
                  rw [rdF_cons HEE.out, if_neg k0, if_neg k1, if_pos HKK.out, if_neg (fun e => by rw [← HLS.out, hin2] at e; exact absurd e.1 (by simp))]
                  exact ⟨rfl, hb⟩
                refine wp_region_heldE 4 99 (fun w' => w'.cell? ⟨q, 0, none⟩ = some (.int .i64 x) ∧ w'.cell? ⟨q, 1, none⟩ = some (.int .i64 y) ∧ w'.cell? ⟨q, 2, none⟩ = some (.int .i64 a) ∧ w'.cell? ⟨q, 3, none⟩ = some (.int .i64 b) ∧ w'.cell? ⟨q4, 1, none⟩ = some (.int .i64 (ca))) (by kernel_rfl) (by kernel_rfl) (by decide) (by kernel_rfl) (fun _ _ dst _ _ h => by cases dst <;> exact h) ⟨r0, r1, r2, r3, c1'⟩ ?_
                simp only [List.take_succ_cons, List.take_zero, List.drop_succ_cons, List.drop_zero]
                refine heads_cons (.agg #[.int .i64 x, .int .i64 y, .int .i64 a, .int .i64 b]) (by rfl) (fun w' ⟨y0, y1, y2, y3, y4⟩ => by go_simp) ?_
                refine heads_cons (.pointer (some ⟨p, 0, none⟩)) (by rfl) (fun w' ⟨y0, y1, y2, y3, y4⟩ => by go_simp) ?_
                refine heads_cons (.pointer (some ⟨q4, 1, none⟩)) (by rfl) (fun w' ⟨y0, y1, y2, y3, y4⟩ => by go_simp) ?_
                refine heads_cons (.int .i64 (ca)) (by rfl) (fun w' ⟨y0, y1, y2, y3, y4⟩ => by go_simp) ?_
                refine heads_nil ?_
                refine tailE_cons (by rfl) (fun K hK => ?_)
                go_simp
                refine (HSB.out).mono ?_
                rintro e w5 ⟨rfl, hb5⟩
                exact ⟨rfl, HPN.out _ (HB4.out.drew.trans (hb5.mono (Nat.le_of_lt hp4)))⟩
            · by_cases k3 : ck = 3
              · have d0 : (ck == 0) = false := by simp [k0]
                have d1 : (ck == 1) = false := by simp [k1]
                have d2 : (ck == 2) = false := by simp [k2]
                have d3 : (ck == 3) = true := by simp [k3]
                have HKK := Lib.hid k3
                clear k3
                have rq : W4.cell? ⟨q, 2, none⟩ = some (.int .i64 a) := HQ4.out.cell 2
                have hwr : IntKind.i64.wrap (a - 1) = a - 1 := wrapI (by omega) (by omega)
                have HWI := Lib.hid (fun W => within_any ca 1 (a - 1) W)
                cases hin : inB ca 1 (a - 1) with
                | false =>
                  rw [hin] at HWI
                  have HIN := Lib.hid hin
                  clear hin
                  go_wp2_with (first | (go_at_call 42; refine (HWI.out _).mono ?_; rintro e w5 ⟨rfl, rfl⟩) | (go_at_call 48; refine (demand_f _).mono ?_; rintro e w5 ⟨rfl, rfl⟩))
                  refine ⟨rfl, ?_⟩
                  rw [rdF_cons HEE.out, if_neg k0, if_neg k1, if_neg k2, if_pos HKK.out, if_neg (by rw [HIN.out]; simp)]
                  exact ⟨rfl, HB4.out⟩
                | true =>
                  rw [hin] at HWI
                  have hin2 := inB_t hin
                  have HIN := Lib.hid hin
                  clear hin
                  go_upto_region 15 with (first | (go_at_call 42; refine (HWI.out _).mono ?_; rintro e w5 ⟨rfl, rfl⟩) | (go_at_call 48; refine (demand_t _).mono ?_; rintro e w5 ⟨rfl, rfl⟩))
                  clear rq hwr HWI c0 c1
                  have hac := fun W => across_any x y a b ca (kerf : Int) W (by omega) (by omega) (by omega) (by omega)
                  unfold rcV at hac
                  have hkp : ∀ W, Below W4.heap.size W4 W → W.cell? ⟨q, 0, none⟩ = some (.int .i64 x) ∧ W.cell? ⟨q, 1, none⟩ = some (.int .i64 y) ∧ W.cell? ⟨q, 2, none⟩ = some (.int .i64 a) ∧ W.cell? ⟨q, 3, none⟩ = some (.int .i64 b) ∧ W.cell? ⟨q4, 1, none⟩ = some (.int .i64 ca) ∧ W.cell? ⟨p, 0, none⟩ = some (.int .i64 (kerf : Int)) := fun W hW => by
                    have h1 := HQ4.out.keep hW
                    have h2 := HC4.out.keep hW
                    obtain ⟨_, _, h3, _⟩ := (HM4.out.keep hW).bx
                    exact ⟨h1.cell 0, h1.cell 1, h1.cell 2, h1.cell 3, h2.cell 1, h3.cell 0⟩
                  have hac2 : ∀ W, Below W4.heap.size W4 W → Calls Try.prog 56 #[.agg #[.int .i64 x, .int .i64 y, .int .i64 a, .int .i64 b], .int .i64 ca, .int .i64 (kerf : Int)] W fun e w' =>
                      e = .returned (.tuple #[.agg #[.int .i64 x, .int .i64 y, .int .i64 ca, .int .i64 b], .agg #[.int .i64 (x + (ca + (kerf : Int))), .int .i64 y, .int .i64 (a - (ca + (kerf : Int))), .int .i64 b]]) ∧ Below W.heap.size W w' ∧ Below W4.heap.size W4 w' ∧ w'.cell? ⟨q, 0, none⟩ = some (.int .i64 x) ∧ w'.cell? ⟨q, 1, none⟩ = some (.int .i64 y) ∧ w'.cell? ⟨q, 2, none⟩ = some (.int .i64 a) ∧ w'.cell? ⟨q, 3, none⟩ = some (.int .i64 b) ∧ w'.cell? ⟨q4, 1, none⟩ = some (.int .i64 ca) ∧ w'.cell? ⟨p, 0, none⟩ = some (.int .i64 (kerf : Int)) :=
                    fun W hW => (hac W).mono fun e w' h => ⟨h.1, h.2, below_on hW hW.size h.2, hkp w' (below_on hW hW.size h.2)⟩
                  have HAC := Lib.hid hac2
                  have B0 : Below W4.heap.size W4 W4.drew := (Below.refl W4.heap.size W4).drew
                  have B1 : Below W4.heap.size W4 (W4.alloc o4).drew := ((Below.refl W4.heap.size W4).alloc (Nat.le_refl _) _).drew
                  have B2 : Below W4.heap.size W4 ((W4.alloc o4).alloc o4).drew := (((Below.refl W4.heap.size W4).alloc (Nat.le_refl _) _).alloc (by simp) _).drew
                  have N1 : Blk 89 (W4.alloc o4).drew W4.heap.size z4 := (Blk.new W4 89 z4).drew
                  have N2 : Blk 89 ((W4.alloc o4).alloc o4).drew W4.heap.size z4 := ((Blk.new W4 89 z4).alloc o4).drew
                  have N3 : Blk 89 ((W4.alloc o4).alloc o4).drew (W4.heap.size + 1) z4 := (blk_new2 z4).drew
                  have HB0 := Lib.hid B0
                  have HB1 := Lib.hid B1
                  have HB2 := Lib.hid B2
                  have HN1 := Lib.hid N1
                  have HN2 := Lib.hid N2
                  have HN3 := Lib.hid N3
                  obtain ⟨r0, r1, r2, r3, r4, r5⟩ := hkp W4.drew B0
                  have HKP := Lib.hid hkp
                  have lq : q < W4.heap.size := HQ4.out.lt
                  have lp : p < W4.heap.size := HM4.out.lt
                  have lq7 : q4 < W4.heap.size := HC4.out.lt
                  have nq : ¬ q = W4.heap.size := Nat.ne_of_lt lq
                  have np : ¬ p = W4.heap.size := Nat.ne_of_lt lp
                  have nq7 : ¬ q4 = W4.heap.size := Nat.ne_of_lt lq7
                  clear hkp hac hac2 B0 B1 B2 N1 N2 N3
                  go_cut [5, 6] from 9 (fun a' b' ww => ∃ b8 b9, a' = .pointer (some ⟨b8, 0, none⟩) ∧ b' = .pointer (some ⟨b9, 0, none⟩) ∧ Blk 89 ww b8 [.int .i64 x, .int .i64 y, .int .i64 ca, .int .i64 b] ∧ Blk 89 ww b9 [.int .i64 (x + (ca + (kerf : Int))), .int .i64 y, .int .i64 (a - (ca + (kerf : Int))), .int .i64 b] ∧ Below W4.heap.size W4 ww ∧ W4.heap.size ≤ b8 ∧ W4.heap.size ≤ b9)
                  case first =>
                    go_region_held3 (fun w' => w'.cell? ⟨q, 0, none⟩ = some (.int .i64 x) ∧ w'.cell? ⟨q, 1, none⟩ = some (.int .i64 y) ∧ w'.cell? ⟨q, 2, none⟩ = some (.int .i64 a) ∧ w'.cell? ⟨q, 3, none⟩ = some (.int .i64 b) ∧ w'.cell? ⟨q4, 1, none⟩ = some (.int .i64 ca) ∧ w'.cell? ⟨p, 0, none⟩ = some (.int .i64 (kerf : Int)))
                      (first | with_reducible exact ⟨r0, r1, r2, r3, r4, r5⟩ | with_reducible exact ⟨x0, x1, x2, x3, x4, x5⟩ | with_reducible exact HKP.out _ HB0.out | with_reducible exact HKP.out _ HB1.out | with_reducible exact HKP.out _ HB2.out | ((with_reducible refine HKP.out _ ?_); repeat (first | with_reducible exact hb6 | with_reducible exact HB0.out | with_reducible exact HB1.out | with_reducible exact HB2.out | ((with_reducible refine below_set ?_ ?_ _); rotate_left; focus (first | omega | (simp; omega))) | ((with_reducible refine bel_alloc ?_ ?_); rotate_left; focus (first | omega | (simp; omega))))))
                      ((first
                        | (go_at_call 56; (with_reducible refine (HAC.out _ HB0.out).mono ?_); rintro e w6 ⟨rfl, _hbW, hb6, x0, x1, x2, x3, x4, x5⟩; have sz6 := hb6.size)
                        | (go_at_call 56; (with_reducible refine (HAC.out _ HB1.out).mono ?_); rintro e w6 ⟨rfl, hbW, hb6, x0, x1, x2, x3, x4, x5⟩; have sz6 := hb6.size; have M1 := HN1.out.keep hbW; obtain ⟨m0, m1, m2, m3, m4⟩ := z4c M1; have n1 : ¬ W4.heap.size = w6.heap.size := Nat.ne_of_lt M1.lt; have n2 : ¬ w6.heap.size = W4.heap.size := Nat.ne_of_gt M1.lt; have l1 : W4.heap.size < w6.heap.size := M1.lt)
                        | (go_at_call 56; (with_reducible refine (HAC.out _ HB2.out).mono ?_); rintro e w6 ⟨rfl, hbW, hb6, x0, x1, x2, x3, x4, x5⟩; have sz6 := hb6.size; have M2 := HN2.out.keep hbW; have M3 := HN3.out.keep hbW; obtain ⟨m0, m1, m2, m3, m4⟩ := z4c M2; obtain ⟨l0, l1, l2, l3, l4⟩ := z4c M3; have g1 : W4.heap.size < w6.heap.size := M2.lt; have g2 : W4.heap.size + 1 < w6.heap.size := M3.lt)))
                    all_goals
                      go_wp2_with (fail)
                      go_meet
                      case rel =>
                        refine ⟨_, _, rfl, rfl, ?_, ?_, ?_, by omega, by omega⟩
                        · first
                            | with_reducible exact (Blk.new _ 89 [_, _, _, _]).alloc _
                            | with_reducible exact blk_new2 [_, _, _, _]
                            | with_reducible exact (set4 M1 _ _ _ _).alloc _
                            | with_reducible exact blk_news [_, _, _, _]
                            | with_reducible exact far4 (set4 M2 _ _ _ _) (by omega) _ _ _ _
                            | with_reducible exact far4 (set4 M3 _ _ _ _) (by omega) _ _ _ _
                        · first
                            | with_reducible exact (Blk.new _ 89 [_, _, _, _]).alloc _
                            | with_reducible exact blk_new2 [_, _, _, _]
                            | with_reducible exact (set4 M1 _ _ _ _).alloc _
                            | with_reducible exact blk_news [_, _, _, _]
                            | with_reducible exact set4 (far4 M2 (by omega) _ _ _ _) _ _ _ _
                            | with_reducible exact set4 (far4 M3 (by omega) _ _ _ _) _ _ _ _
                        · repeat (first | with_reducible exact hb6 | ((with_reducible refine below_set ?_ ?_ _); rotate_left; focus (first | omega | (simp; omega))) | ((with_reducible refine bel_alloc ?_ ?_); rotate_left; focus (first | omega | (simp; omega))))
                  case rest =>
                    obtain ⟨b8, b9, rfl, rfl, hl8, hl9, hbl, hg8, hg9⟩ := hcut
                    have hm6 := HM4.out.keep hbl
                    have HG6 := Lib.hid (HG4.out.trans (GrP.of_below hbl))
                    have HB6 := Lib.hid (HB4.out.trans (hbl.mono (Nat.le_of_lt lp)))
                    have hc1 := HIH.out ca b x y r vp ps wc (by omega) (by omega) (by omega) (by omega) (by omega) (by omega) (by omega) (by omega) (by omega) hm6 (by omega)
                    have hvw : ∀ g, vp.ownBlock = some g → g < W4.heap.size := fun g hg => by have := HVQ.out g hg; omega
                    have y0 := hl8.cell 0
                    have y1 := hl8.cell 1
                    have y2 := hl8.cell 2
                    have y3 := hl8.cell 3
                    simp only [List.getElem?_cons_zero, List.getElem?_cons_succ] at y0 y1 y2 y3
                    clear HB0 HB1 HB2 HN1 HN2 HN3 HKP HAC nq np nq7 r0 r1 r2 r3 r4 r5
                    cases hr1 : rdF (kerf : Int) ss n x y ca b r with
                    | none =>
                      rw [hr1] at hc1
                      unfold rcV ReadPost at hc1
                      simp only at hc1
                      have HC1 := Lib.hid hc1
                      have HR1 := Lib.hid hr1
                      clear hc1 hr1
                      go_upto_region 16 with (fail)
                      go_wp2_with (go_at_call 47; (with_reducible refine (HC1.out).mono ?_); rintro e w7 ⟨rfl, hb7⟩)
                      refine ⟨rfl, ?_⟩
                      rw [rdF_cons HEE.out, if_neg k0, if_neg k1, if_neg k2, if_pos HKK.out, if_pos HIN.out, HR1.out]
                      exact ⟨rfl, HB6.out.trans hb7⟩
                    | some u1 =>
                      rw [hr1] at hc1
                      unfold rcV ReadPost at hc1
                      simp only at hc1
                      have HC1 := Lib.hid hc1
                      have HR1 := Lib.hid hr1
                      have hul := rdF_len _ _ _ _ _ _ _ hr1
                      clear hc1 hr1
                      go_upto_region 17 with (go_at_call 47; (with_reducible refine (HC1.out).mono ?_); rintro e w7 ⟨rfl, v7, hm7, hg7, hb7⟩)
                      have hl97 := hg7.keepB hl9 (by omega) (fun e => by have := hvw b9 e.symm; omega)
                      have HG7 := Lib.hid (HG6.out.trans hg7)
                      have HB7 := Lib.hid (HB6.out.trans hb7)
                      have hc2 := HIH.out (a - (ca + (kerf : Int))) b (x + (ca + (kerf : Int))) y u1.2 v7 (ps ++ u1.1) w7 (by omega) (by omega) (by omega) (by omega) (by omega) (by omega) (by omega) (by omega) (by omega) hm7 (by rw [List.length_append]; omega)
                      clear y0 y1 y2 y3 hl8 hl9 HC1 HG6 HB6 hg7 hb7
                      have y0 := hl97.cell 0
                      have y1 := hl97.cell 1
                      have y2 := hl97.cell 2
                      have y3 := hl97.cell 3
                      simp only [List.getElem?_cons_zero, List.getElem?_cons_succ] at y0 y1 y2 y3
                      cases hr2 : rdF (kerf : Int) ss n (x + (ca + (kerf : Int))) y (a - (ca + (kerf : Int))) b u1.2 with
                      | none =>
                        rw [hr2] at hc2
                        unfold rcV ReadPost at hc2
                        simp only at hc2
                        have HC2 := Lib.hid hc2
                        have HR2 := Lib.hid hr2
                        clear hc2 hr2
                        go_wp2_with (go_at_call 47; (with_reducible refine (HC2.out).mono ?_); rintro e w8 ⟨rfl, hb8⟩)
                        refine ⟨rfl, ?_⟩
                        rw [rdF_cons HEE.out, if_neg k0, if_neg k1, if_neg k2, if_pos HKK.out, if_pos HIN.out, HR1.out, Option.bind_some, HR2.out]
                        exact ⟨rfl, HB7.out.trans hb8⟩
                      | some u2 =>
                        rw [hr2] at hc2
                        unfold rcV ReadPost at hc2
                        simp only at hc2
                        have HC2 := Lib.hid hc2
                        have HR2 := Lib.hid hr2
                        clear hc2 hr2
                        go_wp2_with (go_at_call 47; (with_reducible refine (HC2.out).mono ?_); rintro e w8 ⟨rfl, v8, hm8, hg8, hb8⟩)
                        go_end0
                        rw [rdF_cons HEE.out, if_neg k0, if_neg k1, if_neg k2, if_pos HKK.out, if_pos HIN.out, HR1.out, Option.bind_some, HR2.out]
                        exact ⟨rfl, v8, by rw [List.append_assoc] at hm8; exact hm8, HG7.out.trans hg8, HB7.out.trans hb8⟩
              · by_cases k4 : ck = 4
                · have d0 : (ck == 0) = false := by simp [k0]
                  have d1 : (ck == 1) = false := by simp [k1]
                  have d2 : (ck == 2) = false := by simp [k2]
                  have d3 : (ck == 3) = false := by simp [k3]
                  have d4 : (ck == 4) = true := by simp [k4]
                  have HKK := Lib.hid k4
                  clear k4
                  have rq : W4.cell? ⟨q, 3, none⟩ = some (.int .i64 b) := HQ4.out.cell 3
                  have hwr : IntKind.i64.wrap (b - 1) = b - 1 := wrapI (by omega) (by omega)
                  have HWI := Lib.hid (fun W => within_any ca 1 (b - 1) W)
                  cases hin : inB ca 1 (b - 1) with
                  | false =>
                    rw [hin] at HWI
                    have HIN := Lib.hid hin
                    clear hin
                    go_wp2_with (first | (go_at_call 42; refine (HWI.out _).mono ?_; rintro e w5 ⟨rfl, rfl⟩) | (go_at_call 48; refine (demand_f _).mono ?_; rintro e w5 ⟨rfl, rfl⟩))
                    refine ⟨rfl, ?_⟩
                    rw [rdF_cons HEE.out, if_neg k0, if_neg k1, if_neg k2, if_neg k3, if_pos HKK.out, if_neg (by rw [HIN.out]; simp)]
                    exact ⟨rfl, HB4.out⟩
                  | true =>
                    rw [hin] at HWI
                    have hin2 := inB_t hin
                    have HIN := Lib.hid hin
                    clear hin
                    go_upto_region 20 with (first | (go_at_call 42; refine (HWI.out _).mono ?_; rintro e w5 ⟨rfl, rfl⟩) | (go_at_call 48; refine (demand_t _).mono ?_; rintro e w5 ⟨rfl, rfl⟩))
                    clear rq hwr HWI c0 c1
                    have hac := fun W => down_any x y a b ca (kerf : Int) W (by omega) (by omega) (by omega) (by omega)
                    unfold rcV at hac
                    have hkp : ∀ W, Below W4.heap.size W4 W → W.cell? ⟨q, 0, none⟩ = some (.int .i64 x) ∧ W.cell? ⟨q, 1, none⟩ = some (.int .i64 y) ∧ W.cell? ⟨q, 2, none⟩ = some (.int .i64 a) ∧ W.cell? ⟨q, 3, none⟩ = some (.int .i64 b) ∧ W.cell? ⟨q4, 1, none⟩ = some (.int .i64 ca) ∧ W.cell? ⟨p, 0, none⟩ = some (.int .i64 (kerf : Int)) := fun W hW => by
                      have h1 := HQ4.out.keep hW
                      have h2 := HC4.out.keep hW
                      obtain ⟨_, _, h3, _⟩ := (HM4.out.keep hW).bx
                      exact ⟨h1.cell 0, h1.cell 1, h1.cell 2, h1.cell 3, h2.cell 1, h3.cell 0⟩
                    have hac2 : ∀ W, Below W4.heap.size W4 W → Calls Try.prog 57 #[.agg #[.int .i64 x, .int .i64 y, .int .i64 a, .int .i64 b], .int .i64 ca, .int .i64 (kerf : Int)] W fun e w' =>
                        e = .returned (.tuple #[.agg #[.int .i64 x, .int .i64 y, .int .i64 a, .int .i64 ca], .agg #[.int .i64 x, .int .i64 (y + (ca + (kerf : Int))), .int .i64 a, .int .i64 (b - (ca + (kerf : Int)))]]) ∧ Below W.heap.size W w' ∧ Below W4.heap.size W4 w' ∧ w'.cell? ⟨q, 0, none⟩ = some (.int .i64 x) ∧ w'.cell? ⟨q, 1, none⟩ = some (.int .i64 y) ∧ w'.cell? ⟨q, 2, none⟩ = some (.int .i64 a) ∧ w'.cell? ⟨q, 3, none⟩ = some (.int .i64 b) ∧ w'.cell? ⟨q4, 1, none⟩ = some (.int .i64 ca) ∧ w'.cell? ⟨p, 0, none⟩ = some (.int .i64 (kerf : Int)) :=
                      fun W hW => (hac W).mono fun e w' h => ⟨h.1, h.2, below_on hW hW.size h.2, hkp w' (below_on hW hW.size h.2)⟩
                    have HAC := Lib.hid hac2
                    have B0 : Below W4.heap.size W4 W4.drew := (Below.refl W4.heap.size W4).drew
                    have B1 : Below W4.heap.size W4 (W4.alloc o4).drew := ((Below.refl W4.heap.size W4).alloc (Nat.le_refl _) _).drew
                    have B2 : Below W4.heap.size W4 ((W4.alloc o4).alloc o4).drew := (((Below.refl W4.heap.size W4).alloc (Nat.le_refl _) _).alloc (by simp) _).drew
                    have N1 : Blk 89 (W4.alloc o4).drew W4.heap.size z4 := (Blk.new W4 89 z4).drew
                    have N2 : Blk 89 ((W4.alloc o4).alloc o4).drew W4.heap.size z4 := ((Blk.new W4 89 z4).alloc o4).drew
                    have N3 : Blk 89 ((W4.alloc o4).alloc o4).drew (W4.heap.size + 1) z4 := (blk_new2 z4).drew
                    have HB0 := Lib.hid B0
                    have HB1 := Lib.hid B1
                    have HB2 := Lib.hid B2
                    have HN1 := Lib.hid N1
                    have HN2 := Lib.hid N2
                    have HN3 := Lib.hid N3
                    obtain ⟨r0, r1, r2, r3, r4, r5⟩ := hkp W4.drew B0
                    have HKP := Lib.hid hkp
                    have lq : q < W4.heap.size := HQ4.out.lt
                    have lp : p < W4.heap.size := HM4.out.lt
                    have lq7 : q4 < W4.heap.size := HC4.out.lt
                    have nq : ¬ q = W4.heap.size := Nat.ne_of_lt lq
                    have np : ¬ p = W4.heap.size := Nat.ne_of_lt lp
                    have nq7 : ¬ q4 = W4.heap.size := Nat.ne_of_lt lq7
                    clear hkp hac hac2 B0 B1 B2 N1 N2 N3
                    go_cut [7, 8] from 9 (fun a' b' ww => ∃ b8 b9, a' = .pointer (some ⟨b8, 0, none⟩) ∧ b' = .pointer (some ⟨b9, 0, none⟩) ∧ Blk 89 ww b8 [.int .i64 x, .int .i64 y, .int .i64 a, .int .i64 ca] ∧ Blk 89 ww b9 [.int .i64 x, .int .i64 (y + (ca + (kerf : Int))), .int .i64 a, .int .i64 (b - (ca + (kerf : Int)))] ∧ Below W4.heap.size W4 ww ∧ W4.heap.size ≤ b8 ∧ W4.heap.size ≤ b9)
                    case first =>
                      go_region_held3 (fun w' => w'.cell? ⟨q, 0, none⟩ = some (.int .i64 x) ∧ w'.cell? ⟨q, 1, none⟩ = some (.int .i64 y) ∧ w'.cell? ⟨q, 2, none⟩ = some (.int .i64 a) ∧ w'.cell? ⟨q, 3, none⟩ = some (.int .i64 b) ∧ w'.cell? ⟨q4, 1, none⟩ = some (.int .i64 ca) ∧ w'.cell? ⟨p, 0, none⟩ = some (.int .i64 (kerf : Int)))
                        (first | with_reducible exact ⟨r0, r1, r2, r3, r4, r5⟩ | with_reducible exact ⟨x0, x1, x2, x3, x4, x5⟩ | with_reducible exact HKP.out _ HB0.out | with_reducible exact HKP.out _ HB1.out | with_reducible exact HKP.out _ HB2.out | ((with_reducible refine HKP.out _ ?_); repeat (first | with_reducible exact hb6 | with_reducible exact HB0.out | with_reducible exact HB1.out | with_reducible exact HB2.out | ((with_reducible refine below_set ?_ ?_ _); rotate_left; focus (first | omega | (simp; omega))) | ((with_reducible refine bel_alloc ?_ ?_); rotate_left; focus (first | omega | (simp; omega))))))
                        ((first
                          | (go_at_call 57; (with_reducible refine (HAC.out _ HB0.out).mono ?_); rintro e w6 ⟨rfl, _hbW, hb6, x0, x1, x2, x3, x4, x5⟩; have sz6 := hb6.size)
                          | (go_at_call 57; (with_reducible refine (HAC.out _ HB1.out).mono ?_); rintro e w6 ⟨rfl, hbW, hb6, x0, x1, x2, x3, x4, x5⟩; have sz6 := hb6.size; have M1 := HN1.out.keep hbW; obtain ⟨m0, m1, m2, m3, m4⟩ := z4c M1; have n1 : ¬ W4.heap.size = w6.heap.size := Nat.ne_of_lt M1.lt; have n2 : ¬ w6.heap.size = W4.heap.size := Nat.ne_of_gt M1.lt; have l1 : W4.heap.size < w6.heap.size := M1.lt)
                          | (go_at_call 57; (with_reducible refine (HAC.out _ HB2.out).mono ?_); rintro e w6 ⟨rfl, hbW, hb6, x0, x1, x2, x3, x4, x5⟩; have sz6 := hb6.size; have M2 := HN2.out.keep hbW; have M3 := HN3.out.keep hbW; obtain ⟨m0, m1, m2, m3, m4⟩ := z4c M2; obtain ⟨l0, l1, l2, l3, l4⟩ := z4c M3; have g1 : W4.heap.size < w6.heap.size := M2.lt; have g2 : W4.heap.size + 1 < w6.heap.size := M3.lt)))
                      all_goals
                        go_wp2_with (fail)
                        go_meet
                        case rel =>
                          refine ⟨_, _, rfl, rfl, ?_, ?_, ?_, by omega, by omega⟩
                          · first
                              | with_reducible exact (Blk.new _ 89 [_, _, _, _]).alloc _
                              | with_reducible exact blk_new2 [_, _, _, _]
                              | with_reducible exact (set4 M1 _ _ _ _).alloc _
                              | with_reducible exact blk_news [_, _, _, _]
                              | with_reducible exact far4 (set4 M2 _ _ _ _) (by omega) _ _ _ _
                              | with_reducible exact far4 (set4 M3 _ _ _ _) (by omega) _ _ _ _
                          · first
                              | with_reducible exact (Blk.new _ 89 [_, _, _, _]).alloc _
                              | with_reducible exact blk_new2 [_, _, _, _]
                              | with_reducible exact (set4 M1 _ _ _ _).alloc _
                              | with_reducible exact blk_news [_, _, _, _]
                              | with_reducible exact set4 (far4 M2 (by omega) _ _ _ _) _ _ _ _
                              | with_reducible exact set4 (far4 M3 (by omega) _ _ _ _) _ _ _ _
                          · repeat (first | with_reducible exact hb6 | ((with_reducible refine below_set ?_ ?_ _); rotate_left; focus (first | omega | (simp; omega))) | ((with_reducible refine bel_alloc ?_ ?_); rotate_left; focus (first | omega | (simp; omega))))
                    case rest =>
                      obtain ⟨b8, b9, rfl, rfl, hl8, hl9, hbl, hg8, hg9⟩ := hcut
                      have hm6 := HM4.out.keep hbl
                      have HG6 := Lib.hid (HG4.out.trans (GrP.of_below hbl))
                      have HB6 := Lib.hid (HB4.out.trans (hbl.mono (Nat.le_of_lt lp)))
                      have hc1 := HIH.out a ca x y r vp ps wc (by omega) (by omega) (by omega) (by omega) (by omega) (by omega) (by omega) (by omega) (by omega) hm6 (by omega)
                      have hvw : ∀ g, vp.ownBlock = some g → g < W4.heap.size := fun g hg => by have := HVQ.out g hg; omega
                      have y0 := hl8.cell 0
                      have y1 := hl8.cell 1
                      have y2 := hl8.cell 2
                      have y3 := hl8.cell 3
                      simp only [List.getElem?_cons_zero, List.getElem?_cons_succ] at y0 y1 y2 y3
                      clear HB0 HB1 HB2 HN1 HN2 HN3 HKP HAC nq np nq7 r0 r1 r2 r3 r4 r5
                      cases hr1 : rdF (kerf : Int) ss n x y a ca r with
                      | none =>
                        rw [hr1] at hc1
                        unfold rcV ReadPost at hc1
                        simp only at hc1
                        have HC1 := Lib.hid hc1
                        have HR1 := Lib.hid hr1
                        clear hc1 hr1
                        go_upto_region 21 with (fail)
                        go_wp2_with (go_at_call 47; (with_reducible refine (HC1.out).mono ?_); rintro e w7 ⟨rfl, hb7⟩)
                        refine ⟨rfl, ?_⟩
                        rw [rdF_cons HEE.out, if_neg k0, if_neg k1, if_neg k2, if_neg k3, if_pos HKK.out, if_pos HIN.out, HR1.out]
                        exact ⟨rfl, HB6.out.trans hb7⟩
                      | some u1 =>
                        rw [hr1] at hc1
                        unfold rcV ReadPost at hc1
                        simp only at hc1
                        have HC1 := Lib.hid hc1
                        have HR1 := Lib.hid hr1
                        have hul := rdF_len _ _ _ _ _ _ _ hr1
                        clear hc1 hr1
                        go_upto_region 22 with (go_at_call 47; (with_reducible refine (HC1.out).mono ?_); rintro e w7 ⟨rfl, v7, hm7, hg7, hb7⟩)
                        have hl97 := hg7.keepB hl9 (by omega) (fun e => by have := hvw b9 e.symm; omega)
                        have HG7 := Lib.hid (HG6.out.trans hg7)
                        have HB7 := Lib.hid (HB6.out.trans hb7)
                        have hc2 := HIH.out a (b - (ca + (kerf : Int))) x (y + (ca + (kerf : Int))) u1.2 v7 (ps ++ u1.1) w7 (by omega) (by omega) (by omega) (by omega) (by omega) (by omega) (by omega) (by omega) (by omega) hm7 (by rw [List.length_append]; omega)
                        clear y0 y1 y2 y3 hl8 hl9 HC1 HG6 HB6 hg7 hb7
                        have y0 := hl97.cell 0
                        have y1 := hl97.cell 1
                        have y2 := hl97.cell 2
                        have y3 := hl97.cell 3
                        simp only [List.getElem?_cons_zero, List.getElem?_cons_succ] at y0 y1 y2 y3
                        cases hr2 : rdF (kerf : Int) ss n x (y + (ca + (kerf : Int))) a (b - (ca + (kerf : Int))) u1.2 with
                        | none =>
                          rw [hr2] at hc2
                          unfold rcV ReadPost at hc2
                          simp only at hc2
                          have HC2 := Lib.hid hc2
                          have HR2 := Lib.hid hr2
                          clear hc2 hr2
                          go_wp2_with (go_at_call 47; (with_reducible refine (HC2.out).mono ?_); rintro e w8 ⟨rfl, hb8⟩)
                          refine ⟨rfl, ?_⟩
                          rw [rdF_cons HEE.out, if_neg k0, if_neg k1, if_neg k2, if_neg k3, if_pos HKK.out, if_pos HIN.out, HR1.out, Option.bind_some, HR2.out]
                          exact ⟨rfl, HB7.out.trans hb8⟩
                        | some u2 =>
                          rw [hr2] at hc2
                          unfold rcV ReadPost at hc2
                          simp only at hc2
                          have HC2 := Lib.hid hc2
                          have HR2 := Lib.hid hr2
                          clear hc2 hr2
                          go_wp2_with (go_at_call 47; (with_reducible refine (HC2.out).mono ?_); rintro e w8 ⟨rfl, v8, hm8, hg8, hb8⟩)
                          go_end0
                          rw [rdF_cons HEE.out, if_neg k0, if_neg k1, if_neg k2, if_neg k3, if_pos HKK.out, if_pos HIN.out, HR1.out, Option.bind_some, HR2.out]
                          exact ⟨rfl, v8, by rw [List.append_assoc] at hm8; exact hm8, HG7.out.trans hg8, HB7.out.trans hb8⟩
                · have d0 : (ck == 0) = false := by simp [k0]
                  have d1 : (ck == 1) = false := by simp [k1]
                  have d2 : (ck == 2) = false := by simp [k2]
                  have d3 : (ck == 3) = false := by simp [k3]
                  have d4 : (ck == 4) = false := by simp [k4]
                  go_wp2
                  refine ⟨rfl, ?_⟩
                  rw [rdF_cons HEE.out, if_neg k0, if_neg k1, if_neg k2, if_neg k3, if_neg k4]
                  exact ⟨rfl, HB4.out⟩

end Go.Proofs.Ytkfjlgjncaddpaa
