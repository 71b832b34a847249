/- The walk of ActionTighter. -/
import Derived.Test.YtpaemlkikkcjiaaApp2
import Derived.Deep.CutRange
namespace Go.Proofs.Ytpaemlkikkcjiaa
open Go.RowKit

theorem nrow {g g' : Nat} {n c : Nat} (h : g ≠ g') : some g ≠ (Value.slice (some ⟨g', 0, none⟩) n c).ownBlock := by
  simp only [Value.ownBlock, ne_eq, Option.some.injEq]
  exact h
theorem own_at {B : Nat} {w : World} {v : Value} {n : Nat} {vs : List Value} (h : w.ownsRow B 39 3 v (0 + n) ([] ++ vs)) : w.ownsRow B 39 3 v n vs := by simpa using h
theorem own_far {B n : Nat} {w : World} {v : Value} {vs : List Value} (h : w.ownsRow B 39 3 v n vs) (hv : v ≠ .slice none 0 0) : ∀ b, v.ownBlock = some b → B ≤ b := own_block (own_hd h hv)
theorem own_row {B : Nat} {w : World} {v : Value} {t : List T3} {m : T3} {Lt : Nat} (h : w.ownsRow B 39 3 v (Lt + 1) (tc t ++ tieC m)) (hv : v ≠ .slice none 0 0) :
    ∃ g cap, v = .slice (some ⟨g, 0, none⟩) (Lt + 1) cap ∧ TiesAt w (some ⟨g, 0, none⟩) (t ++ [m]) := by
  obtain ⟨g, cap, e, _, _, _, hvals⟩ := (own_hd h hv).vals
  refine ⟨g, cap, e, ?_⟩
  have : tc (t ++ [m]) = tc t ++ tieC m := by rw [tc_append]; simp [tc]
  unfold TiesAt
  rw [this]; exact hvals
theorem regB_init {n : Int} {t : List T3} {m : T3} (h : regB n (t ++ [m]) = true) : regB n t = true := by
  unfold regB at h ⊢
  simp only [Bool.and_eq_true, List.all_append, List.length_append, List.length_singleton, decide_eq_true_eq] at h ⊢
  obtain ⟨h1, h2, h3, _⟩ := h
  exact ⟨h1, by omega, h3⟩
theorem sol_init {n : Nat} {t : List T3} {m : T3} {x : Nat → Int} (h : Sol n (t ++ [m]) x) : Sol n t x := ⟨h.1, fun u hu => h.2 u (List.mem_append.2 (.inl hu))⟩

set_option maxHeartbeats 8000000 in
set_option maxRecDepth 100000 in
theorem actionTighter_any (n : Int) (A : Option Addr) (c L : Nat) (ts : List T3) (m : T3) (w : World) (hn : -9223372036854775808 ≤ n ∧ n ≤ 9223372036854775807) (hA : TiesAt w A ts) (hL : L = ts.length) (hc : L ≤ c) (hnil : A = none → c = 0) (hcm : c ≤ maxLen) :
    Calls Try.prog 14 #[.int .i64 n, .slice A L c, .agg #[.int .i64 m.a, .int .i64 m.b, .int .i64 m.l]] w fun e w' => e = .returned (.bool true) ∧ Below w.heap.size w w' := by
  obtain ⟨i0, hi, hz0, hz1, hz2⟩ := info_parts infoTie
  have hA0 : TiesAt (w.alloc (.cells #[.int .i64 m.a, .int .i64 m.b, .int .i64 m.l] 39)) A ts := hA.keep (below_new _ _)
  have hfe := few_any A c L ts (w.alloc (.cells #[.int .i64 m.a, .int .i64 m.b, .int .i64 m.l] 39)) hA0 hL hc hnil hcm
  have hlen := fewL_len ts
  have HFE := Lib.hid hfe
  have hb0 := below_new w (.cells #[.int .i64 m.a, .int .i64 m.b, .int .i64 m.l] 39)
  have hq : Blk 39 (w.alloc (.cells #[.int .i64 m.a, .int .i64 m.b, .int .i64 m.l] 39)) w.heap.size (tieC m) := Blk.new w 39 (tieC m)
  have HQ := Lib.hid hq
  have hsz0 : (w.alloc (.cells #[.int .i64 m.a, .int .i64 m.b, .int .i64 m.l] 39)).heap.size = w.heap.size + 1 := by simp
  generalize fewL ts = t at *
  clear hfe hA hA0 hL hc hnil hcm hq
  go_enter Try.func14, Try.ntmps14
  go_wp2_with (go_at_call 23; refine (HFE.out).mono ?_; rintro e w1 ⟨g, cap, rfl, hcap, hg, hgw, hT, hb1⟩)
  have hbw1 := below_on hb0 hb0.size hb1
  have hq1 := HQ.out.keep hb1
  have h5w : w.heap.size < w1.heap.size := by have := hb1.size; omega
  generalize w.alloc (.cells #[.int .i64 m.a, .int .i64 m.b, .int .i64 m.l] 39) = Wx at *
  generalize hLt : t.length = Lt at *
  have HLt := Lib.hid hLt
  have HLT : Hid ((tc t).length = Lt * 3) := Lib.hid (by rw [tc_len, HLt.out])
  have HLM : Hid (Lt + 1 = (t ++ [m]).length) := Lib.hid (by simp [HLt.out])
  generalize hb5 : w.heap.size = b5 at *
  have HBW1 : Hid (Below w.heap.size w w1) := Lib.hid (by rw [hb5]; exact hbw1)
  have HTK : Hid (∀ W, Below w1.heap.size w1 W → TiesAt W (some ⟨g, 0, none⟩) t) := Lib.hid (fun W h => hT.keep h)
  have HS : Hid (∀ W, Below w1.heap.size w1 W → W.cell? ⟨b5, 0, none⟩ = some (.int .i64 m.a) ∧ W.cell? ⟨b5, 1, none⟩ = some (.int .i64 m.b) ∧ W.cell? ⟨b5, 2, none⟩ = some (.int .i64 m.l)) := Lib.hid (fun W h => ⟨(hq1.keep h).cell 0, (hq1.keep h).cell 1, (hq1.keep h).cell 2⟩)
  clear hb0 HFE HQ hb1 hq1 hbw1 hT hLt hsz0
  obtain ⟨bd, hbd⟩ : ∃ bd : Bool, bd = (decide (512 ≤ Lt) || !regB n (t ++ [m])) := ⟨_, rfl⟩
  have HBD := Lib.hid hbd
  clear hbd
  go_upto_region 2 with (fail)
  go_cut [28] from 13 (fun s ww => s = .bool bd ∧ Below w1.heap.size w1 ww)
  case first =>
    by_cases h512 : 512 ≤ Lt
    · have hd : decide (512 ≤ Lt) = true := by simpa using h512
      have hd2 : decide ((512 : Int) ≤ (Lt : Int)) = true := by simp; omega
      have HBT : Hid (bd = true) := Lib.hid (by rw [HBD.out, hd]; rfl)
      clear h512
      go_quiet (fail)
      go_wp2_with (fail)
      go_meet
      case rel => exact ⟨by rw [HBT.out], below_drewN (Below.refl _ _) _⟩
    · have hd : decide (512 ≤ Lt) = false := by simpa using h512
      have hd2 : decide ((512 : Int) ≤ (Lt : Int)) = false := by simp; omega
      have HBT : Hid (bd = !regB n (t ++ [m])) := Lib.hid (by rw [HBD.out, hd]; rfl)
      have HCK : Hid (∀ g6 cap6 W, TiesAt W (some ⟨g6, 0, none⟩) (t ++ [m]) → Calls Try.prog 25 #[.int .i64 n, .slice (some ⟨g6, 0, none⟩) (Lt + 1) cap6] W fun e w' => e = .returned (.int .i64 (ckE n (t ++ [m]))) ∧ Below W.heap.size W w') := Lib.hid (fun g6 cap6 W hT => refCheck_any n (some ⟨g6, 0, none⟩) cap6 (Lt + 1) (t ++ [m]) W hT HLM.out hn (by omega))
      cases hr : regB n (t ++ [m]) with
      | false =>
        rw [ck_bad hr] at HCK
        rw [hr] at HBT
        clear hr
        have b1 := below_on (Below.refl w1.heap.size w1).drew (Nat.le_refl _) (below_new w1.drew (.cells #[] 39))
        have b2 := below_on b1 b1.size (below_new (w1.drew.alloc (.cells #[] 39)) (.cells #[.int .i64 m.a, .int .i64 m.b, .int .i64 m.l] 39))
        have b3 := below_on (Below.refl w1.heap.size w1).drew (Nat.le_refl _) (below_new w1.drew (.cells #[.int .i64 m.a, .int .i64 m.b, .int .i64 m.l] 39))
        have b4 := below_on b3 b3.size (below_new (w1.drew.alloc (.cells #[.int .i64 m.a, .int .i64 m.b, .int .i64 m.l] 39)) (.cells #[] 39))
        have o1 := own_emp w1.drew w1.heap.size (Nat.le_refl _)
        have o2 := own_keep o1 (below_new (w1.drew.alloc (.cells #[] 39)) (.cells #[.int .i64 m.a, .int .i64 m.b, .int .i64 m.l] 39))
        have z1 : (w1.drew.alloc (.cells #[.int .i64 m.a, .int .i64 m.b, .int .i64 m.l] 39)).heap.size = w1.heap.size + 1 := by simp
        have z2 : (w1.drew.alloc (.cells #[] 39)).heap.size = w1.heap.size + 1 := by simp
        have o4 := own_emp (w1.drew.alloc (.cells #[.int .i64 m.a, .int .i64 m.b, .int .i64 m.l] 39)) w1.heap.size b3.size
        rw [z1] at o4
        have e2 : Blk 39 ((w1.drew.alloc (.cells #[] 39)).alloc (.cells #[.int .i64 m.a, .int .i64 m.b, .int .i64 m.l] 39)) (w1.heap.size + 1) (tieC m) := by rw [← z2]; exact Blk.new _ 39 (tieC m)
        have e3 : Blk 39 (w1.drew.alloc (.cells #[.int .i64 m.a, .int .i64 m.b, .int .i64 m.l] 39)) w1.drew.heap.size (tieC m) := Blk.new _ 39 (tieC m)
        have e4 := e3.keep (below_new (w1.drew.alloc (.cells #[.int .i64 m.a, .int .i64 m.b, .int .i64 m.l] 39)) (.cells #[] 39))
        have n2 : w1.heap.size + 1 ≠ w1.drew.heap.size := by simp
        have n4 : w1.drew.heap.size ≠ w1.heap.size + 1 := by simp
        have B1 := Lib.hid b1
        have B2 := Lib.hid b2
        have B3 := Lib.hid b3
        have B4 := Lib.hid b4
        have O1 := Lib.hid o1
        have O2 := Lib.hid o2
        have O4 := Lib.hid o4
        have E2 := Lib.hid e2
        have E4 := Lib.hid e4
        have N2 := Lib.hid n2
        have N4 := Lib.hid n4
        have hmx1 : 0 + Lt ≤ maxLen := by unfold maxLen; omega
        have hmb1 : (0 + Lt) * 24 ≤ 140737488355328 := by omega
        have hmx2 : Lt + 1 ≤ maxLen := by unfold maxLen; omega
        have hmb2 : (Lt + 1) * 24 ≤ 140737488355328 := by omega
        have z0 := (HS.out _ (Below.refl w1.heap.size w1).drew)
        clear b1 b2 b3 b4 o1 o2 o4 e2 e3 e4 n2 n4 z1 z2
        go_region_held_law (fun w' => w'.cell? ⟨b5, 0, none⟩ = some (.int .i64 m.a) ∧ w'.cell? ⟨b5, 1, none⟩ = some (.int .i64 m.b) ∧ w'.cell? ⟨b5, 2, none⟩ = some (.int .i64 m.l))
          (first | exact z0 | exact HS.out _ B1.out | exact HS.out _ B2.out | exact HS.out _ B3.out | exact HS.out _ B4.out | exact HS.out _ hb8 | exact HS.out _ hb7 | exact HS.out _ hb6 | exact HS.out _ hb5 | go_keep)
          (first
            | (refine step_own (by first | rfl | (simp [Region.wanted]) | (kernel_rfl)) (.tmp 20) (.tmp 21) 22 rfl w1.heap.size 39 i0 zTie 3 24 Try.underlying22 hi hz0 hz1 hz2 rfl (by decide) (.slice (some ⟨w1.drew.heap.size, 0, none⟩) 0 0) 0 [] rfl O1.out ⟨g, 0, none⟩ Lt cap (tc t) rfl HLT.out (vals_cells (HTK.out _ B1.out)) (tc_one t) hmx1 hmb1 B1.out.size ?_; intro v5 w5 hown5 hgr5 hne5; have hb5 := B1.out.grown hgr5 B1.out.size (by simp [Value.ownBlock]); have hn5 : v5 ≠ .slice none 0 0 := (fun e => by have := (hne5.1 e).1; cases this); have o5 := own_at hown5; have hb6 := below_on hb5 hb5.size (below_new w5 (.cells #[.int .i64 m.a, .int .i64 m.b, .int .i64 m.l] 39)); have o6 := own_keep o5 (below_new w5 (.cells #[.int .i64 m.a, .int .i64 m.b, .int .i64 m.l] 39)); have k6 : Blk 39 (w5.alloc (.cells #[.int .i64 m.a, .int .i64 m.b, .int .i64 m.l] 39)) w5.heap.size (tieC m) := Blk.new _ 39 (tieC m))
            | (refine step_own (by first | rfl | (simp [Region.wanted]) | (kernel_rfl)) (.tmp 20) (.tmp 21) 22 rfl w1.heap.size 39 i0 zTie 3 24 Try.underlying22 hi hz0 hz1 hz2 rfl (by decide) (.slice (some ⟨w1.drew.heap.size, 0, none⟩) 0 0) 0 [] rfl O2.out ⟨g, 0, none⟩ Lt cap (tc t) rfl HLT.out (vals_cells (HTK.out _ B2.out)) (tc_one t) hmx1 hmb1 B2.out.size ?_; intro v5 w5 hown5 hgr5 hne5; have hb5 := B2.out.grown hgr5 B2.out.size (by simp [Value.ownBlock]); have hn5 : v5 ≠ .slice none 0 0 := (fun e => by have := (hne5.1 e).1; cases this); have o5 := own_at hown5; have hb6 := hb5; have o6 := o5; have k6 := E2.out.grown hgr5 (nrow N2.out))
            | (refine step_own (by first | rfl | (simp [Region.wanted]) | (kernel_rfl)) (.tmp 20) (.tmp 21) 22 rfl w1.heap.size 39 i0 zTie 3 24 Try.underlying22 hi hz0 hz1 hz2 rfl (by decide) (.slice (some ⟨(w1.heap.size + 1), 0, none⟩) 0 0) 0 [] rfl O4.out ⟨g, 0, none⟩ Lt cap (tc t) rfl HLT.out (vals_cells (HTK.out _ B4.out)) (tc_one t) hmx1 hmb1 B4.out.size ?_; intro v5 w5 hown5 hgr5 hne5; have hb5 := B4.out.grown hgr5 B4.out.size (by simp [Value.ownBlock]); have hn5 : v5 ≠ .slice none 0 0 := (fun e => by have := (hne5.1 e).1; cases this); have o5 := own_at hown5; have hb6 := hb5; have o6 := o5; have k6 := E4.out.grown hgr5 (nrow N4.out))
            | (refine step_own (by first | rfl | (simp [Region.wanted]) | (kernel_rfl)) (.tmp 22) (.tmp 24) 22 rfl w1.heap.size 39 i0 zTie 3 24 Try.underlying22 hi hz0 hz1 hz2 rfl (by decide) v5 Lt (tc t) rfl o6 ⟨_, 0, none⟩ 1 1 (tieC m) rfl rfl (vals_cells k6.vals0) (tieC_one m) hmx2 hmb2 hb6.size ?_; intro v6 w6 hown6 hgr6 hne6; have hb7 := hb6.grown hgr6 hb6.size (own_far o6 hn5); obtain ⟨g6, cap6, rfl, hT6⟩ := own_row hown6 (fun e => hn5 (hne6.1 e).1))
            | (go_at_call 25; refine (HCK.out _ _ _ hT6).mono ?_; rintro e w8 ⟨rfl, hbx⟩; have hb8 := below_on hb7 hb7.size hbx))
        all_goals
          go_wp2_with (fail)
          go_meet
          case rel => exact ⟨by rw [HBT.out]; rfl, hb8⟩
      | true =>
        rw [ck_ok hr] at HCK
        rw [hr] at HBT
        clear hr
        have b1 := below_on (Below.refl w1.heap.size w1).drew (Nat.le_refl _) (below_new w1.drew (.cells #[] 39))
        have b2 := below_on b1 b1.size (below_new (w1.drew.alloc (.cells #[] 39)) (.cells #[.int .i64 m.a, .int .i64 m.b, .int .i64 m.l] 39))
        have b3 := below_on (Below.refl w1.heap.size w1).drew (Nat.le_refl _) (below_new w1.drew (.cells #[.int .i64 m.a, .int .i64 m.b, .int .i64 m.l] 39))
        have b4 := below_on b3 b3.size (below_new (w1.drew.alloc (.cells #[.int .i64 m.a, .int .i64 m.b, .int .i64 m.l] 39)) (.cells #[] 39))
        have o1 := own_emp w1.drew w1.heap.size (Nat.le_refl _)
        have o2 := own_keep o1 (below_new (w1.drew.alloc (.cells #[] 39)) (.cells #[.int .i64 m.a, .int .i64 m.b, .int .i64 m.l] 39))
        have z1 : (w1.drew.alloc (.cells #[.int .i64 m.a, .int .i64 m.b, .int .i64 m.l] 39)).heap.size = w1.heap.size + 1 := by simp
        have z2 : (w1.drew.alloc (.cells #[] 39)).heap.size = w1.heap.size + 1 := by simp
        have o4 := own_emp (w1.drew.alloc (.cells #[.int .i64 m.a, .int .i64 m.b, .int .i64 m.l] 39)) w1.heap.size b3.size
        rw [z1] at o4
        have e2 : Blk 39 ((w1.drew.alloc (.cells #[] 39)).alloc (.cells #[.int .i64 m.a, .int .i64 m.b, .int .i64 m.l] 39)) (w1.heap.size + 1) (tieC m) := by rw [← z2]; exact Blk.new _ 39 (tieC m)
        have e3 : Blk 39 (w1.drew.alloc (.cells #[.int .i64 m.a, .int .i64 m.b, .int .i64 m.l] 39)) w1.drew.heap.size (tieC m) := Blk.new _ 39 (tieC m)
        have e4 := e3.keep (below_new (w1.drew.alloc (.cells #[.int .i64 m.a, .int .i64 m.b, .int .i64 m.l] 39)) (.cells #[] 39))
        have n2 : w1.heap.size + 1 ≠ w1.drew.heap.size := by simp
        have n4 : w1.drew.heap.size ≠ w1.heap.size + 1 := by simp
        have B1 := Lib.hid b1
        have B2 := Lib.hid b2
        have B3 := Lib.hid b3
        have B4 := Lib.hid b4
        have O1 := Lib.hid o1
        have O2 := Lib.hid o2
        have O4 := Lib.hid o4
        have E2 := Lib.hid e2
        have E4 := Lib.hid e4
        have N2 := Lib.hid n2
        have N4 := Lib.hid n4
        have hmx1 : 0 + Lt ≤ maxLen := by unfold maxLen; omega
        have hmb1 : (0 + Lt) * 24 ≤ 140737488355328 := by omega
        have hmx2 : Lt + 1 ≤ maxLen := by unfold maxLen; omega
        have hmb2 : (Lt + 1) * 24 ≤ 140737488355328 := by omega
        have z0 := (HS.out _ (Below.refl w1.heap.size w1).drew)
        clear b1 b2 b3 b4 o1 o2 o4 e2 e3 e4 n2 n4 z1 z2
        go_region_held_law (fun w' => w'.cell? ⟨b5, 0, none⟩ = some (.int .i64 m.a) ∧ w'.cell? ⟨b5, 1, none⟩ = some (.int .i64 m.b) ∧ w'.cell? ⟨b5, 2, none⟩ = some (.int .i64 m.l))
          (first | exact z0 | exact HS.out _ B1.out | exact HS.out _ B2.out | exact HS.out _ B3.out | exact HS.out _ B4.out | exact HS.out _ hb8 | exact HS.out _ hb7 | exact HS.out _ hb6 | exact HS.out _ hb5 | go_keep)
          (first
            | (refine step_own (by first | rfl | (simp [Region.wanted]) | (kernel_rfl)) (.tmp 20) (.tmp 21) 22 rfl w1.heap.size 39 i0 zTie 3 24 Try.underlying22 hi hz0 hz1 hz2 rfl (by decide) (.slice (some ⟨w1.drew.heap.size, 0, none⟩) 0 0) 0 [] rfl O1.out ⟨g, 0, none⟩ Lt cap (tc t) rfl HLT.out (vals_cells (HTK.out _ B1.out)) (tc_one t) hmx1 hmb1 B1.out.size ?_; intro v5 w5 hown5 hgr5 hne5; have hb5 := B1.out.grown hgr5 B1.out.size (by simp [Value.ownBlock]); have hn5 : v5 ≠ .slice none 0 0 := (fun e => by have := (hne5.1 e).1; cases this); have o5 := own_at hown5; have hb6 := below_on hb5 hb5.size (below_new w5 (.cells #[.int .i64 m.a, .int .i64 m.b, .int .i64 m.l] 39)); have o6 := own_keep o5 (below_new w5 (.cells #[.int .i64 m.a, .int .i64 m.b, .int .i64 m.l] 39)); have k6 : Blk 39 (w5.alloc (.cells #[.int .i64 m.a, .int .i64 m.b, .int .i64 m.l] 39)) w5.heap.size (tieC m) := Blk.new _ 39 (tieC m))
            | (refine step_own (by first | rfl | (simp [Region.wanted]) | (kernel_rfl)) (.tmp 20) (.tmp 21) 22 rfl w1.heap.size 39 i0 zTie 3 24 Try.underlying22 hi hz0 hz1 hz2 rfl (by decide) (.slice (some ⟨w1.drew.heap.size, 0, none⟩) 0 0) 0 [] rfl O2.out ⟨g, 0, none⟩ Lt cap (tc t) rfl HLT.out (vals_cells (HTK.out _ B2.out)) (tc_one t) hmx1 hmb1 B2.out.size ?_; intro v5 w5 hown5 hgr5 hne5; have hb5 := B2.out.grown hgr5 B2.out.size (by simp [Value.ownBlock]); have hn5 : v5 ≠ .slice none 0 0 := (fun e => by have := (hne5.1 e).1; cases this); have o5 := own_at hown5; have hb6 := hb5; have o6 := o5; have k6 := E2.out.grown hgr5 (nrow N2.out))
            | (refine step_own (by first | rfl | (simp [Region.wanted]) | (kernel_rfl)) (.tmp 20) (.tmp 21) 22 rfl w1.heap.size 39 i0 zTie 3 24 Try.underlying22 hi hz0 hz1 hz2 rfl (by decide) (.slice (some ⟨(w1.heap.size + 1), 0, none⟩) 0 0) 0 [] rfl O4.out ⟨g, 0, none⟩ Lt cap (tc t) rfl HLT.out (vals_cells (HTK.out _ B4.out)) (tc_one t) hmx1 hmb1 B4.out.size ?_; intro v5 w5 hown5 hgr5 hne5; have hb5 := B4.out.grown hgr5 B4.out.size (by simp [Value.ownBlock]); have hn5 : v5 ≠ .slice none 0 0 := (fun e => by have := (hne5.1 e).1; cases this); have o5 := own_at hown5; have hb6 := hb5; have o6 := o5; have k6 := E4.out.grown hgr5 (nrow N4.out))
            | (refine step_own (by first | rfl | (simp [Region.wanted]) | (kernel_rfl)) (.tmp 22) (.tmp 24) 22 rfl w1.heap.size 39 i0 zTie 3 24 Try.underlying22 hi hz0 hz1 hz2 rfl (by decide) v5 Lt (tc t) rfl o6 ⟨_, 0, none⟩ 1 1 (tieC m) rfl rfl (vals_cells k6.vals0) (tieC_one m) hmx2 hmb2 hb6.size ?_; intro v6 w6 hown6 hgr6 hne6; have hb7 := hb6.grown hgr6 hb6.size (own_far o6 hn5); obtain ⟨g6, cap6, rfl, hT6⟩ := own_row hown6 (fun e => hn5 (hne6.1 e).1))
            | (go_at_call 25; refine (HCK.out _ _ _ hT6).mono ?_; rintro e w8 ⟨rfl, hbx⟩; have hb8 := below_on hb7 hb7.size hbx))
        all_goals
          go_wp2_with (fail)
          go_meet
          case rel => exact ⟨by rw [HBT.out]; rfl, hb8⟩
  case rest =>
  obtain ⟨rfl, hbc⟩ := hcut
  have hbwc := below_on HBW1.out HBW1.out.size hbc
  have HBWC := Lib.hid hbwc
  clear hbwc HBW1
  cases hbd : bd with
  | true =>
    clear HTK HS hbc HBD
    go_wp2_with (go_at_call 26; refine (lives_any _).mono ?_; rintro e w2 ⟨rfl, hb2⟩)
    go_ret
    exact ⟨rfl, below_on HBWC.out HBWC.out.size hb2⟩
  | false =>
    have hg := HBD.out
    rw [hbd] at hg
    have hg' := hg.symm
    simp only [Bool.or_eq_false_iff, decide_eq_false_iff_not, Bool.not_eq_false'] at hg'
    obtain ⟨hl5, hr⟩ := hg'
    have hri := regB_init hr
    obtain ⟨k, rfl, hk1, hk2, _, hok⟩ := regB_ok hr
    obtain ⟨k', hk', _, _, _, hok2⟩ := regB_ok hri
    obtain rfl : k' = k := by omega
    have HT := Lib.hid (HTK.out _ hbc)
    have HRN : Hid ((∀ x, ¬ Sol k' (t ++ [m]) x) → ∀ g6 cap6 W, TiesAt W (some ⟨g6, 0, none⟩) (t ++ [m]) → Calls Try.prog 24 #[.int .i64 (k' : Int), .slice (some ⟨g6, 0, none⟩) (Lt + 1) cap6] W fun e w' => e = .returned (.tuple #[.slice none 0 0, .int .i64 6]) ∧ Below W.heap.size W w') :=
      Lib.hid (fun hx g6 cap6 W hT => reg_none k' ⟨g6, 0, none⟩ cap6 (Lt + 1) (t ++ [m]) W hT HLM.out (by omega) hr hk2 hx)
    have HRL : Hid (∀ x, Least k' (t ++ [m]) x → ∀ g6 cap6 W, TiesAt W (some ⟨g6, 0, none⟩) (t ++ [m]) → Calls Try.prog 24 #[.int .i64 (k' : Int), .slice (some ⟨g6, 0, none⟩) (Lt + 1) cap6] W fun e w' => ∃ y g cap, e = .returned (.tuple #[.slice (some ⟨g, 0, none⟩) k' cap, .int .i64 0]) ∧ Vals w' (some ⟨g, 0, none⟩) (fl y k') ∧ Least k' (t ++ [m]) y ∧ Below W.heap.size W w') :=
      Lib.hid (fun x hx g6 cap6 W hT => reg_least k' ⟨g6, 0, none⟩ cap6 (Lt + 1) (t ++ [m]) x W hT HLM.out (by omega) hr hk2 hx)
    have hcase := least_or_none hok (by omega)
    have hb5c : b5 < wc.heap.size := Nat.lt_of_lt_of_le h5w hbc.size
    have HSC := Lib.hid (HS.out _ hbc)
    rcases least_or_none hok2 (by omega) with ⟨x0, hx0⟩ | hno0
    · have hrg := reg_least k' ⟨g, 0, none⟩ cap Lt t x0 wc HT.out HLt.out.symm (by omega) hri hk2 hx0
      have HRG := Lib.hid hrg
      have HCASE := Lib.hid hcase
      clear hrg hx0 hok hok2 hri hr hg HBD hbc HTK HS hcase hk'
      go_upto_region 5 with (go_at_call 24; refine (HRG.out).mono ?_; rintro e w2 ⟨x, gx, capx, rfl, hvx, hlx, hb2⟩)
      have HTK : Hid (∀ W, Below w2.heap.size w2 W → TiesAt W (some ⟨g, 0, none⟩) t) := Lib.hid (fun W h => (HT.out.keep hb2).keep h)
      have HS : Hid (∀ W, Below w2.heap.size w2 W → W.cell? ⟨b5, 0, none⟩ = some (.int .i64 m.a) ∧ W.cell? ⟨b5, 1, none⟩ = some (.int .i64 m.b) ∧ W.cell? ⟨b5, 2, none⟩ = some (.int .i64 m.l)) := Lib.hid (fun W h => by
        have h5 : b5 < w2.heap.size := Nat.lt_of_lt_of_le hb5c hb2.size
        exact ⟨((h.cell (p := ⟨b5, 0, none⟩) h5).trans (hb2.cell (p := ⟨b5, 0, none⟩) hb5c)).trans HSC.out.1, ((h.cell (p := ⟨b5, 1, none⟩) h5).trans (hb2.cell (p := ⟨b5, 1, none⟩) hb5c)).trans HSC.out.2.1, ((h.cell (p := ⟨b5, 2, none⟩) h5).trans (hb2.cell (p := ⟨b5, 2, none⟩) hb5c)).trans HSC.out.2.2⟩)
      have HBW2 := Lib.hid (below_on HBWC.out HBWC.out.size hb2)
      have HVX := Lib.hid hvx
      have HLX := Lib.hid hlx
      clear hvx hlx hb2 HRG HT HSC HBWC
      rcases HCASE.out with ⟨y0, hy0⟩ | hno
      · have HRR := Lib.hid (HRL.out y0 hy0)
        clear hy0 HCASE HRN HRL
        go_cut [10, 11] from 13 (fun y f ww => ∃ yv g8 cap8, y = .slice (some ⟨g8, 0, none⟩) k' cap8 ∧ f = .int .i64 0 ∧ Vals ww (some ⟨g8, 0, none⟩) (fl yv k') ∧ Least k' (t ++ [m]) yv ∧ Below w2.heap.size w2 ww)
        case first =>
          have b1 := below_on (Below.refl w2.heap.size w2).drew (Nat.le_refl _) (below_new w2.drew (.cells #[] 39))
          have b2 := below_on b1 b1.size (below_new (w2.drew.alloc (.cells #[] 39)) (.cells #[.int .i64 m.a, .int .i64 m.b, .int .i64 m.l] 39))
          have b3 := below_on (Below.refl w2.heap.size w2).drew (Nat.le_refl _) (below_new w2.drew (.cells #[.int .i64 m.a, .int .i64 m.b, .int .i64 m.l] 39))
          have b4 := below_on b3 b3.size (below_new (w2.drew.alloc (.cells #[.int .i64 m.a, .int .i64 m.b, .int .i64 m.l] 39)) (.cells #[] 39))
          have o1 := own_emp w2.drew w2.heap.size (Nat.le_refl _)
          have o2 := own_keep o1 (below_new (w2.drew.alloc (.cells #[] 39)) (.cells #[.int .i64 m.a, .int .i64 m.b, .int .i64 m.l] 39))
          have z1 : (w2.drew.alloc (.cells #[.int .i64 m.a, .int .i64 m.b, .int .i64 m.l] 39)).heap.size = w2.heap.size + 1 := by simp
          have z2 : (w2.drew.alloc (.cells #[] 39)).heap.size = w2.heap.size + 1 := by simp
          have o4 := own_emp (w2.drew.alloc (.cells #[.int .i64 m.a, .int .i64 m.b, .int .i64 m.l] 39)) w2.heap.size b3.size
          rw [z1] at o4
          have e2 : Blk 39 ((w2.drew.alloc (.cells #[] 39)).alloc (.cells #[.int .i64 m.a, .int .i64 m.b, .int .i64 m.l] 39)) (w2.heap.size + 1) (tieC m) := by rw [← z2]; exact Blk.new _ 39 (tieC m)
          have e3 : Blk 39 (w2.drew.alloc (.cells #[.int .i64 m.a, .int .i64 m.b, .int .i64 m.l] 39)) w2.drew.heap.size (tieC m) := Blk.new _ 39 (tieC m)
          have e4 := e3.keep (below_new (w2.drew.alloc (.cells #[.int .i64 m.a, .int .i64 m.b, .int .i64 m.l] 39)) (.cells #[] 39))
          have n2 : w2.heap.size + 1 ≠ w2.drew.heap.size := by simp
          have n4 : w2.drew.heap.size ≠ w2.heap.size + 1 := by simp
          have B1 := Lib.hid b1
          have B2 := Lib.hid b2
          have B3 := Lib.hid b3
          have B4 := Lib.hid b4
          have O1 := Lib.hid o1
          have O2 := Lib.hid o2
          have O4 := Lib.hid o4
          have E2 := Lib.hid e2
          have E4 := Lib.hid e4
          have N2 := Lib.hid n2
          have N4 := Lib.hid n4
          have hmx1 : 0 + Lt ≤ maxLen := by unfold maxLen; omega
          have hmb1 : (0 + Lt) * 24 ≤ 140737488355328 := by omega
          have hmx2 : Lt + 1 ≤ maxLen := by unfold maxLen; omega
          have hmb2 : (Lt + 1) * 24 ≤ 140737488355328 := by omega
          have z0 := (HS.out _ (Below.refl w2.heap.size w2).drew)
          clear b1 b2 b3 b4 o1 o2 o4 e2 e3 e4 n2 n4 z1 z2
          go_region_held_law (fun w' => w'.cell? ⟨b5, 0, none⟩ = some (.int .i64 m.a) ∧ w'.cell? ⟨b5, 1, none⟩ = some (.int .i64 m.b) ∧ w'.cell? ⟨b5, 2, none⟩ = some (.int .i64 m.l))
            (first | exact z0 | exact HS.out _ B1.out | exact HS.out _ B2.out | exact HS.out _ B3.out | exact HS.out _ B4.out | exact HS.out _ hb8 | exact HS.out _ hb7 | exact HS.out _ hb6 | exact HS.out _ hb5 | go_keep)
            (first
              | (refine step_own (by first | rfl | (simp [Region.wanted]) | (kernel_rfl)) (.tmp 38) (.tmp 39) 22 rfl w2.heap.size 39 i0 zTie 3 24 Try.underlying22 hi hz0 hz1 hz2 rfl (by decide) (.slice (some ⟨w2.drew.heap.size, 0, none⟩) 0 0) 0 [] rfl O1.out ⟨g, 0, none⟩ Lt cap (tc t) rfl HLT.out (vals_cells (HTK.out _ B1.out)) (tc_one t) hmx1 hmb1 B1.out.size ?_; intro v5 w5 hown5 hgr5 hne5; have hb5 := B1.out.grown hgr5 B1.out.size (by simp [Value.ownBlock]); have hn5 : v5 ≠ .slice none 0 0 := (fun e => by have := (hne5.1 e).1; cases this); have o5 := own_at hown5; have hb6 := below_on hb5 hb5.size (below_new w5 (.cells #[.int .i64 m.a, .int .i64 m.b, .int .i64 m.l] 39)); have o6 := own_keep o5 (below_new w5 (.cells #[.int .i64 m.a, .int .i64 m.b, .int .i64 m.l] 39)); have k6 : Blk 39 (w5.alloc (.cells #[.int .i64 m.a, .int .i64 m.b, .int .i64 m.l] 39)) w5.heap.size (tieC m) := Blk.new _ 39 (tieC m))
              | (refine step_own (by first | rfl | (simp [Region.wanted]) | (kernel_rfl)) (.tmp 38) (.tmp 39) 22 rfl w2.heap.size 39 i0 zTie 3 24 Try.underlying22 hi hz0 hz1 hz2 rfl (by decide) (.slice (some ⟨w2.drew.heap.size, 0, none⟩) 0 0) 0 [] rfl O2.out ⟨g, 0, none⟩ Lt cap (tc t) rfl HLT.out (vals_cells (HTK.out _ B2.out)) (tc_one t) hmx1 hmb1 B2.out.size ?_; intro v5 w5 hown5 hgr5 hne5; have hb5 := B2.out.grown hgr5 B2.out.size (by simp [Value.ownBlock]); have hn5 : v5 ≠ .slice none 0 0 := (fun e => by have := (hne5.1 e).1; cases this); have o5 := own_at hown5; have hb6 := hb5; have o6 := o5; have k6 := E2.out.grown hgr5 (nrow N2.out))
              | (refine step_own (by first | rfl | (simp [Region.wanted]) | (kernel_rfl)) (.tmp 38) (.tmp 39) 22 rfl w2.heap.size 39 i0 zTie 3 24 Try.underlying22 hi hz0 hz1 hz2 rfl (by decide) (.slice (some ⟨(w2.heap.size + 1), 0, none⟩) 0 0) 0 [] rfl O4.out ⟨g, 0, none⟩ Lt cap (tc t) rfl HLT.out (vals_cells (HTK.out _ B4.out)) (tc_one t) hmx1 hmb1 B4.out.size ?_; intro v5 w5 hown5 hgr5 hne5; have hb5 := B4.out.grown hgr5 B4.out.size (by simp [Value.ownBlock]); have hn5 : v5 ≠ .slice none 0 0 := (fun e => by have := (hne5.1 e).1; cases this); have o5 := own_at hown5; have hb6 := hb5; have o6 := o5; have k6 := E4.out.grown hgr5 (nrow N4.out))
              | (refine step_own (by first | rfl | (simp [Region.wanted]) | (kernel_rfl)) (.tmp 40) (.tmp 42) 22 rfl w2.heap.size 39 i0 zTie 3 24 Try.underlying22 hi hz0 hz1 hz2 rfl (by decide) v5 Lt (tc t) rfl o6 ⟨_, 0, none⟩ 1 1 (tieC m) rfl rfl (vals_cells k6.vals0) (tieC_one m) hmx2 hmb2 hb6.size ?_; intro v6 w6 hown6 hgr6 hne6; have hb7 := hb6.grown hgr6 hb6.size (own_far o6 hn5); obtain ⟨g6, cap6, rfl, hT6⟩ := own_row hown6 (fun e => hn5 (hne6.1 e).1))
              | (go_at_call 24; refine (HRR.out _ _ _ hT6).mono ?_; rintro e w8 ⟨y, g8, cap8, rfl, hvy, hly, hbx⟩; have hb8 := below_on hb7 hb7.size hbx))
          all_goals
            go_wp2_with (fail)
            go_meet
            case rel => exact ⟨y, g8, cap8, rfl, rfl, hvy, hly, hb8⟩
        case rest =>
        obtain ⟨yv, g8, cap8, rfl, rfl, hvy, hly, hbd2⟩ := hcut
        have HX := Lib.hid (Vals.keep HVX.out hbd2)
        have HY := Lib.hid hvy
        have HXY := Lib.hid (HLX.out.low yv (sol_init hly.sol))
        have hbw3 := below_on HBW2.out HBW2.out.size hbd2
        have HBW3 := Lib.hid hbw3
        have hne : ((k' : Int) != (k' : Int)) = false := by simp
        clear hvy hly hbd2 hbw3 HBW2 HVX HLX HRR HTK HS
        go_wp2_with (fail)
        go_loopw [12] (fun t w8 => ∃ j z : Nat, j ≤ k' ∧ t = .int .i64 (j : Int) ∧ w8 = wc.drewN z) (fun t _ => k' - (intOf t).toNat)
        case atStart => exact ⟨0, 0, Nat.zero_le _, rfl, rfl⟩
        case round =>
          obtain ⟨j, z, hj, rfl, rfl⟩ := hrel
          by_cases hlt : j < k'
          · obtain ⟨gx', ox, ex, _, hcx⟩ := fl_vals HX.out hlt
            obtain ⟨gy, oy, ey, _, hcy⟩ := fl_vals HY.out hlt
            injection ex with ex
            injection ex with ex1 ex2
            subst ex1 ex2
            injection ey with ey
            injection ey with ey1 ey2
            subst ey1 ey2
            rw [Nat.zero_add] at hcx hcy
            have hcmp : ¬ (yv j < x j) := by have := HXY.out j hlt; omega
            have hd : decide (yv j < x j) = false := by simpa using hcmp
            have hlt2 : (j : Int) < (k' : Int) := by omega
            clear hcmp
            generalize x j = xj at *
            generalize yv j = yj at *
            go_wp2_with (fail)
            go_quiet (fail)
            go_wp2_with (fail)
            go_roundw
            case rel => exact ⟨j + 1, _, by omega, by go_num, rfl⟩
            case measure => simp [intOf]; omega
          · obtain rfl : j = k' := by omega
            have hbz := below_drewN HBW3.out z
            clear HX HY HXY HBW3
            go_wp2_with (go_at_call 26; refine (lives_any _).mono ?_; rintro e w9 ⟨rfl, hb9⟩)
            go_ret
            exact ⟨rfl, below_on hbz hbz.size hb9⟩
      · have HRR := Lib.hid (HRN.out hno)
        clear hno HCASE HRN HRL HVX HLX
        go_cut [10, 11] from 13 (fun y f ww => y = .slice none 0 0 ∧ f = .int .i64 6 ∧ Below w2.heap.size w2 ww)
        case first =>
          have b1 := below_on (Below.refl w2.heap.size w2).drew (Nat.le_refl _) (below_new w2.drew (.cells #[] 39))
          have b2 := below_on b1 b1.size (below_new (w2.drew.alloc (.cells #[] 39)) (.cells #[.int .i64 m.a, .int .i64 m.b, .int .i64 m.l] 39))
          have b3 := below_on (Below.refl w2.heap.size w2).drew (Nat.le_refl _) (below_new w2.drew (.cells #[.int .i64 m.a, .int .i64 m.b, .int .i64 m.l] 39))
          have b4 := below_on b3 b3.size (below_new (w2.drew.alloc (.cells #[.int .i64 m.a, .int .i64 m.b, .int .i64 m.l] 39)) (.cells #[] 39))
          have o1 := own_emp w2.drew w2.heap.size (Nat.le_refl _)
          have o2 := own_keep o1 (below_new (w2.drew.alloc (.cells #[] 39)) (.cells #[.int .i64 m.a, .int .i64 m.b, .int .i64 m.l] 39))
          have z1 : (w2.drew.alloc (.cells #[.int .i64 m.a, .int .i64 m.b, .int .i64 m.l] 39)).heap.size = w2.heap.size + 1 := by simp
          have z2 : (w2.drew.alloc (.cells #[] 39)).heap.size = w2.heap.size + 1 := by simp
          have o4 := own_emp (w2.drew.alloc (.cells #[.int .i64 m.a, .int .i64 m.b, .int .i64 m.l] 39)) w2.heap.size b3.size
          rw [z1] at o4
          have e2 : Blk 39 ((w2.drew.alloc (.cells #[] 39)).alloc (.cells #[.int .i64 m.a, .int .i64 m.b, .int .i64 m.l] 39)) (w2.heap.size + 1) (tieC m) := by rw [← z2]; exact Blk.new _ 39 (tieC m)
          have e3 : Blk 39 (w2.drew.alloc (.cells #[.int .i64 m.a, .int .i64 m.b, .int .i64 m.l] 39)) w2.drew.heap.size (tieC m) := Blk.new _ 39 (tieC m)
          have e4 := e3.keep (below_new (w2.drew.alloc (.cells #[.int .i64 m.a, .int .i64 m.b, .int .i64 m.l] 39)) (.cells #[] 39))
          have n2 : w2.heap.size + 1 ≠ w2.drew.heap.size := by simp
          have n4 : w2.drew.heap.size ≠ w2.heap.size + 1 := by simp
          have B1 := Lib.hid b1
          have B2 := Lib.hid b2
          have B3 := Lib.hid b3
          have B4 := Lib.hid b4
          have O1 := Lib.hid o1
          have O2 := Lib.hid o2
          have O4 := Lib.hid o4
          have E2 := Lib.hid e2
          have E4 := Lib.hid e4
          have N2 := Lib.hid n2
          have N4 := Lib.hid n4
          have hmx1 : 0 + Lt ≤ maxLen := by unfold maxLen; omega
          have hmb1 : (0 + Lt) * 24 ≤ 140737488355328 := by omega
          have hmx2 : Lt + 1 ≤ maxLen := by unfold maxLen; omega
          have hmb2 : (Lt + 1) * 24 ≤ 140737488355328 := by omega
          have z0 := (HS.out _ (Below.refl w2.heap.size w2).drew)
          clear b1 b2 b3 b4 o1 o2 o4 e2 e3 e4 n2 n4 z1 z2
          go_region_held_law (fun w' => w'.cell? ⟨b5, 0, none⟩ = some (.int .i64 m.a) ∧ w'.cell? ⟨b5, 1, none⟩ = some (.int .i64 m.b) ∧ w'.cell? ⟨b5, 2, none⟩ = some (.int .i64 m.l))
            (first | exact z0 | exact HS.out _ B1.out | exact HS.out _ B2.out | exact HS.out _ B3.out | exact HS.out _ B4.out | exact HS.out _ hb8 | exact HS.out _ hb7 | exact HS.out _ hb6 | exact HS.out _ hb5 | go_keep)
            (first
              | (refine step_own (by first | rfl | (simp [Region.wanted]) | (kernel_rfl)) (.tmp 38) (.tmp 39) 22 rfl w2.heap.size 39 i0 zTie 3 24 Try.underlying22 hi hz0 hz1 hz2 rfl (by decide) (.slice (some ⟨w2.drew.heap.size, 0, none⟩) 0 0) 0 [] rfl O1.out ⟨g, 0, none⟩ Lt cap (tc t) rfl HLT.out (vals_cells (HTK.out _ B1.out)) (tc_one t) hmx1 hmb1 B1.out.size ?_; intro v5 w5 hown5 hgr5 hne5; have hb5 := B1.out.grown hgr5 B1.out.size (by simp [Value.ownBlock]); have hn5 : v5 ≠ .slice none 0 0 := (fun e => by have := (hne5.1 e).1; cases this); have o5 := own_at hown5; have hb6 := below_on hb5 hb5.size (below_new w5 (.cells #[.int .i64 m.a, .int .i64 m.b, .int .i64 m.l] 39)); have o6 := own_keep o5 (below_new w5 (.cells #[.int .i64 m.a, .int .i64 m.b, .int .i64 m.l] 39)); have k6 : Blk 39 (w5.alloc (.cells #[.int .i64 m.a, .int .i64 m.b, .int .i64 m.l] 39)) w5.heap.size (tieC m) := Blk.new _ 39 (tieC m))
              | (refine step_own (by first | rfl | (simp [Region.wanted]) | (kernel_rfl)) (.tmp 38) (.tmp 39) 22 rfl w2.heap.size 39 i0 zTie 3 24 Try.underlying22 hi hz0 hz1 hz2 rfl (by decide) (.slice (some ⟨w2.drew.heap.size, 0, none⟩) 0 0) 0 [] rfl O2.out ⟨g, 0, none⟩ Lt cap (tc t) rfl HLT.out (vals_cells (HTK.out _ B2.out)) (tc_one t) hmx1 hmb1 B2.out.size ?_; intro v5 w5 hown5 hgr5 hne5; have hb5 := B2.out.grown hgr5 B2.out.size (by simp [Value.ownBlock]); have hn5 : v5 ≠ .slice none 0 0 := (fun e => by have := (hne5.1 e).1; cases this); have o5 := own_at hown5; have hb6 := hb5; have o6 := o5; have k6 := E2.out.grown hgr5 (nrow N2.out))
              | (refine step_own (by first | rfl | (simp [Region.wanted]) | (kernel_rfl)) (.tmp 38) (.tmp 39) 22 rfl w2.heap.size 39 i0 zTie 3 24 Try.underlying22 hi hz0 hz1 hz2 rfl (by decide) (.slice (some ⟨(w2.heap.size + 1), 0, none⟩) 0 0) 0 [] rfl O4.out ⟨g, 0, none⟩ Lt cap (tc t) rfl HLT.out (vals_cells (HTK.out _ B4.out)) (tc_one t) hmx1 hmb1 B4.out.size ?_; intro v5 w5 hown5 hgr5 hne5; have hb5 := B4.out.grown hgr5 B4.out.size (by simp [Value.ownBlock]); have hn5 : v5 ≠ .slice none 0 0 := (fun e => by have := (hne5.1 e).1; cases this); have o5 := own_at hown5; have hb6 := hb5; have o6 := o5; have k6 := E4.out.grown hgr5 (nrow N4.out))
              | (refine step_own (by first | rfl | (simp [Region.wanted]) | (kernel_rfl)) (.tmp 40) (.tmp 42) 22 rfl w2.heap.size 39 i0 zTie 3 24 Try.underlying22 hi hz0 hz1 hz2 rfl (by decide) v5 Lt (tc t) rfl o6 ⟨_, 0, none⟩ 1 1 (tieC m) rfl rfl (vals_cells k6.vals0) (tieC_one m) hmx2 hmb2 hb6.size ?_; intro v6 w6 hown6 hgr6 hne6; have hb7 := hb6.grown hgr6 hb6.size (own_far o6 hn5); obtain ⟨g6, cap6, rfl, hT6⟩ := own_row hown6 (fun e => hn5 (hne6.1 e).1))
              | (go_at_call 24; refine (HRR.out _ _ _ hT6).mono ?_; rintro e w8 ⟨rfl, hbx⟩; have hb8 := below_on hb7 hb7.size hbx))
          all_goals
            go_wp2_with (fail)
            go_meet
            case rel => exact ⟨rfl, rfl, hb8⟩
        case rest =>
        obtain ⟨rfl, rfl, hbd2⟩ := hcut
        have hbw3 := below_on HBW2.out HBW2.out.size hbd2
        clear hbd2 HBW2 HRR HTK HS
        go_wp2_with (go_at_call 26; refine (lives_any _).mono ?_; rintro e w9 ⟨rfl, hb9⟩)
        go_ret
        exact ⟨rfl, below_on hbw3 hbw3.size hb9⟩

    · have hrg := reg_none k' ⟨g, 0, none⟩ cap Lt t wc HT.out HLt.out.symm (by omega) hri hk2 hno0
      have HRG := Lib.hid hrg
      have HRR := Lib.hid (HRN.out (fun x hx => hno0 x (sol_init hx)))
      clear hrg hno0 hok hok2 hri hr hg HBD hbc HTK HS hcase hk' HRN HRL
      go_upto_region 5 with (go_at_call 24; refine (HRG.out).mono ?_; rintro e w2 ⟨rfl, hb2⟩)
      have HTK : Hid (∀ W, Below w2.heap.size w2 W → TiesAt W (some ⟨g, 0, none⟩) t) := Lib.hid (fun W h => (HT.out.keep hb2).keep h)
      have HS : Hid (∀ W, Below w2.heap.size w2 W → W.cell? ⟨b5, 0, none⟩ = some (.int .i64 m.a) ∧ W.cell? ⟨b5, 1, none⟩ = some (.int .i64 m.b) ∧ W.cell? ⟨b5, 2, none⟩ = some (.int .i64 m.l)) := Lib.hid (fun W h => by
        have h5 : b5 < w2.heap.size := Nat.lt_of_lt_of_le hb5c hb2.size
        exact ⟨((h.cell (p := ⟨b5, 0, none⟩) h5).trans (hb2.cell (p := ⟨b5, 0, none⟩) hb5c)).trans HSC.out.1, ((h.cell (p := ⟨b5, 1, none⟩) h5).trans (hb2.cell (p := ⟨b5, 1, none⟩) hb5c)).trans HSC.out.2.1, ((h.cell (p := ⟨b5, 2, none⟩) h5).trans (hb2.cell (p := ⟨b5, 2, none⟩) hb5c)).trans HSC.out.2.2⟩)
      have HBW2 := Lib.hid (below_on HBWC.out HBWC.out.size hb2)
      clear hb2 HRG HT HSC HBWC
      go_cut [10, 11] from 13 (fun y f ww => y = .slice none 0 0 ∧ f = .int .i64 6 ∧ Below w2.heap.size w2 ww)
      case first =>
        have b1 := below_on (Below.refl w2.heap.size w2).drew (Nat.le_refl _) (below_new w2.drew (.cells #[] 39))
        have b2 := below_on b1 b1.size (below_new (w2.drew.alloc (.cells #[] 39)) (.cells #[.int .i64 m.a, .int .i64 m.b, .int .i64 m.l] 39))
        have b3 := below_on (Below.refl w2.heap.size w2).drew (Nat.le_refl _) (below_new w2.drew (.cells #[.int .i64 m.a, .int .i64 m.b, .int .i64 m.l] 39))
        have b4 := below_on b3 b3.size (below_new (w2.drew.alloc (.cells #[.int .i64 m.a, .int .i64 m.b, .int .i64 m.l] 39)) (.cells #[] 39))
        have o1 := own_emp w2.drew w2.heap.size (Nat.le_refl _)
        have o2 := own_keep o1 (below_new (w2.drew.alloc (.cells #[] 39)) (.cells #[.int .i64 m.a, .int .i64 m.b, .int .i64 m.l] 39))
        have z1 : (w2.drew.alloc (.cells #[.int .i64 m.a, .int .i64 m.b, .int .i64 m.l] 39)).heap.size = w2.heap.size + 1 := by simp
        have z2 : (w2.drew.alloc (.cells #[] 39)).heap.size = w2.heap.size + 1 := by simp
        have o4 := own_emp (w2.drew.alloc (.cells #[.int .i64 m.a, .int .i64 m.b, .int .i64 m.l] 39)) w2.heap.size b3.size
        rw [z1] at o4
        have e2 : Blk 39 ((w2.drew.alloc (.cells #[] 39)).alloc (.cells #[.int .i64 m.a, .int .i64 m.b, .int .i64 m.l] 39)) (w2.heap.size + 1) (tieC m) := by rw [← z2]; exact Blk.new _ 39 (tieC m)
        have e3 : Blk 39 (w2.drew.alloc (.cells #[.int .i64 m.a, .int .i64 m.b, .int .i64 m.l] 39)) w2.drew.heap.size (tieC m) := Blk.new _ 39 (tieC m)
        have e4 := e3.keep (below_new (w2.drew.alloc (.cells #[.int .i64 m.a, .int .i64 m.b, .int .i64 m.l] 39)) (.cells #[] 39))
        have n2 : w2.heap.size + 1 ≠ w2.drew.heap.size := by simp
        have n4 : w2.drew.heap.size ≠ w2.heap.size + 1 := by simp
        have B1 := Lib.hid b1
        have B2 := Lib.hid b2
        have B3 := Lib.hid b3
        have B4 := Lib.hid b4
        have O1 := Lib.hid o1
        have O2 := Lib.hid o2
        have O4 := Lib.hid o4
        have E2 := Lib.hid e2
        have E4 := Lib.hid e4
        have N2 := Lib.hid n2
        have N4 := Lib.hid n4
        have hmx1 : 0 + Lt ≤ maxLen := by unfold maxLen; omega
        have hmb1 : (0 + Lt) * 24 ≤ 140737488355328 := by omega
        have hmx2 : Lt + 1 ≤ maxLen := by unfold maxLen; omega
        have hmb2 : (Lt + 1) * 24 ≤ 140737488355328 := by omega
        have z0 := (HS.out _ (Below.refl w2.heap.size w2).drew)
        clear b1 b2 b3 b4 o1 o2 o4 e2 e3 e4 n2 n4 z1 z2
        go_region_held_law (fun w' => w'.cell? ⟨b5, 0, none⟩ = some (.int .i64 m.a) ∧ w'.cell? ⟨b5, 1, none⟩ = some (.int .i64 m.b) ∧ w'.cell? ⟨b5, 2, none⟩ = some (.int .i64 m.l))
          (first | exact z0 | exact HS.out _ B1.out | exact HS.out _ B2.out | exact HS.out _ B3.out | exact HS.out _ B4.out | exact HS.out _ hb8 | exact HS.out _ hb7 | exact HS.out _ hb6 | exact HS.out _ hb5 | go_keep)
          (first
            | (refine step_own (by first | rfl | (simp [Region.wanted]) | (kernel_rfl)) (.tmp 38) (.tmp 39) 22 rfl w2.heap.size 39 i0 zTie 3 24 Try.underlying22 hi hz0 hz1 hz2 rfl (by decide) (.slice (some ⟨w2.drew.heap.size, 0, none⟩) 0 0) 0 [] rfl O1.out ⟨g, 0, none⟩ Lt cap (tc t) rfl HLT.out (vals_cells (HTK.out _ B1.out)) (tc_one t) hmx1 hmb1 B1.out.size ?_; intro v5 w5 hown5 hgr5 hne5; have hb5 := B1.out.grown hgr5 B1.out.size (by simp [Value.ownBlock]); have hn5 : v5 ≠ .slice none 0 0 := (fun e => by have := (hne5.1 e).1; cases this); have o5 := own_at hown5; have hb6 := below_on hb5 hb5.size (below_new w5 (.cells #[.int .i64 m.a, .int .i64 m.b, .int .i64 m.l] 39)); have o6 := own_keep o5 (below_new w5 (.cells #[.int .i64 m.a, .int .i64 m.b, .int .i64 m.l] 39)); have k6 : Blk 39 (w5.alloc (.cells #[.int .i64 m.a, .int .i64 m.b, .int .i64 m.l] 39)) w5.heap.size (tieC m) := Blk.new _ 39 (tieC m))
            | (refine step_own (by first | rfl | (simp [Region.wanted]) | (kernel_rfl)) (.tmp 38) (.tmp 39) 22 rfl w2.heap.size 39 i0 zTie 3 24 Try.underlying22 hi hz0 hz1 hz2 rfl (by decide) (.slice (some ⟨w2.drew.heap.size, 0, none⟩) 0 0) 0 [] rfl O2.out ⟨g, 0, none⟩ Lt cap (tc t) rfl HLT.out (vals_cells (HTK.out _ B2.out)) (tc_one t) hmx1 hmb1 B2.out.size ?_; intro v5 w5 hown5 hgr5 hne5; have hb5 := B2.out.grown hgr5 B2.out.size (by simp [Value.ownBlock]); have hn5 : v5 ≠ .slice none 0 0 := (fun e => by have := (hne5.1 e).1; cases this); have o5 := own_at hown5; have hb6 := hb5; have o6 := o5; have k6 := E2.out.grown hgr5 (nrow N2.out))
            | (refine step_own (by first | rfl | (simp [Region.wanted]) | (kernel_rfl)) (.tmp 38) (.tmp 39) 22 rfl w2.heap.size 39 i0 zTie 3 24 Try.underlying22 hi hz0 hz1 hz2 rfl (by decide) (.slice (some ⟨(w2.heap.size + 1), 0, none⟩) 0 0) 0 [] rfl O4.out ⟨g, 0, none⟩ Lt cap (tc t) rfl HLT.out (vals_cells (HTK.out _ B4.out)) (tc_one t) hmx1 hmb1 B4.out.size ?_; intro v5 w5 hown5 hgr5 hne5; have hb5 := B4.out.grown hgr5 B4.out.size (by simp [Value.ownBlock]); have hn5 : v5 ≠ .slice none 0 0 := (fun e => by have := (hne5.1 e).1; cases this); have o5 := own_at hown5; have hb6 := hb5; have o6 := o5; have k6 := E4.out.grown hgr5 (nrow N4.out))
            | (refine step_own (by first | rfl | (simp [Region.wanted]) | (kernel_rfl)) (.tmp 40) (.tmp 42) 22 rfl w2.heap.size 39 i0 zTie 3 24 Try.underlying22 hi hz0 hz1 hz2 rfl (by decide) v5 Lt (tc t) rfl o6 ⟨_, 0, none⟩ 1 1 (tieC m) rfl rfl (vals_cells k6.vals0) (tieC_one m) hmx2 hmb2 hb6.size ?_; intro v6 w6 hown6 hgr6 hne6; have hb7 := hb6.grown hgr6 hb6.size (own_far o6 hn5); obtain ⟨g6, cap6, rfl, hT6⟩ := own_row hown6 (fun e => hn5 (hne6.1 e).1))
            | (go_at_call 24; refine (HRR.out _ _ _ hT6).mono ?_; rintro e w8 ⟨rfl, hbx⟩; have hb8 := below_on hb7 hb7.size hbx))
        all_goals
          go_wp2_with (fail)
          go_meet
          case rel => exact ⟨rfl, rfl, hb8⟩
      case rest =>
      obtain ⟨rfl, rfl, hbd2⟩ := hcut
      have hbw3 := below_on HBW2.out HBW2.out.size hbd2
      clear hbd2 HBW2 HRR HTK HS
      go_wp2_with (go_at_call 26; refine (lives_any _).mono ?_; rintro e w9 ⟨rfl, hb9⟩)
      go_ret
      exact ⟨rfl, below_on hbw3 hbw3.size hb9⟩

end Go.Proofs.Ytpaemlkikkcjiaa
