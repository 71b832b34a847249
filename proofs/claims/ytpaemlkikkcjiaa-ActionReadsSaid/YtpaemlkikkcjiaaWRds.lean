/- The walk of ActionReads. -/
import Derived.Test.YtpaemlkikkcjiaaWRd
import Derived.Test.YtpaemlkikkcjiaaWMad
import Derived.Deep.CutRange
namespace Go.Proofs.Ytpaemlkikkcjiaa
open Go.RowKit

set_option maxHeartbeats 8000000 in
set_option maxRecDepth 100000 in
theorem actionReads_any (K0 sp : Int) (A : Option Addr) (n c : Nat) (l : List Rg) (key reg : Int) (w : World) (hA : RegsArg w A n c l) :
    Calls Try.prog 10 #[.agg #[.int .i64 K0, .int .i64 sp, .slice A n c], .int .i64 key, .int .i64 reg] w fun e w' => e = .returned (.bool true) ∧ Below w.heap.size w w' := by
  have hb0 := below_new w (.cells #[.int .i64 K0, .int .i64 sp, .slice A n c] 42)
  have hA1 : RegsArg (w.alloc (.cells #[.int .i64 K0, .int .i64 sp, .slice A n c] 42)) A n c l := ⟨Vals.keep hA.1 hb0, hA.2⟩
  have hmd := made_of K0 sp A n c l (w.alloc (.cells #[.int .i64 K0, .int .i64 sp, .slice A n c] 42)) hA1
  have hq : Blk 42 (w.alloc (.cells #[.int .i64 K0, .int .i64 sp, .slice A n c] 42)) w.heap.size [.int .i64 K0, .int .i64 sp, .slice A n c] := Blk.new w 42 _
  have c0 : (w.alloc (.cells #[.int .i64 K0, .int .i64 sp, .slice A n c] 42)).cell? ⟨w.heap.size, 0, none⟩ = some (.int .i64 K0) := hq.cell 0
  have c1 : (w.alloc (.cells #[.int .i64 K0, .int .i64 sp, .slice A n c] 42)).cell? ⟨w.heap.size, 1, none⟩ = some (.int .i64 sp) := hq.cell 1
  have c2 : (w.alloc (.cells #[.int .i64 K0, .int .i64 sp, .slice A n c] 42)).cell? ⟨w.heap.size, 2, none⟩ = some (.slice A n c) := hq.cell 2
  have hl5 : (l.take 5).length ≤ 5 := by rw [List.length_take]; omega
  have HMD := Lib.hid hmd
  have HB0 := Lib.hid hb0
  generalize l.take 5 = rs at *
  clear hmd hb0 hA hA1 hq
  go_enter Try.func10, Try.ntmps10
  go_upto_region 1 with (fail)
  generalize w.alloc (.cells #[.int .i64 K0, .int .i64 sp, .slice A n c] 42) = W at *
  go_wp2_with (go_at_call 36; refine (HMD.out).mono ?_; rintro e w1 ⟨g, cap, rfl, hV, hb1⟩; have hbx := hb1; refine unhide ?_)
  refine Lib.hid ?_
  clear c0 c1 c2 HMD
  go_upto_region 2 with (fail)
  have hq2 : Blk 42 (w1.alloc (.cells #[.int .i64 K0, .int .i64 sp, .slice (some ⟨g, 0, none⟩) rs.length cap] 42)) w1.heap.size [.int .i64 K0, .int .i64 sp, .slice (some ⟨g, 0, none⟩) rs.length cap] := Blk.new w1 42 _
  have hb2 := below_on HB0.out HB0.out.size (below_on hbx hbx.size (below_new w1 (.cells #[.int .i64 K0, .int .i64 sp, .slice (some ⟨g, 0, none⟩) rs.length cap] 42)))
  have hV2 := Vals.keep hV (below_new w1 (.cells #[.int .i64 K0, .int .i64 sp, .slice (some ⟨g, 0, none⟩) rs.length cap] 42))
  have HB2 := Lib.hid hb2
  have HQ2 := Lib.hid hq2
  have hnw := new_any K0 sp rs.length cap ⟨g, 0, none⟩ rs (w1.alloc (.cells #[.int .i64 K0, .int .i64 sp, .slice (some ⟨g, 0, none⟩) rs.length cap] 42)) hV2 rfl (by omega)
  have HNW := Lib.hid hnw
  have d0 : (w1.alloc (.cells #[.int .i64 K0, .int .i64 sp, .slice (some ⟨g, 0, none⟩) rs.length cap] 42)).cell? ⟨w1.heap.size, 0, none⟩ = some (.int .i64 K0) := hq2.cell 0
  have d1 : (w1.alloc (.cells #[.int .i64 K0, .int .i64 sp, .slice (some ⟨g, 0, none⟩) rs.length cap] 42)).cell? ⟨w1.heap.size, 1, none⟩ = some (.int .i64 sp) := hq2.cell 1
  have d2 : (w1.alloc (.cells #[.int .i64 K0, .int .i64 sp, .slice (some ⟨g, 0, none⟩) rs.length cap] 42)).cell? ⟨w1.heap.size, 2, none⟩ = some (.slice (some ⟨g, 0, none⟩) rs.length cap) := hq2.cell 2
  obtain ⟨q, hqq⟩ : ∃ q, q = w1.heap.size := ⟨_, rfl⟩
  clear hq2 hV hV2 hb2 hbx hb1 hnw HB0
  rw [← hqq] at d0 d1 d2 HQ2 ⊢
  clear hqq
  generalize w1.alloc (.cells #[.int .i64 K0, .int .i64 sp, .slice (some ⟨g, 0, none⟩) rs.length cap] 42) = W2 at *
  go_upto_region 3 with (go_at_call 38; refine (HNW.out).mono ?_; rintro e w3 ⟨hb3, ⟨_, rfl⟩ | ⟨K, p, gl, cl, gr, cr, _, rfl, hOK, rfl, _, _, _, hM⟩⟩)
  · have h3 := below_on HB2.out HB2.out.size hb3
    go_wp2_with (go_at_call 26; refine (lives_any _).mono ?_; rintro e w9 ⟨rfl, hb9⟩)
    go_ret
    exact ⟨rfl, below_on h3 h3.size hb9⟩
  · have h3 := below_on HB2.out HB2.out.size hb3
    have hq3 := HQ2.out.keep hb3
    have HB3 := Lib.hid h3
    have HM := Lib.hid hM
    have HOK := Lib.hid hOK
    have e0 : w3.cell? ⟨q, 0, none⟩ = some (.int .i64 (K : Int)) := hq3.cell 0
    have e2 : w3.cell? ⟨q, 2, none⟩ = some (.slice (some ⟨g, 0, none⟩) rs.length cap) := hq3.cell 2
    have hKn : (mkOf K sp rs).K = K := rfl
    have hNn : (mkOf K sp rs).N = rs.length := rfl
    have hk64 := hOK.k2
    rw [hKn] at hk64
    clear d0 d1 d2 h3 hq3 hM hOK hb3 HNW HQ2 HB2 hKn hNn
    obtain ⟨N, hN⟩ : ∃ N, N = rs.length := ⟨_, rfl⟩
    rw [← hN] at e2 hl5 ⊢
    have HN := Lib.hid hN
    clear hN
    obtain ⟨ik, hik⟩ : ∃ b, b = inB key 0 ((K : Int) - 1) := ⟨_, rfl⟩
    obtain ⟨ir, hir⟩ : ∃ b, b = inB reg 0 ((N : Int) - 1) := ⟨_, rfl⟩
    have HIK := Lib.hid hik
    have HIR := Lib.hid hir
    clear hik hir
    go_upto_region 5 with (fail)
    go_cut [10, 11] from 19 (fun a b ww => a = .bool ik ∧ b = .bool ir ∧ ∃ z, ww = w3.drewN z)
    case first =>
      by_cases Hk1 : 0 ≤ key
      · by_cases Hk2 : key < (K : Int)
        · by_cases Hr1 : 0 ≤ reg
          · by_cases Hr2 : reg < (N : Int)
            · have k1 : decide (0 ≤ key) = true := by simpa using Hk1
              have k2 : decide (key < (K : Int)) = true := by simpa using Hk2
              have r1 : decide (0 ≤ reg) = true := by simpa using Hr1
              have r2 : decide (reg < (N : Int)) = true := by simpa using Hr2
              have hb1 : ik = true := by rw [HIK.out]; unfold inB; simp; omega
              have hb2 : ir = true := by rw [HIR.out]; unfold inB; simp; omega
              have HB1 := Lib.hid hb1
              have HB2 := Lib.hid hb2
              clear hb1 hb2 Hk1 Hk2 Hr1 Hr2
              go_quiet (fail)
              go_wp2_with (fail)
              go_meet
              case rel => exact ⟨by rw [HB1.out], by rw [HB2.out], _, rfl⟩

            · have k1 : decide (0 ≤ key) = true := by simpa using Hk1
              have k2 : decide (key < (K : Int)) = true := by simpa using Hk2
              have r1 : decide (0 ≤ reg) = true := by simpa using Hr1
              have r2 : decide (reg < (N : Int)) = false := by simpa using Hr2
              have hb1 : ik = true := by rw [HIK.out]; unfold inB; simp; omega
              have hb2 : ir = false := by rw [HIR.out]; unfold inB; simp; omega
              have HB1 := Lib.hid hb1
              have HB2 := Lib.hid hb2
              clear hb1 hb2 Hk1 Hk2 Hr1 Hr2
              go_quiet (fail)
              go_wp2_with (fail)
              go_meet
              case rel => exact ⟨by rw [HB1.out], by rw [HB2.out], _, rfl⟩

          · have k1 : decide (0 ≤ key) = true := by simpa using Hk1
            have k2 : decide (key < (K : Int)) = true := by simpa using Hk2
            have r1 : decide (0 ≤ reg) = false := by simpa using Hr1
            have hb1 : ik = true := by rw [HIK.out]; unfold inB; simp; omega
            have hb2 : ir = false := by rw [HIR.out]; unfold inB; simp; omega
            have HB1 := Lib.hid hb1
            have HB2 := Lib.hid hb2
            clear hb1 hb2 Hk1 Hk2 Hr1 
            go_quiet (fail)
            go_wp2_with (fail)
            go_meet
            case rel => exact ⟨by rw [HB1.out], by rw [HB2.out], _, rfl⟩


        · by_cases Hr1 : 0 ≤ reg
          · by_cases Hr2 : reg < (N : Int)
            · have k1 : decide (0 ≤ key) = true := by simpa using Hk1
              have k2 : decide (key < (K : Int)) = false := by simpa using Hk2
              have r1 : decide (0 ≤ reg) = true := by simpa using Hr1
              have r2 : decide (reg < (N : Int)) = true := by simpa using Hr2
              have hb1 : ik = false := by rw [HIK.out]; unfold inB; simp; omega
              have hb2 : ir = true := by rw [HIR.out]; unfold inB; simp; omega
              have HB1 := Lib.hid hb1
              have HB2 := Lib.hid hb2
              clear hb1 hb2 Hk1 Hk2 Hr1 Hr2
              go_quiet (fail)
              go_wp2_with (fail)
              go_meet
              case rel => exact ⟨by rw [HB1.out], by rw [HB2.out], _, rfl⟩

            · have k1 : decide (0 ≤ key) = true := by simpa using Hk1
              have k2 : decide (key < (K : Int)) = false := by simpa using Hk2
              have r1 : decide (0 ≤ reg) = true := by simpa using Hr1
              have r2 : decide (reg < (N : Int)) = false := by simpa using Hr2
              have hb1 : ik = false := by rw [HIK.out]; unfold inB; simp; omega
              have hb2 : ir = false := by rw [HIR.out]; unfold inB; simp; omega
              have HB1 := Lib.hid hb1
              have HB2 := Lib.hid hb2
              clear hb1 hb2 Hk1 Hk2 Hr1 Hr2
              go_quiet (fail)
              go_wp2_with (fail)
              go_meet
              case rel => exact ⟨by rw [HB1.out], by rw [HB2.out], _, rfl⟩

          · have k1 : decide (0 ≤ key) = true := by simpa using Hk1
            have k2 : decide (key < (K : Int)) = false := by simpa using Hk2
            have r1 : decide (0 ≤ reg) = false := by simpa using Hr1
            have hb1 : ik = false := by rw [HIK.out]; unfold inB; simp; omega
            have hb2 : ir = false := by rw [HIR.out]; unfold inB; simp; omega
            have HB1 := Lib.hid hb1
            have HB2 := Lib.hid hb2
            clear hb1 hb2 Hk1 Hk2 Hr1 
            go_quiet (fail)
            go_wp2_with (fail)
            go_meet
            case rel => exact ⟨by rw [HB1.out], by rw [HB2.out], _, rfl⟩


      · by_cases Hr1 : 0 ≤ reg
        · by_cases Hr2 : reg < (N : Int)
          · have k1 : decide (0 ≤ key) = false := by simpa using Hk1
            have r1 : decide (0 ≤ reg) = true := by simpa using Hr1
            have r2 : decide (reg < (N : Int)) = true := by simpa using Hr2
            have hb1 : ik = false := by rw [HIK.out]; unfold inB; simp; omega
            have hb2 : ir = true := by rw [HIR.out]; unfold inB; simp; omega
            have HB1 := Lib.hid hb1
            have HB2 := Lib.hid hb2
            clear hb1 hb2 Hk1  Hr1 Hr2
            go_quiet (fail)
            go_wp2_with (fail)
            go_meet
            case rel => exact ⟨by rw [HB1.out], by rw [HB2.out], _, rfl⟩

          · have k1 : decide (0 ≤ key) = false := by simpa using Hk1
            have r1 : decide (0 ≤ reg) = true := by simpa using Hr1
            have r2 : decide (reg < (N : Int)) = false := by simpa using Hr2
            have hb1 : ik = false := by rw [HIK.out]; unfold inB; simp; omega
            have hb2 : ir = false := by rw [HIR.out]; unfold inB; simp; omega
            have HB1 := Lib.hid hb1
            have HB2 := Lib.hid hb2
            clear hb1 hb2 Hk1  Hr1 Hr2
            go_quiet (fail)
            go_wp2_with (fail)
            go_meet
            case rel => exact ⟨by rw [HB1.out], by rw [HB2.out], _, rfl⟩

        · have k1 : decide (0 ≤ key) = false := by simpa using Hk1
          have r1 : decide (0 ≤ reg) = false := by simpa using Hr1
          have hb1 : ik = false := by rw [HIK.out]; unfold inB; simp; omega
          have hb2 : ir = false := by rw [HIR.out]; unfold inB; simp; omega
          have HB1 := Lib.hid hb1
          have HB2 := Lib.hid hb2
          clear hb1 hb2 Hk1  Hr1 
          go_quiet (fail)
          go_wp2_with (fail)
          go_meet
          case rel => exact ⟨by rw [HB1.out], by rw [HB2.out], _, rfl⟩



    case rest =>
    obtain ⟨rfl, rfl, z0, rfl⟩ := hcut
    have hM3 := HM.out.drewN z0
    have hb4 := below_drewN HB3.out z0
    clear e0 e2 HM HB3
    generalize w3.drewN z0 = W3 at *
    have HM := Lib.hid hM3
    have HB3 := Lib.hid hb4
    clear hM3 hb4
    have HKC : Hid (∀ w, MacM w p gl cl gr cr (mkOf K sp rs) (msOf rs) → Calls Try.prog 47 #[.pointer (some ⟨p, 0, none⟩), .int .i64 key] w fun e w' => e = .returned (.tuple #[.int .i64 0, .int .i64 0, .int .i64 (if ik then 0 else 1)]) ∧ Below w.heap.size w w') := Lib.hid (fun w hM => by
      cases hk : inB key 0 ((K : Int) - 1) with
      | true =>
        obtain ⟨h1, h2⟩ := inB_t hk
        obtain ⟨k, rfl⟩ : ∃ k : Nat, key = (k : Int) := ⟨key.toNat, by omega⟩
        refine (key_ok w p gl cl gr cr k (mkOf K sp rs) (msOf rs) hM HOK.out (by show k < K; omega)).mono ?_
        rintro e w' ⟨rfl, z, rfl⟩
        exact ⟨by rw [HIK.out, hk]; rfl, below_drewN (Below.refl _ _) z⟩
      | false =>
        refine (key_bad w p gl cl gr cr key (mkOf K sp rs) (msOf rs) hM HOK.out hk).mono ?_
        rintro e w' ⟨rfl, z, rfl⟩
        exact ⟨by rw [HIK.out, hk]; rfl, below_drewN (Below.refl _ _) z⟩)
    have HOC : Hid (∀ w, MacM w p gl cl gr cr (mkOf K sp rs) (msOf rs) → Calls Try.prog 49 #[.pointer (some ⟨p, 0, none⟩), .int .i64 reg] w fun e w' => ∃ o, e = .returned (.tuple #[.bool o, .int .i64 (if ir then 0 else 1)]) ∧ Below w.heap.size w w') := Lib.hid (fun w hM => by
      cases hk : inB reg 0 ((N : Int) - 1) with
      | true =>
        obtain ⟨h1, h2⟩ := inB_t hk
        obtain ⟨k, rfl⟩ : ∃ k : Nat, reg = (k : Int) := ⟨reg.toNat, by omega⟩
        refine (on_ok w p gl cl gr cr k (mkOf K sp rs) (msOf rs) hM HOK.out (by show k < rs.length; have := HN.out; omega)).mono ?_
        rintro e w' ⟨rfl, z, rfl⟩
        exact ⟨_, by rw [HIR.out, hk]; rfl, below_drewN (Below.refl _ _) z⟩
      | false =>
        refine (on_bad w p gl cl gr cr reg (mkOf K sp rs) (msOf rs) hM HOK.out (by show inB reg 0 ((rs.length : Int) - 1) = false; rw [← HN.out]; exact hk)).mono ?_
        rintro e w' ⟨rfl, z, rfl⟩
        exact ⟨_, by rw [HIR.out, hk]; rfl, below_drewN (Below.refl _ _) z⟩)
    have HJC : Hid (∀ w, MacM w p gl cl gr cr (mkOf K sp rs) (msOf rs) → Calls Try.prog 48 #[.pointer (some ⟨p, 0, none⟩), .int .i64 key, .int .i64 reg] w fun e w' => e = .returned (.tuple #[.agg #[.bool false, .bool false, .int .i64 0], .int .i64 (if ik && ir then 0 else 1)]) ∧ Below w.heap.size w w') := Lib.hid (fun w hM => by
      cases hk : (inB key 0 ((K : Int) - 1) && inB reg 0 ((N : Int) - 1)) with
      | true =>
        have hk' := hk
        simp only [Bool.and_eq_true] at hk'
        obtain ⟨h1, h2⟩ := inB_t hk'.1
        obtain ⟨h3, h4⟩ := inB_t hk'.2
        obtain ⟨k, rfl⟩ : ∃ k : Nat, key = (k : Int) := ⟨key.toNat, by omega⟩
        obtain ⟨r, rfl⟩ : ∃ r : Nat, reg = (r : Int) := ⟨reg.toNat, by omega⟩
        refine (jack_ok w p gl cl gr cr k r (mkOf K sp rs) (msOf rs) hM HOK.out (by show k < K; omega) (by show r < rs.length; have := HN.out; omega)).mono ?_
        rintro e w' ⟨rfl, hb⟩
        exact ⟨by rw [HIK.out, HIR.out, hk]; rfl, hb⟩
      | false =>
        refine (jack_bad w p gl cl gr cr key reg (mkOf K sp rs) (msOf rs) hM HOK.out (by show (inB key 0 ((K : Int) - 1) && inB reg 0 ((rs.length : Int) - 1)) = false; rw [← HN.out]; exact hk)).mono ?_
        rintro e w' ⟨rfl, hb⟩
        exact ⟨by rw [HIK.out, HIR.out, hk]; rfl, hb⟩)
    clear HIK HIR HOK
    cases ik <;> cases ir
    all_goals
      go_wp2_with (first
        | (go_at_call 47; refine (HKC.out _ HM.out).mono ?_; rintro e w4 ⟨rfl, hb4⟩; have hM4 := HM.out.keep hb4)
        | (go_at_call 48; refine (HJC.out _ hM4).mono ?_; rintro e w5 ⟨rfl, hb5⟩; have hM5 := hM4.keep (hb5.trans (below_new w5 (.cells #[.bool false, .bool false, .int .i64 0] 74) |>.mono hb5.size)))
        | (go_at_call 49; refine (HOC.out _ hM5).mono ?_; rintro e w6 ⟨o, rfl, hb6⟩; have hj : Blk 74 w6 w5.heap.size [.bool false, .bool false, .int .i64 0] := (Blk.new w5 74 [.bool false, .bool false, .int .i64 0]).keep hb6; have j0 : w6.cell? ⟨w5.heap.size, 0, none⟩ = some (.bool false) := hj.cell 0; have j1 : w6.cell? ⟨w5.heap.size, 1, none⟩ = some (.bool false) := hj.cell 1; have j2 : w6.cell? ⟨w5.heap.size, 2, none⟩ = some (.int .i64 0) := hj.cell 2)
        | (go_at_call 26; refine (lives_any _).mono ?_; rintro e w9 ⟨rfl, hb9⟩))
    all_goals
      have x4 := below_on HB3.out HB3.out.size hb4
      have x5 := below_on x4 x4.size hb5
      have x6 := below_on x5 x5.size (below_new w5 (.cells #[.bool false, .bool false, .int .i64 0] 74))
      have x7 := below_on x6 x6.size hb6
      go_ret
      exact ⟨rfl, below_on x7 x7.size hb9⟩
end Go.Proofs.Ytpaemlkikkcjiaa
