/- Part of the proof of WireStrings: ZStrW. -/
import Derived.Test.YthgekjkgfccnaaaGreatPartG
namespace Go.Proofs.YthgekjkgfccnaaaGreat
open Go.RowKit Num

theorem Blk.six {T : TypeId} {w : World} {g : Nat} {a b c d e f : Value} (h : Blk T w g [a, b, c, d, e, f]) :
    w.cell? ⟨g, 0, none⟩ = some a ∧ w.cell? ⟨g, 1, none⟩ = some b ∧ w.cell? ⟨g, 2, none⟩ = some c ∧ w.cell? ⟨g, 3, none⟩ = some d ∧ w.cell? ⟨g, 4, none⟩ = some e ∧ w.cell? ⟨g, 5, none⟩ = some f :=
  ⟨h.cell 0, h.cell 1, h.cell 2, h.cell 3, h.cell 4, h.cell 5⟩
theorem inB_nat {x : Int} {K : Nat} (h : inB x 1 (K : Int) = true) : ∃ n : Nat, x = (n : Int) ∧ 1 ≤ n ∧ n ≤ K := by
  have := inB_t h
  exact ⟨x.toNat, by omega, by omega, by omega⟩
set_option maxHeartbeats 4000000 in
set_option maxRecDepth 100000 in
theorem strings_sd (x0 x1 x2 x3 x4 x5 : Int) (w : World) (h0 : inB x0 1 30000 = false) : Calls Tryz.prog 3 #[.agg #[.int .i64 x0, .int .i64 x1, .int .i64 x2, .int .i64 x3, .int .i64 x4, .int .i64 x5]] w (LivesPost w) := by
  have hT := fun w1 => Tension_bad x0 x2 x3 x4 w1 (by rw [h0]; simp)
  have hS := fun w1 => Stress_bad x0 x3 x4 w1 (by rw [h0]; simp)
  have hH := fun w1 => Holds_bad x0 x1 x3 x4 x5 w1 (by first | (unfold strongB; rw [h0]; simp) | (rw [h0]; simp))
  have r0 := fun w1 => refDensity_any x0 w1
  rw [h0] at r0
  have kb0 : Blk 23 (w.alloc (.cells #[.int .i64 x0, .int .i64 x1, .int .i64 x2, .int .i64 x3, .int .i64 x4, .int .i64 x5] 23)) w.heap.size [.int .i64 x0, .int .i64 x1, .int .i64 x2, .int .i64 x3, .int .i64 x4, .int .i64 x5] := Blk.new w 23 [.int .i64 x0, .int .i64 x1, .int .i64 x2, .int .i64 x3, .int .i64 x4, .int .i64 x5]
  have b0 := below_new w (.cells #[.int .i64 x0, .int .i64 x1, .int .i64 x2, .int .i64 x3, .int .i64 x4, .int .i64 x5] 23)
  have hli := fun w1 => lives_any w1
  have HT := Lib.hid hT
  have HS := Lib.hid hS
  have HH := Lib.hid hH
  have HLI := Lib.hid hli
  have R0 := Lib.hid r0
  clear hT hS hH hli r0 h0
  go_enter Tryz.func3, Tryz.ntmps3
  go_wp2_with (fail)
  refine (HT.out _).mono ?_
  rintro e w1 ⟨rfl, hb1⟩
  have b1 := below_on b0 b0.size hb1
  have kb1 := kb0.keep hb1
  obtain ⟨c10, c11, c12, c13, c14, c15⟩ := kb1.six
  go_wp2_with (fail)
  refine (HS.out _).mono ?_
  rintro e w2 ⟨rfl, hb2⟩
  have b2 := below_on b1 b1.size hb2
  have kb2 := kb1.keep hb2
  obtain ⟨c20, c21, c22, c23, c24, c25⟩ := kb2.six
  clear c10 c11 c12 c13 c14 c15
  go_wp2_with (fail)
  refine (HH.out _).mono ?_
  rintro e w3 ⟨rfl, hb3⟩
  have b3 := below_on b2 b2.size hb3
  have kb3 := kb2.keep hb3
  obtain ⟨c30, c31, c32, c33, c34, c35⟩ := kb3.six
  clear c20 c21 c22 c23 c24 c25
  go_wp2_with (fail)
  refine (R0.out _).mono ?_
  rintro e w4 ⟨rfl, rfl⟩
  go_wp2_with (fail)
  refine (HLI.out _).mono ?_
  rintro e w5 ⟨rfl, hb5⟩
  go_wp2
  go_ret
  exact ⟨rfl, below_on b3 b3.size hb5⟩

set_option maxHeartbeats 4000000 in
set_option maxRecDepth 100000 in
theorem strings_sl (x0 x1 x2 x3 x4 x5 : Int) (w : World) (h0 : inB x0 1 30000 = true) (h3 : inB x3 1 100000 = false) : Calls Tryz.prog 3 #[.agg #[.int .i64 x0, .int .i64 x1, .int .i64 x2, .int .i64 x3, .int .i64 x4, .int .i64 x5]] w (LivesPost w) := by
  have hT := fun w1 => Tension_bad x0 x2 x3 x4 w1 (by rw [h3]; simp)
  have hS := fun w1 => Stress_bad x0 x3 x4 w1 (by rw [h3]; simp)
  have hH := fun w1 => Holds_bad x0 x1 x3 x4 x5 w1 (by first | (unfold strongB; rw [h3]; simp) | (rw [h3]; simp))
  have r0 := fun w1 => refDensity_any x0 w1
  rw [h0] at r0
  have r1 := fun w1 => refLength_any x3 w1
  rw [h3] at r1
  have kb0 : Blk 23 (w.alloc (.cells #[.int .i64 x0, .int .i64 x1, .int .i64 x2, .int .i64 x3, .int .i64 x4, .int .i64 x5] 23)) w.heap.size [.int .i64 x0, .int .i64 x1, .int .i64 x2, .int .i64 x3, .int .i64 x4, .int .i64 x5] := Blk.new w 23 [.int .i64 x0, .int .i64 x1, .int .i64 x2, .int .i64 x3, .int .i64 x4, .int .i64 x5]
  have b0 := below_new w (.cells #[.int .i64 x0, .int .i64 x1, .int .i64 x2, .int .i64 x3, .int .i64 x4, .int .i64 x5] 23)
  have hli := fun w1 => lives_any w1
  have HT := Lib.hid hT
  have HS := Lib.hid hS
  have HH := Lib.hid hH
  have HLI := Lib.hid hli
  have R0 := Lib.hid r0
  have R1 := Lib.hid r1
  clear hT hS hH hli r0 r1 h0 h3
  go_enter Tryz.func3, Tryz.ntmps3
  go_wp2_with (fail)
  refine (HT.out _).mono ?_
  rintro e w1 ⟨rfl, hb1⟩
  have b1 := below_on b0 b0.size hb1
  have kb1 := kb0.keep hb1
  obtain ⟨c10, c11, c12, c13, c14, c15⟩ := kb1.six
  go_wp2_with (fail)
  refine (HS.out _).mono ?_
  rintro e w2 ⟨rfl, hb2⟩
  have b2 := below_on b1 b1.size hb2
  have kb2 := kb1.keep hb2
  obtain ⟨c20, c21, c22, c23, c24, c25⟩ := kb2.six
  clear c10 c11 c12 c13 c14 c15
  go_wp2_with (fail)
  refine (HH.out _).mono ?_
  rintro e w3 ⟨rfl, hb3⟩
  have b3 := below_on b2 b2.size hb3
  have kb3 := kb2.keep hb3
  obtain ⟨c30, c31, c32, c33, c34, c35⟩ := kb3.six
  clear c20 c21 c22 c23 c24 c25
  go_wp2_with (fail)
  refine (R0.out _).mono ?_
  rintro e w4 ⟨rfl, rfl⟩
  go_wp2_with (fail)
  refine (R1.out _).mono ?_
  rintro e w4 ⟨rfl, rfl⟩
  go_wp2_with (fail)
  refine (HLI.out _).mono ?_
  rintro e w5 ⟨rfl, hb5⟩
  go_wp2
  go_ret
  exact ⟨rfl, below_on b3 b3.size hb5⟩

set_option maxHeartbeats 4000000 in
set_option maxRecDepth 100000 in
theorem strings_sf_ (x0 x1 x2 x3 x4 x5 : Int) (w : World) (h0 : inB x0 1 30000 = true) (h3 : inB x3 1 100000 = true) (h4 : inB x4 1 10000000 = false) : Calls Tryz.prog 3 #[.agg #[.int .i64 x0, .int .i64 x1, .int .i64 x2, .int .i64 x3, .int .i64 x4, .int .i64 x5]] w (LivesPost w) := by
  have hT := fun w1 => Tension_bad x0 x2 x3 x4 w1 (by rw [h4]; simp)
  have hS := fun w1 => Stress_bad x0 x3 x4 w1 (by rw [h4]; simp)
  have hH := fun w1 => Holds_bad x0 x1 x3 x4 x5 w1 (by first | (unfold strongB; rw [h4]; simp) | (rw [h4]; simp))
  have r0 := fun w1 => refDensity_any x0 w1
  rw [h0] at r0
  have r1 := fun w1 => refLength_any x3 w1
  rw [h3] at r1
  have r2 := fun w1 => refFreq_any x4 w1
  rw [h4] at r2
  have kb0 : Blk 23 (w.alloc (.cells #[.int .i64 x0, .int .i64 x1, .int .i64 x2, .int .i64 x3, .int .i64 x4, .int .i64 x5] 23)) w.heap.size [.int .i64 x0, .int .i64 x1, .int .i64 x2, .int .i64 x3, .int .i64 x4, .int .i64 x5] := Blk.new w 23 [.int .i64 x0, .int .i64 x1, .int .i64 x2, .int .i64 x3, .int .i64 x4, .int .i64 x5]
  have b0 := below_new w (.cells #[.int .i64 x0, .int .i64 x1, .int .i64 x2, .int .i64 x3, .int .i64 x4, .int .i64 x5] 23)
  have hli := fun w1 => lives_any w1
  have HT := Lib.hid hT
  have HS := Lib.hid hS
  have HH := Lib.hid hH
  have HLI := Lib.hid hli
  have R0 := Lib.hid r0
  have R1 := Lib.hid r1
  have R2 := Lib.hid r2
  clear hT hS hH hli r0 r1 r2 h0 h3 h4
  go_enter Tryz.func3, Tryz.ntmps3
  go_wp2_with (fail)
  refine (HT.out _).mono ?_
  rintro e w1 ⟨rfl, hb1⟩
  have b1 := below_on b0 b0.size hb1
  have kb1 := kb0.keep hb1
  obtain ⟨c10, c11, c12, c13, c14, c15⟩ := kb1.six
  go_wp2_with (fail)
  refine (HS.out _).mono ?_
  rintro e w2 ⟨rfl, hb2⟩
  have b2 := below_on b1 b1.size hb2
  have kb2 := kb1.keep hb2
  obtain ⟨c20, c21, c22, c23, c24, c25⟩ := kb2.six
  clear c10 c11 c12 c13 c14 c15
  go_wp2_with (fail)
  refine (HH.out _).mono ?_
  rintro e w3 ⟨rfl, hb3⟩
  have b3 := below_on b2 b2.size hb3
  have kb3 := kb2.keep hb3
  obtain ⟨c30, c31, c32, c33, c34, c35⟩ := kb3.six
  clear c20 c21 c22 c23 c24 c25
  go_wp2_with (fail)
  refine (R0.out _).mono ?_
  rintro e w4 ⟨rfl, rfl⟩
  go_wp2_with (fail)
  refine (R1.out _).mono ?_
  rintro e w4 ⟨rfl, rfl⟩
  go_wp2_with (fail)
  refine (R2.out _).mono ?_
  rintro e w4 ⟨rfl, rfl⟩
  go_wp2_with (fail)
  refine (HLI.out _).mono ?_
  rintro e w5 ⟨rfl, hb5⟩
  go_wp2
  go_ret
  exact ⟨rfl, below_on b3 b3.size hb5⟩

set_option maxHeartbeats 4000000 in
set_option maxRecDepth 100000 in
theorem strings_b00 (d : Nat) (l : Nat) (f : Nat) (wd : Int) (s : Int) (sf : Int) (w : World) (hd : InD d) (hl : InL l) (hf : InF f) (hw : inB wd 1 2000 = false) (hs : inB s 1 100000 = false) : Calls Tryz.prog 3 #[.agg #[.int .i64 (d : Int), .int .i64 s, .int .i64 wd, .int .i64 (l : Int), .int .i64 (f : Int), .int .i64 sf]] w (LivesPost w) := by
  have hT := fun w1 => Tension_bad d wd l f w1 (by rw [hw]; simp)
  have hS := fun w1 => Stress_ok d l f w1 hd hl hf
  have hH := fun w1 => Holds_bad d s l f sf w1 (by unfold strongB; rw [hs]; simp)
  have r0 := fun w1 => refDensity_any d w1
  rw [inB_of (by have := hd.lo; have := hd.hi; omega)] at r0
  have r1 := fun w1 => refLength_any l w1
  rw [inB_of (by have := hl.lo; have := hl.hi; omega)] at r1
  have r2 := fun w1 => refFreq_any f w1
  rw [inB_of (by have := hf.lo; have := hf.hi; omega)] at r2
  have r3 := fun w1 => refDiameter_any wd w1
  rw [hw] at r3
  have r4 := fun w1 => refStrength_any s w1
  rw [hs] at r4
  have r6 := fun w1 => refStress_any d l f w1 hd hl hf
  generalize stressN d l f = ps at *
  have kb0 : Blk 23 (w.alloc (.cells #[.int .i64 (d : Int), .int .i64 s, .int .i64 wd, .int .i64 (l : Int), .int .i64 (f : Int), .int .i64 sf] 23)) w.heap.size [.int .i64 (d : Int), .int .i64 s, .int .i64 wd, .int .i64 (l : Int), .int .i64 (f : Int), .int .i64 sf] := Blk.new w 23 [.int .i64 (d : Int), .int .i64 s, .int .i64 wd, .int .i64 (l : Int), .int .i64 (f : Int), .int .i64 sf]
  have b0 := below_new w (.cells #[.int .i64 (d : Int), .int .i64 s, .int .i64 wd, .int .i64 (l : Int), .int .i64 (f : Int), .int .i64 sf] 23)
  have hli := fun w1 => lives_any w1
  have HT := Lib.hid hT
  have HS := Lib.hid hS
  have HH := Lib.hid hH
  have HLI := Lib.hid hli
  have R0 := Lib.hid r0
  have R1 := Lib.hid r1
  have R2 := Lib.hid r2
  have R3 := Lib.hid r3
  have R4 := Lib.hid r4
  have R6 := Lib.hid r6
  clear hT hS hH hli r0 r1 r2 r3 r4 r6 hd hl hf hw hs
  go_enter Tryz.func3, Tryz.ntmps3
  go_wp2_with (fail)
  refine (HT.out _).mono ?_
  rintro e w1 ⟨rfl, hb1⟩
  have b1 := below_on b0 b0.size hb1
  have kb1 := kb0.keep hb1
  obtain ⟨c10, c11, c12, c13, c14, c15⟩ := kb1.six
  go_wp2_with (fail)
  refine (HS.out _).mono ?_
  rintro e w2 ⟨rfl, hb2⟩
  have b2 := below_on b1 b1.size hb2
  have kb2 := kb1.keep hb2
  obtain ⟨c20, c21, c22, c23, c24, c25⟩ := kb2.six
  clear c10 c11 c12 c13 c14 c15
  go_wp2_with (fail)
  refine (HH.out _).mono ?_
  rintro e w3 ⟨rfl, hb3⟩
  have b3 := below_on b2 b2.size hb3
  have kb3 := kb2.keep hb3
  obtain ⟨c30, c31, c32, c33, c34, c35⟩ := kb3.six
  clear c20 c21 c22 c23 c24 c25
  go_wp2_with (fail)
  refine (R0.out _).mono ?_
  rintro e w4 ⟨rfl, rfl⟩
  go_wp2_with (fail)
  refine (R1.out _).mono ?_
  rintro e w4 ⟨rfl, rfl⟩
  go_wp2_with (fail)
  refine (R2.out _).mono ?_
  rintro e w4 ⟨rfl, rfl⟩
  go_wp2_with (fail)
  refine (R6.out _).mono ?_
  rintro e w4 ⟨rfl, hb4⟩
  have b4 := below_on b3 b3.size hb4
  have kb4 := kb3.keep hb4
  obtain ⟨c40, c41, c42, c43, c44, c45⟩ := kb4.six
  clear c30 c31 c32 c33 c34 c35
  go_wp2_with (fail)
  refine (R3.out _).mono ?_
  rintro e w5 ⟨rfl, rfl⟩
  go_wp2_with (fail)
  refine (R4.out _).mono ?_
  rintro e w6 ⟨rfl, rfl⟩
  go_wp2_with (fail)
  refine (HLI.out _).mono ?_
  rintro e w9 ⟨rfl, hb9⟩
  go_wp2
  go_ret
  exact ⟨rfl, below_on b4 b4.size hb9⟩

set_option maxHeartbeats 4000000 in
set_option maxRecDepth 100000 in
theorem strings_b01 (d : Nat) (l : Nat) (f : Nat) (wd : Int) (s : Nat) (sf : Int) (w : World) (hd : InD d) (hl : InL l) (hf : InF f) (hw : inB wd 1 2000 = false) (hs : InS s) (hp : inB sf 1 100 = false) : Calls Tryz.prog 3 #[.agg #[.int .i64 (d : Int), .int .i64 (s : Int), .int .i64 wd, .int .i64 (l : Int), .int .i64 (f : Int), .int .i64 sf]] w (LivesPost w) := by
  have hT := fun w1 => Tension_bad d wd l f w1 (by rw [hw]; simp)
  have hS := fun w1 => Stress_ok d l f w1 hd hl hf
  have hH := fun w1 => Holds_bad d s l f sf w1 (by unfold strongB; rw [hp]; simp)
  have r0 := fun w1 => refDensity_any d w1
  rw [inB_of (by have := hd.lo; have := hd.hi; omega)] at r0
  have r1 := fun w1 => refLength_any l w1
  rw [inB_of (by have := hl.lo; have := hl.hi; omega)] at r1
  have r2 := fun w1 => refFreq_any f w1
  rw [inB_of (by have := hf.lo; have := hf.hi; omega)] at r2
  have r3 := fun w1 => refDiameter_any wd w1
  rw [hw] at r3
  have r4 := fun w1 => refStrength_any s w1
  rw [inB_of (by have := hs.lo; have := hs.hi; omega)] at r4
  have r5 := fun w1 => refSafety_any sf w1
  rw [hp] at r5
  have r6 := fun w1 => refStress_any d l f w1 hd hl hf
  generalize stressN d l f = ps at *
  have kb0 : Blk 23 (w.alloc (.cells #[.int .i64 (d : Int), .int .i64 (s : Int), .int .i64 wd, .int .i64 (l : Int), .int .i64 (f : Int), .int .i64 sf] 23)) w.heap.size [.int .i64 (d : Int), .int .i64 (s : Int), .int .i64 wd, .int .i64 (l : Int), .int .i64 (f : Int), .int .i64 sf] := Blk.new w 23 [.int .i64 (d : Int), .int .i64 (s : Int), .int .i64 wd, .int .i64 (l : Int), .int .i64 (f : Int), .int .i64 sf]
  have b0 := below_new w (.cells #[.int .i64 (d : Int), .int .i64 (s : Int), .int .i64 wd, .int .i64 (l : Int), .int .i64 (f : Int), .int .i64 sf] 23)
  have hli := fun w1 => lives_any w1
  have HT := Lib.hid hT
  have HS := Lib.hid hS
  have HH := Lib.hid hH
  have HLI := Lib.hid hli
  have R0 := Lib.hid r0
  have R1 := Lib.hid r1
  have R2 := Lib.hid r2
  have R3 := Lib.hid r3
  have R4 := Lib.hid r4
  have R5 := Lib.hid r5
  have R6 := Lib.hid r6
  clear hT hS hH hli r0 r1 r2 r3 r4 r5 r6 hd hl hf hw hs hp
  go_enter Tryz.func3, Tryz.ntmps3
  go_wp2_with (fail)
  refine (HT.out _).mono ?_
  rintro e w1 ⟨rfl, hb1⟩
  have b1 := below_on b0 b0.size hb1
  have kb1 := kb0.keep hb1
  obtain ⟨c10, c11, c12, c13, c14, c15⟩ := kb1.six
  go_wp2_with (fail)
  refine (HS.out _).mono ?_
  rintro e w2 ⟨rfl, hb2⟩
  have b2 := below_on b1 b1.size hb2
  have kb2 := kb1.keep hb2
  obtain ⟨c20, c21, c22, c23, c24, c25⟩ := kb2.six
  clear c10 c11 c12 c13 c14 c15
  go_wp2_with (fail)
  refine (HH.out _).mono ?_
  rintro e w3 ⟨rfl, hb3⟩
  have b3 := below_on b2 b2.size hb3
  have kb3 := kb2.keep hb3
  obtain ⟨c30, c31, c32, c33, c34, c35⟩ := kb3.six
  clear c20 c21 c22 c23 c24 c25
  go_wp2_with (fail)
  refine (R0.out _).mono ?_
  rintro e w4 ⟨rfl, rfl⟩
  go_wp2_with (fail)
  refine (R1.out _).mono ?_
  rintro e w4 ⟨rfl, rfl⟩
  go_wp2_with (fail)
  refine (R2.out _).mono ?_
  rintro e w4 ⟨rfl, rfl⟩
  go_wp2_with (fail)
  refine (R6.out _).mono ?_
  rintro e w4 ⟨rfl, hb4⟩
  have b4 := below_on b3 b3.size hb4
  have kb4 := kb3.keep hb4
  obtain ⟨c40, c41, c42, c43, c44, c45⟩ := kb4.six
  clear c30 c31 c32 c33 c34 c35
  go_wp2_with (fail)
  refine (R3.out _).mono ?_
  rintro e w5 ⟨rfl, rfl⟩
  go_wp2_with (fail)
  refine (R4.out _).mono ?_
  rintro e w6 ⟨rfl, rfl⟩
  go_wp2_with (fail)
  refine (R5.out _).mono ?_
  rintro e w6 ⟨rfl, rfl⟩
  go_wp2_with (fail)
  refine (HLI.out _).mono ?_
  rintro e w9 ⟨rfl, hb9⟩
  go_wp2
  go_ret
  exact ⟨rfl, below_on b4 b4.size hb9⟩

set_option maxHeartbeats 4000000 in
set_option maxRecDepth 100000 in
theorem strings_b02 (d : Nat) (l : Nat) (f : Nat) (wd : Int) (s : Nat) (sf : Nat) (w : World) (hd : InD d) (hl : InL l) (hf : InF f) (hw : inB wd 1 2000 = false) (hs : InS s) (hp : InP sf) : Calls Tryz.prog 3 #[.agg #[.int .i64 (d : Int), .int .i64 (s : Int), .int .i64 wd, .int .i64 (l : Int), .int .i64 (f : Int), .int .i64 (sf : Int)]] w (LivesPost w) := by
  have hT := fun w1 => Tension_bad d wd l f w1 (by rw [hw]; simp)
  have hS := fun w1 => Stress_ok d l f w1 hd hl hf
  have hH := fun w1 => Holds_ok d s l f sf w1 hd hs hl hf hp
  have r0 := fun w1 => refDensity_any d w1
  rw [inB_of (by have := hd.lo; have := hd.hi; omega)] at r0
  have r1 := fun w1 => refLength_any l w1
  rw [inB_of (by have := hl.lo; have := hl.hi; omega)] at r1
  have r2 := fun w1 => refFreq_any f w1
  rw [inB_of (by have := hf.lo; have := hf.hi; omega)] at r2
  have r3 := fun w1 => refDiameter_any wd w1
  rw [hw] at r3
  have r4 := fun w1 => refStrength_any s w1
  rw [inB_of (by have := hs.lo; have := hs.hi; omega)] at r4
  have r5 := fun w1 => refSafety_any sf w1
  rw [inB_of (by have := hp.lo; have := hp.hi; omega)] at r5
  have r6 := fun w1 => refStress_any d l f w1 hd hl hf
  have r8 := fun w1 => refHolds_any d s l f sf w1 hd hs hl hf hp
  generalize stressN d l f = ps at *
  generalize holdN d s l f sf = ph at *
  have kb0 : Blk 23 (w.alloc (.cells #[.int .i64 (d : Int), .int .i64 (s : Int), .int .i64 wd, .int .i64 (l : Int), .int .i64 (f : Int), .int .i64 (sf : Int)] 23)) w.heap.size [.int .i64 (d : Int), .int .i64 (s : Int), .int .i64 wd, .int .i64 (l : Int), .int .i64 (f : Int), .int .i64 (sf : Int)] := Blk.new w 23 [.int .i64 (d : Int), .int .i64 (s : Int), .int .i64 wd, .int .i64 (l : Int), .int .i64 (f : Int), .int .i64 (sf : Int)]
  have b0 := below_new w (.cells #[.int .i64 (d : Int), .int .i64 (s : Int), .int .i64 wd, .int .i64 (l : Int), .int .i64 (f : Int), .int .i64 (sf : Int)] 23)
  have hli := fun w1 => lives_any w1
  have HT := Lib.hid hT
  have HS := Lib.hid hS
  have HH := Lib.hid hH
  have HLI := Lib.hid hli
  have R0 := Lib.hid r0
  have R1 := Lib.hid r1
  have R2 := Lib.hid r2
  have R3 := Lib.hid r3
  have R4 := Lib.hid r4
  have R5 := Lib.hid r5
  have R6 := Lib.hid r6
  have R8 := Lib.hid r8
  clear hT hS hH hli r0 r1 r2 r3 r4 r5 r6 r8 hd hl hf hw hs hp
  cases ph with
  | false =>
    go_enter Tryz.func3, Tryz.ntmps3
    go_wp2_with (fail)
    refine (HT.out _).mono ?_
    rintro e w1 ⟨rfl, hb1⟩
    have b1 := below_on b0 b0.size hb1
    have kb1 := kb0.keep hb1
    obtain ⟨c10, c11, c12, c13, c14, c15⟩ := kb1.six
    go_wp2_with (fail)
    refine (HS.out _).mono ?_
    rintro e w2 ⟨rfl, hb2⟩
    have b2 := below_on b1 b1.size hb2
    have kb2 := kb1.keep hb2
    obtain ⟨c20, c21, c22, c23, c24, c25⟩ := kb2.six
    clear c10 c11 c12 c13 c14 c15
    go_wp2_with (fail)
    refine (HH.out _).mono ?_
    rintro e w3 ⟨rfl, hb3⟩
    have b3 := below_on b2 b2.size hb3
    have kb3 := kb2.keep hb3
    obtain ⟨c30, c31, c32, c33, c34, c35⟩ := kb3.six
    clear c20 c21 c22 c23 c24 c25
    go_wp2_with (fail)
    refine (R0.out _).mono ?_
    rintro e w4 ⟨rfl, rfl⟩
    go_wp2_with (fail)
    refine (R1.out _).mono ?_
    rintro e w4 ⟨rfl, rfl⟩
    go_wp2_with (fail)
    refine (R2.out _).mono ?_
    rintro e w4 ⟨rfl, rfl⟩
    go_wp2_with (fail)
    refine (R6.out _).mono ?_
    rintro e w4 ⟨rfl, hb4⟩
    have b4 := below_on b3 b3.size hb4
    have kb4 := kb3.keep hb4
    obtain ⟨c40, c41, c42, c43, c44, c45⟩ := kb4.six
    clear c30 c31 c32 c33 c34 c35
    go_wp2_with (fail)
    refine (R3.out _).mono ?_
    rintro e w5 ⟨rfl, rfl⟩
    go_wp2_with (fail)
    refine (R4.out _).mono ?_
    rintro e w6 ⟨rfl, rfl⟩
    go_wp2_with (fail)
    refine (R5.out _).mono ?_
    rintro e w6 ⟨rfl, rfl⟩
    go_wp2_with (fail)
    refine (R8.out _).mono ?_
    rintro e w5 ⟨rfl, hb5⟩
    have b5 := below_on b4 b4.size hb5
    have kb5 := kb4.keep hb5
    obtain ⟨c50, c51, c52, c53, c54, c55⟩ := kb5.six
    clear c40 c41 c42 c43 c44 c45
    go_wp2_with (fail)
    refine (HLI.out _).mono ?_
    rintro e w9 ⟨rfl, hb9⟩
    go_wp2
    go_ret
    exact ⟨rfl, below_on b5 b5.size hb9⟩
  | true =>
    go_enter Tryz.func3, Tryz.ntmps3
    go_wp2_with (fail)
    refine (HT.out _).mono ?_
    rintro e w1 ⟨rfl, hb1⟩
    have b1 := below_on b0 b0.size hb1
    have kb1 := kb0.keep hb1
    obtain ⟨c10, c11, c12, c13, c14, c15⟩ := kb1.six
    go_wp2_with (fail)
    refine (HS.out _).mono ?_
    rintro e w2 ⟨rfl, hb2⟩
    have b2 := below_on b1 b1.size hb2
    have kb2 := kb1.keep hb2
    obtain ⟨c20, c21, c22, c23, c24, c25⟩ := kb2.six
    clear c10 c11 c12 c13 c14 c15
    go_wp2_with (fail)
    refine (HH.out _).mono ?_
    rintro e w3 ⟨rfl, hb3⟩
    have b3 := below_on b2 b2.size hb3
    have kb3 := kb2.keep hb3
    obtain ⟨c30, c31, c32, c33, c34, c35⟩ := kb3.six
    clear c20 c21 c22 c23 c24 c25
    go_wp2_with (fail)
    refine (R0.out _).mono ?_
    rintro e w4 ⟨rfl, rfl⟩
    go_wp2_with (fail)
    refine (R1.out _).mono ?_
    rintro e w4 ⟨rfl, rfl⟩
    go_wp2_with (fail)
    refine (R2.out _).mono ?_
    rintro e w4 ⟨rfl, rfl⟩
    go_wp2_with (fail)
    refine (R6.out _).mono ?_
    rintro e w4 ⟨rfl, hb4⟩
    have b4 := below_on b3 b3.size hb4
    have kb4 := kb3.keep hb4
    obtain ⟨c40, c41, c42, c43, c44, c45⟩ := kb4.six
    clear c30 c31 c32 c33 c34 c35
    go_wp2_with (fail)
    refine (R3.out _).mono ?_
    rintro e w5 ⟨rfl, rfl⟩
    go_wp2_with (fail)
    refine (R4.out _).mono ?_
    rintro e w6 ⟨rfl, rfl⟩
    go_wp2_with (fail)
    refine (R5.out _).mono ?_
    rintro e w6 ⟨rfl, rfl⟩
    go_wp2_with (fail)
    refine (R8.out _).mono ?_
    rintro e w5 ⟨rfl, hb5⟩
    have b5 := below_on b4 b4.size hb5
    have kb5 := kb4.keep hb5
    obtain ⟨c50, c51, c52, c53, c54, c55⟩ := kb5.six
    clear c40 c41 c42 c43 c44 c45
    go_wp2_with (fail)
    refine (HLI.out _).mono ?_
    rintro e w9 ⟨rfl, hb9⟩
    go_wp2
    go_ret
    exact ⟨rfl, below_on b5 b5.size hb9⟩

set_option maxHeartbeats 4000000 in
set_option maxRecDepth 100000 in
theorem strings_b10 (d : Nat) (l : Nat) (f : Nat) (wd : Nat) (s : Int) (sf : Int) (w : World) (hd : InD d) (hl : InL l) (hf : InF f) (hw : InW wd) (hs : inB s 1 100000 = false) : Calls Tryz.prog 3 #[.agg #[.int .i64 (d : Int), .int .i64 s, .int .i64 (wd : Int), .int .i64 (l : Int), .int .i64 (f : Int), .int .i64 sf]] w (LivesPost w) := by
  have hT := fun w1 => Tension_ok d wd l f w1 hd hw hl hf
  have hS := fun w1 => Stress_ok d l f w1 hd hl hf
  have hH := fun w1 => Holds_bad d s l f sf w1 (by unfold strongB; rw [hs]; simp)
  have r0 := fun w1 => refDensity_any d w1
  rw [inB_of (by have := hd.lo; have := hd.hi; omega)] at r0
  have r1 := fun w1 => refLength_any l w1
  rw [inB_of (by have := hl.lo; have := hl.hi; omega)] at r1
  have r2 := fun w1 => refFreq_any f w1
  rw [inB_of (by have := hf.lo; have := hf.hi; omega)] at r2
  have r3 := fun w1 => refDiameter_any wd w1
  rw [inB_of (by have := hw.lo; have := hw.hi; omega)] at r3
  have r4 := fun w1 => refStrength_any s w1
  rw [hs] at r4
  have r6 := fun w1 => refStress_any d l f w1 hd hl hf
  have r7 := fun w1 => refTension_any d wd l f w1 hd hw hl hf
  generalize pullN d wd l f = pt at *
  generalize stressN d l f = ps at *
  have kb0 : Blk 23 (w.alloc (.cells #[.int .i64 (d : Int), .int .i64 s, .int .i64 (wd : Int), .int .i64 (l : Int), .int .i64 (f : Int), .int .i64 sf] 23)) w.heap.size [.int .i64 (d : Int), .int .i64 s, .int .i64 (wd : Int), .int .i64 (l : Int), .int .i64 (f : Int), .int .i64 sf] := Blk.new w 23 [.int .i64 (d : Int), .int .i64 s, .int .i64 (wd : Int), .int .i64 (l : Int), .int .i64 (f : Int), .int .i64 sf]
  have b0 := below_new w (.cells #[.int .i64 (d : Int), .int .i64 s, .int .i64 (wd : Int), .int .i64 (l : Int), .int .i64 (f : Int), .int .i64 sf] 23)
  have hli := fun w1 => lives_any w1
  have HT := Lib.hid hT
  have HS := Lib.hid hS
  have HH := Lib.hid hH
  have HLI := Lib.hid hli
  have R0 := Lib.hid r0
  have R1 := Lib.hid r1
  have R2 := Lib.hid r2
  have R3 := Lib.hid r3
  have R4 := Lib.hid r4
  have R6 := Lib.hid r6
  have R7 := Lib.hid r7
  clear hT hS hH hli r0 r1 r2 r3 r4 r6 r7 hd hl hf hw hs
  go_enter Tryz.func3, Tryz.ntmps3
  go_wp2_with (fail)
  refine (HT.out _).mono ?_
  rintro e w1 ⟨rfl, hb1⟩
  have b1 := below_on b0 b0.size hb1
  have kb1 := kb0.keep hb1
  obtain ⟨c10, c11, c12, c13, c14, c15⟩ := kb1.six
  go_wp2_with (fail)
  refine (HS.out _).mono ?_
  rintro e w2 ⟨rfl, hb2⟩
  have b2 := below_on b1 b1.size hb2
  have kb2 := kb1.keep hb2
  obtain ⟨c20, c21, c22, c23, c24, c25⟩ := kb2.six
  clear c10 c11 c12 c13 c14 c15
  go_wp2_with (fail)
  refine (HH.out _).mono ?_
  rintro e w3 ⟨rfl, hb3⟩
  have b3 := below_on b2 b2.size hb3
  have kb3 := kb2.keep hb3
  obtain ⟨c30, c31, c32, c33, c34, c35⟩ := kb3.six
  clear c20 c21 c22 c23 c24 c25
  go_wp2_with (fail)
  refine (R0.out _).mono ?_
  rintro e w4 ⟨rfl, rfl⟩
  go_wp2_with (fail)
  refine (R1.out _).mono ?_
  rintro e w4 ⟨rfl, rfl⟩
  go_wp2_with (fail)
  refine (R2.out _).mono ?_
  rintro e w4 ⟨rfl, rfl⟩
  go_wp2_with (fail)
  refine (R6.out _).mono ?_
  rintro e w4 ⟨rfl, hb4⟩
  have b4 := below_on b3 b3.size hb4
  have kb4 := kb3.keep hb4
  obtain ⟨c40, c41, c42, c43, c44, c45⟩ := kb4.six
  clear c30 c31 c32 c33 c34 c35
  go_wp2_with (fail)
  refine (R3.out _).mono ?_
  rintro e w5 ⟨rfl, rfl⟩
  go_wp2_with (fail)
  refine (R7.out _).mono ?_
  rintro e w5 ⟨rfl, hb5⟩
  have b5 := below_on b4 b4.size hb5
  have kb5 := kb4.keep hb5
  obtain ⟨c50, c51, c52, c53, c54, c55⟩ := kb5.six
  clear c40 c41 c42 c43 c44 c45
  go_wp2_with (fail)
  refine (R4.out _).mono ?_
  rintro e w6 ⟨rfl, rfl⟩
  go_wp2_with (fail)
  refine (HLI.out _).mono ?_
  rintro e w9 ⟨rfl, hb9⟩
  go_wp2
  go_ret
  exact ⟨rfl, below_on b5 b5.size hb9⟩

set_option maxHeartbeats 4000000 in
set_option maxRecDepth 100000 in
theorem strings_b11 (d : Nat) (l : Nat) (f : Nat) (wd : Nat) (s : Nat) (sf : Int) (w : World) (hd : InD d) (hl : InL l) (hf : InF f) (hw : InW wd) (hs : InS s) (hp : inB sf 1 100 = false) : Calls Tryz.prog 3 #[.agg #[.int .i64 (d : Int), .int .i64 (s : Int), .int .i64 (wd : Int), .int .i64 (l : Int), .int .i64 (f : Int), .int .i64 sf]] w (LivesPost w) := by
  have hT := fun w1 => Tension_ok d wd l f w1 hd hw hl hf
  have hS := fun w1 => Stress_ok d l f w1 hd hl hf
  have hH := fun w1 => Holds_bad d s l f sf w1 (by unfold strongB; rw [hp]; simp)
  have r0 := fun w1 => refDensity_any d w1
  rw [inB_of (by have := hd.lo; have := hd.hi; omega)] at r0
  have r1 := fun w1 => refLength_any l w1
  rw [inB_of (by have := hl.lo; have := hl.hi; omega)] at r1
  have r2 := fun w1 => refFreq_any f w1
  rw [inB_of (by have := hf.lo; have := hf.hi; omega)] at r2
  have r3 := fun w1 => refDiameter_any wd w1
  rw [inB_of (by have := hw.lo; have := hw.hi; omega)] at r3
  have r4 := fun w1 => refStrength_any s w1
  rw [inB_of (by have := hs.lo; have := hs.hi; omega)] at r4
  have r5 := fun w1 => refSafety_any sf w1
  rw [hp] at r5
  have r6 := fun w1 => refStress_any d l f w1 hd hl hf
  have r7 := fun w1 => refTension_any d wd l f w1 hd hw hl hf
  generalize pullN d wd l f = pt at *
  generalize stressN d l f = ps at *
  have kb0 : Blk 23 (w.alloc (.cells #[.int .i64 (d : Int), .int .i64 (s : Int), .int .i64 (wd : Int), .int .i64 (l : Int), .int .i64 (f : Int), .int .i64 sf] 23)) w.heap.size [.int .i64 (d : Int), .int .i64 (s : Int), .int .i64 (wd : Int), .int .i64 (l : Int), .int .i64 (f : Int), .int .i64 sf] := Blk.new w 23 [.int .i64 (d : Int), .int .i64 (s : Int), .int .i64 (wd : Int), .int .i64 (l : Int), .int .i64 (f : Int), .int .i64 sf]
  have b0 := below_new w (.cells #[.int .i64 (d : Int), .int .i64 (s : Int), .int .i64 (wd : Int), .int .i64 (l : Int), .int .i64 (f : Int), .int .i64 sf] 23)
  have hli := fun w1 => lives_any w1
  have HT := Lib.hid hT
  have HS := Lib.hid hS
  have HH := Lib.hid hH
  have HLI := Lib.hid hli
  have R0 := Lib.hid r0
  have R1 := Lib.hid r1
  have R2 := Lib.hid r2
  have R3 := Lib.hid r3
  have R4 := Lib.hid r4
  have R5 := Lib.hid r5
  have R6 := Lib.hid r6
  have R7 := Lib.hid r7
  clear hT hS hH hli r0 r1 r2 r3 r4 r5 r6 r7 hd hl hf hw hs hp
  go_enter Tryz.func3, Tryz.ntmps3
  go_wp2_with (fail)
  refine (HT.out _).mono ?_
  rintro e w1 ⟨rfl, hb1⟩
  have b1 := below_on b0 b0.size hb1
  have kb1 := kb0.keep hb1
  obtain ⟨c10, c11, c12, c13, c14, c15⟩ := kb1.six
  go_wp2_with (fail)
  refine (HS.out _).mono ?_
  rintro e w2 ⟨rfl, hb2⟩
  have b2 := below_on b1 b1.size hb2
  have kb2 := kb1.keep hb2
  obtain ⟨c20, c21, c22, c23, c24, c25⟩ := kb2.six
  clear c10 c11 c12 c13 c14 c15
  go_wp2_with (fail)
  refine (HH.out _).mono ?_
  rintro e w3 ⟨rfl, hb3⟩
  have b3 := below_on b2 b2.size hb3
  have kb3 := kb2.keep hb3
  obtain ⟨c30, c31, c32, c33, c34, c35⟩ := kb3.six
  clear c20 c21 c22 c23 c24 c25
  go_wp2_with (fail)
  refine (R0.out _).mono ?_
  rintro e w4 ⟨rfl, rfl⟩
  go_wp2_with (fail)
  refine (R1.out _).mono ?_
  rintro e w4 ⟨rfl, rfl⟩
  go_wp2_with (fail)
  refine (R2.out _).mono ?_
  rintro e w4 ⟨rfl, rfl⟩
  go_wp2_with (fail)
  refine (R6.out _).mono ?_
  rintro e w4 ⟨rfl, hb4⟩
  have b4 := below_on b3 b3.size hb4
  have kb4 := kb3.keep hb4
  obtain ⟨c40, c41, c42, c43, c44, c45⟩ := kb4.six
  clear c30 c31 c32 c33 c34 c35
  go_wp2_with (fail)
  refine (R3.out _).mono ?_
  rintro e w5 ⟨rfl, rfl⟩
  go_wp2_with (fail)
  refine (R7.out _).mono ?_
  rintro e w5 ⟨rfl, hb5⟩
  have b5 := below_on b4 b4.size hb5
  have kb5 := kb4.keep hb5
  obtain ⟨c50, c51, c52, c53, c54, c55⟩ := kb5.six
  clear c40 c41 c42 c43 c44 c45
  go_wp2_with (fail)
  refine (R4.out _).mono ?_
  rintro e w6 ⟨rfl, rfl⟩
  go_wp2_with (fail)
  refine (R5.out _).mono ?_
  rintro e w6 ⟨rfl, rfl⟩
  go_wp2_with (fail)
  refine (HLI.out _).mono ?_
  rintro e w9 ⟨rfl, hb9⟩
  go_wp2
  go_ret
  exact ⟨rfl, below_on b5 b5.size hb9⟩

set_option maxHeartbeats 4000000 in
set_option maxRecDepth 100000 in
theorem strings_b12 (d : Nat) (l : Nat) (f : Nat) (wd : Nat) (s : Nat) (sf : Nat) (w : World) (hd : InD d) (hl : InL l) (hf : InF f) (hw : InW wd) (hs : InS s) (hp : InP sf) : Calls Tryz.prog 3 #[.agg #[.int .i64 (d : Int), .int .i64 (s : Int), .int .i64 (wd : Int), .int .i64 (l : Int), .int .i64 (f : Int), .int .i64 (sf : Int)]] w (LivesPost w) := by
  have hT := fun w1 => Tension_ok d wd l f w1 hd hw hl hf
  have hS := fun w1 => Stress_ok d l f w1 hd hl hf
  have hH := fun w1 => Holds_ok d s l f sf w1 hd hs hl hf hp
  have r0 := fun w1 => refDensity_any d w1
  rw [inB_of (by have := hd.lo; have := hd.hi; omega)] at r0
  have r1 := fun w1 => refLength_any l w1
  rw [inB_of (by have := hl.lo; have := hl.hi; omega)] at r1
  have r2 := fun w1 => refFreq_any f w1
  rw [inB_of (by have := hf.lo; have := hf.hi; omega)] at r2
  have r3 := fun w1 => refDiameter_any wd w1
  rw [inB_of (by have := hw.lo; have := hw.hi; omega)] at r3
  have r4 := fun w1 => refStrength_any s w1
  rw [inB_of (by have := hs.lo; have := hs.hi; omega)] at r4
  have r5 := fun w1 => refSafety_any sf w1
  rw [inB_of (by have := hp.lo; have := hp.hi; omega)] at r5
  have r6 := fun w1 => refStress_any d l f w1 hd hl hf
  have r7 := fun w1 => refTension_any d wd l f w1 hd hw hl hf
  have r8 := fun w1 => refHolds_any d s l f sf w1 hd hs hl hf hp
  generalize pullN d wd l f = pt at *
  generalize stressN d l f = ps at *
  generalize holdN d s l f sf = ph at *
  have kb0 : Blk 23 (w.alloc (.cells #[.int .i64 (d : Int), .int .i64 (s : Int), .int .i64 (wd : Int), .int .i64 (l : Int), .int .i64 (f : Int), .int .i64 (sf : Int)] 23)) w.heap.size [.int .i64 (d : Int), .int .i64 (s : Int), .int .i64 (wd : Int), .int .i64 (l : Int), .int .i64 (f : Int), .int .i64 (sf : Int)] := Blk.new w 23 [.int .i64 (d : Int), .int .i64 (s : Int), .int .i64 (wd : Int), .int .i64 (l : Int), .int .i64 (f : Int), .int .i64 (sf : Int)]
  have b0 := below_new w (.cells #[.int .i64 (d : Int), .int .i64 (s : Int), .int .i64 (wd : Int), .int .i64 (l : Int), .int .i64 (f : Int), .int .i64 (sf : Int)] 23)
  have hli := fun w1 => lives_any w1
  have HT := Lib.hid hT
  have HS := Lib.hid hS
  have HH := Lib.hid hH
  have HLI := Lib.hid hli
  have R0 := Lib.hid r0
  have R1 := Lib.hid r1
  have R2 := Lib.hid r2
  have R3 := Lib.hid r3
  have R4 := Lib.hid r4
  have R5 := Lib.hid r5
  have R6 := Lib.hid r6
  have R7 := Lib.hid r7
  have R8 := Lib.hid r8
  clear hT hS hH hli r0 r1 r2 r3 r4 r5 r6 r7 r8 hd hl hf hw hs hp
  cases ph with
  | false =>
    go_enter Tryz.func3, Tryz.ntmps3
    go_wp2_with (fail)
    refine (HT.out _).mono ?_
    rintro e w1 ⟨rfl, hb1⟩
    have b1 := below_on b0 b0.size hb1
    have kb1 := kb0.keep hb1
    obtain ⟨c10, c11, c12, c13, c14, c15⟩ := kb1.six
    go_wp2_with (fail)
    refine (HS.out _).mono ?_
    rintro e w2 ⟨rfl, hb2⟩
    have b2 := below_on b1 b1.size hb2
    have kb2 := kb1.keep hb2
    obtain ⟨c20, c21, c22, c23, c24, c25⟩ := kb2.six
    clear c10 c11 c12 c13 c14 c15
    go_wp2_with (fail)
    refine (HH.out _).mono ?_
    rintro e w3 ⟨rfl, hb3⟩
    have b3 := below_on b2 b2.size hb3
    have kb3 := kb2.keep hb3
    obtain ⟨c30, c31, c32, c33, c34, c35⟩ := kb3.six
    clear c20 c21 c22 c23 c24 c25
    go_wp2_with (fail)
    refine (R0.out _).mono ?_
    rintro e w4 ⟨rfl, rfl⟩
    go_wp2_with (fail)
    refine (R1.out _).mono ?_
    rintro e w4 ⟨rfl, rfl⟩
    go_wp2_with (fail)
    refine (R2.out _).mono ?_
    rintro e w4 ⟨rfl, rfl⟩
    go_wp2_with (fail)
    refine (R6.out _).mono ?_
    rintro e w4 ⟨rfl, hb4⟩
    have b4 := below_on b3 b3.size hb4
    have kb4 := kb3.keep hb4
    obtain ⟨c40, c41, c42, c43, c44, c45⟩ := kb4.six
    clear c30 c31 c32 c33 c34 c35
    go_wp2_with (fail)
    refine (R3.out _).mono ?_
    rintro e w5 ⟨rfl, rfl⟩
    go_wp2_with (fail)
    refine (R7.out _).mono ?_
    rintro e w5 ⟨rfl, hb5⟩
    have b5 := below_on b4 b4.size hb5
    have kb5 := kb4.keep hb5
    obtain ⟨c50, c51, c52, c53, c54, c55⟩ := kb5.six
    clear c40 c41 c42 c43 c44 c45
    go_wp2_with (fail)
    refine (R4.out _).mono ?_
    rintro e w6 ⟨rfl, rfl⟩
    go_wp2_with (fail)
    refine (R5.out _).mono ?_
    rintro e w6 ⟨rfl, rfl⟩
    go_wp2_with (fail)
    refine (R8.out _).mono ?_
    rintro e w6 ⟨rfl, hb6⟩
    have b6 := below_on b5 b5.size hb6
    have kb6 := kb5.keep hb6
    obtain ⟨c60, c61, c62, c63, c64, c65⟩ := kb6.six
    clear c50 c51 c52 c53 c54 c55
    go_wp2_with (fail)
    refine (HLI.out _).mono ?_
    rintro e w9 ⟨rfl, hb9⟩
    go_wp2
    go_ret
    exact ⟨rfl, below_on b6 b6.size hb9⟩
  | true =>
    go_enter Tryz.func3, Tryz.ntmps3
    go_wp2_with (fail)
    refine (HT.out _).mono ?_
    rintro e w1 ⟨rfl, hb1⟩
    have b1 := below_on b0 b0.size hb1
    have kb1 := kb0.keep hb1
    obtain ⟨c10, c11, c12, c13, c14, c15⟩ := kb1.six
    go_wp2_with (fail)
    refine (HS.out _).mono ?_
    rintro e w2 ⟨rfl, hb2⟩
    have b2 := below_on b1 b1.size hb2
    have kb2 := kb1.keep hb2
    obtain ⟨c20, c21, c22, c23, c24, c25⟩ := kb2.six
    clear c10 c11 c12 c13 c14 c15
    go_wp2_with (fail)
    refine (HH.out _).mono ?_
    rintro e w3 ⟨rfl, hb3⟩
    have b3 := below_on b2 b2.size hb3
    have kb3 := kb2.keep hb3
    obtain ⟨c30, c31, c32, c33, c34, c35⟩ := kb3.six
    clear c20 c21 c22 c23 c24 c25
    go_wp2_with (fail)
    refine (R0.out _).mono ?_
    rintro e w4 ⟨rfl, rfl⟩
    go_wp2_with (fail)
    refine (R1.out _).mono ?_
    rintro e w4 ⟨rfl, rfl⟩
    go_wp2_with (fail)
    refine (R2.out _).mono ?_
    rintro e w4 ⟨rfl, rfl⟩
    go_wp2_with (fail)
    refine (R6.out _).mono ?_
    rintro e w4 ⟨rfl, hb4⟩
    have b4 := below_on b3 b3.size hb4
    have kb4 := kb3.keep hb4
    obtain ⟨c40, c41, c42, c43, c44, c45⟩ := kb4.six
    clear c30 c31 c32 c33 c34 c35
    go_wp2_with (fail)
    refine (R3.out _).mono ?_
    rintro e w5 ⟨rfl, rfl⟩
    go_wp2_with (fail)
    refine (R7.out _).mono ?_
    rintro e w5 ⟨rfl, hb5⟩
    have b5 := below_on b4 b4.size hb5
    have kb5 := kb4.keep hb5
    obtain ⟨c50, c51, c52, c53, c54, c55⟩ := kb5.six
    clear c40 c41 c42 c43 c44 c45
    go_wp2_with (fail)
    refine (R4.out _).mono ?_
    rintro e w6 ⟨rfl, rfl⟩
    go_wp2_with (fail)
    refine (R5.out _).mono ?_
    rintro e w6 ⟨rfl, rfl⟩
    go_wp2_with (fail)
    refine (R8.out _).mono ?_
    rintro e w6 ⟨rfl, hb6⟩
    have b6 := below_on b5 b5.size hb6
    have kb6 := kb5.keep hb6
    obtain ⟨c60, c61, c62, c63, c64, c65⟩ := kb6.six
    clear c50 c51 c52 c53 c54 c55
    go_wp2_with (fail)
    refine (HLI.out _).mono ?_
    rintro e w9 ⟨rfl, hb9⟩
    go_wp2
    go_ret
    exact ⟨rfl, below_on b6 b6.size hb9⟩

theorem strings_walk (x0 x1 x2 x3 x4 x5 : Int) (w : World) : Calls Tryz.prog 3 #[.agg #[.int .i64 x0, .int .i64 x1, .int .i64 x2, .int .i64 x3, .int .i64 x4, .int .i64 x5]] w (LivesPost w) := by
  cases h0 : inB x0 1 30000 with
  | false => exact strings_sd _ _ _ _ _ _ w h0
  | true =>
    cases h3 : inB x3 1 100000 with
    | false => exact strings_sl _ _ _ _ _ _ w h0 h3
    | true =>
      cases h4 : inB x4 1 10000000 with
      | false => exact strings_sf_ _ _ _ _ _ _ w h0 h3 h4
      | true =>
        obtain ⟨d, rfl, d1, d2⟩ := inB_nat (K := 30000) h0
        obtain ⟨l, rfl, l1, l2⟩ := inB_nat (K := 100000) h3
        obtain ⟨f, rfl, f1, f2⟩ := inB_nat (K := 10000000) h4
        have hd : InD d := ⟨d1, d2⟩
        have hl : InL l := ⟨l1, l2⟩
        have hf : InF f := ⟨f1, f2⟩
        cases h1 : inB x1 1 100000 with
        | false =>
          cases h2 : inB x2 1 2000 with
          | false => exact strings_b00 d l f x2 x1 x5 w hd hl hf h2 h1
          | true =>
            obtain ⟨wd, rfl, w1, w2⟩ := inB_nat (K := 2000) h2
            exact strings_b10 d l f wd x1 x5 w hd hl hf ⟨w1, w2⟩ h1
        | true =>
          obtain ⟨s, rfl, s1, s2⟩ := inB_nat (K := 100000) h1
          cases h5 : inB x5 1 100 with
          | false =>
            cases h2 : inB x2 1 2000 with
            | false => exact strings_b01 d l f x2 s x5 w hd hl hf h2 ⟨s1, s2⟩ h5
            | true =>
              obtain ⟨wd, rfl, w1, w2⟩ := inB_nat (K := 2000) h2
              exact strings_b11 d l f wd s x5 w hd hl hf ⟨w1, w2⟩ ⟨s1, s2⟩ h5
          | true =>
            obtain ⟨sf, rfl, p1, p2⟩ := inB_nat (K := 100) h5
            cases h2 : inB x2 1 2000 with
            | false => exact strings_b02 d l f x2 s sf w hd hl hf h2 ⟨s1, s2⟩ ⟨p1, p2⟩
            | true =>
              obtain ⟨wd, rfl, w1, w2⟩ := inB_nat (K := 2000) h2
              exact strings_b12 d l f wd s sf w hd hl hf ⟨w1, w2⟩ ⟨s1, s2⟩ ⟨p1, p2⟩
end Go.Proofs.YthgekjkgfccnaaaGreat
