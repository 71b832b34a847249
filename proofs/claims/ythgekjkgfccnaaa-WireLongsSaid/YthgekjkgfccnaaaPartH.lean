/- Part of the proof of WireLongs: WLong. -/
import Derived.Test.YthgekjkgfccnaaaPartG
namespace Go.Proofs.Ythgekjkgfccnaaa
open Go.RowKit Num

theorem refDensity_any (v : Int) (w : World) : Calls Try.prog 12 #[.int .i64 v] w fun e w' => e = .returned (.bool (inB v 1 30000)) ∧ w = w' := by
  have h := fun w1 => in_any v 1 30000 w1
  generalize inB v 1 30000 = b at *
  have H := Lib.hid h
  clear h
  go_enter Try.func12, Try.ntmps12
  go_wp2_with (fail)
  refine (H.out _).mono ?_
  rintro e w1 ⟨rfl, rfl⟩
  go_wp2
  go_ret
  exact ⟨rfl, rfl⟩
theorem refStrength_any (v : Int) (w : World) : Calls Try.prog 13 #[.int .i64 v] w fun e w' => e = .returned (.bool (inB v 1 100000)) ∧ w = w' := by
  have h := fun w1 => in_any v 1 100000 w1
  generalize inB v 1 100000 = b at *
  have H := Lib.hid h
  clear h
  go_enter Try.func13, Try.ntmps13
  go_wp2_with (fail)
  refine (H.out _).mono ?_
  rintro e w1 ⟨rfl, rfl⟩
  go_wp2
  go_ret
  exact ⟨rfl, rfl⟩
theorem refFreq_any (v : Int) (w : World) : Calls Try.prog 14 #[.int .i64 v] w fun e w' => e = .returned (.bool (inB v 1 10000000)) ∧ w = w' := by
  have h := fun w1 => in_any v 1 10000000 w1
  generalize inB v 1 10000000 = b at *
  have H := Lib.hid h
  clear h
  go_enter Try.func14, Try.ntmps14
  go_wp2_with (fail)
  refine (H.out _).mono ?_
  rintro e w1 ⟨rfl, rfl⟩
  go_wp2
  go_ret
  exact ⟨rfl, rfl⟩
theorem refSafety_any (v : Int) (w : World) : Calls Try.prog 15 #[.int .i64 v] w fun e w' => e = .returned (.bool (inB v 1 100)) ∧ w = w' := by
  have h := fun w1 => in_any v 1 100 w1
  generalize inB v 1 100 = b at *
  have H := Lib.hid h
  clear h
  go_enter Try.func15, Try.ntmps15
  go_wp2_with (fail)
  refine (H.out _).mono ?_
  rintro e w1 ⟨rfl, rfl⟩
  go_wp2
  go_ret
  exact ⟨rfl, rfl⟩
theorem dist_m {lo hi M : Nat} (h1 : lo ≤ M) (h2 : M < hi) (h : ¬ 1 < hi - lo) : lo = M := by omega
theorem dist_t {lo hi : Nat} (h : 1 < hi - lo) : decide ((1 : Int) < (hi : Int) - (lo : Int)) = true := by simp; omega
theorem dist_f {lo hi : Nat} (h : ¬ 1 < hi - lo) : decide ((1 : Int) < (hi : Int) - (lo : Int)) = false := by simp; omega
theorem mid_ok {lo hi M : Nat} (h1 : lo ≤ M) (h2 : M < hi) (h3 : hi ≤ 100001) (h4 : 1 < hi - lo) : ∃ m : Nat, (lo + hi) / 2 = m ∧ lo < m ∧ m < hi ∧ 1 ≤ m ∧ m ≤ 100000 ∧ ((lo : Int) + (hi : Int)).tdiv 2 = (m : Int) ∧ ((lo : Int) + (hi : Int)) / 2 = (m : Int) ∧ wrap64 ((lo : Int) + (hi : Int)) = (lo : Int) + (hi : Int) ∧ 0 ≤ (lo : Int) + (hi : Int) ∧ wrap64 (m : Int) = (m : Int) ∧ IntKind.i64.wrap (m : Int) = (m : Int) := by
  refine ⟨(lo + hi) / 2, rfl, by omega, by omega, by omega, by omega, ?_, by omega, by unfold wrap64; omega, by omega, by unfold wrap64; omega, wrapI (by omega) (by omega)⟩
  rw [Int.tdiv_eq_ediv_of_nonneg (by omega)]; omega
set_option maxHeartbeats 4000000 in
set_option maxRecDepth 100000 in
theorem refLongest_any (d s f sf r M : Nat) (w : World) (hd : InD d) (hs : InS s) (hf : InF f) (hp : InP sf) (hr : IsLong d s f sf r) (hM : min r 100000 = M) (er : Int) (her : (if M = 0 then (6 : Int) else 0) = er) : Calls Try.prog 17 #[.int .i64 (d : Int), .int .i64 (s : Int), .int .i64 (f : Int), .int .i64 (sf : Int)] w (Int2 w (M : Nat) er) := by
  have HER := Lib.hid her
  clear her
  have hho := holdN_long hd hf hr
  have hml : M ≤ 100000 := by rw [← hM]; exact Nat.min_le_right _ _
  have hmr : ∀ l, l ≤ 100000 → decide (l ≤ r) = decide (l ≤ M) := by
    intro l hl
    rw [← hM, Bool.eq_iff_iff]
    simp only [decide_eq_true_eq]
    constructor
    · intro h; exact Nat.le_min.2 ⟨h, hl⟩
    · intro h; exact Nat.le_trans h (Nat.min_le_left _ _)
  have hh := fun l w1 (h : InL l) => refHolds_any d s l f sf w1 hd hs h hf hp
  have hh2 : ∀ l w1, InL l → Calls Try.prog 36 #[.int .i64 (d : Int), .int .i64 (s : Int), .int .i64 (l : Int), .int .i64 (f : Int), .int .i64 (sf : Int)] w1 (BoolPost w1 (decide (l ≤ M))) := by
    intro l w1 h
    have := hh l w1 h
    rwa [hho l, hmr l h.hi] at this
  have HH := Lib.hid hh2
  clear hh hh2 hho hmr hr hM hd hs hf hp
  go_enter Try.func17, Try.ntmps17
  go_wp2
  go_loopw [10, 11, 12] (fun a b _ wr => ∃ lo hi : Nat, a = .int .i64 (lo : Int) ∧ b = .int .i64 (hi : Int) ∧ lo ≤ M ∧ M < hi ∧ hi ≤ 100001 ∧ Below w.heap.size w wr) (fun a b _ _ => (intOf b).toNat - (intOf a).toNat)
  case atStart => exact ⟨0, 100001, rfl, rfl, Nat.zero_le _, by omega, Nat.le_refl _, Below.refl _ _⟩
  case round =>
    obtain ⟨lo, hi, rfl, rfl, h1, h2, h3, hbl⟩ := hrel
    have hsb : wrap64 ((hi : Int) - (lo : Int)) = (hi : Int) - (lo : Int) := by unfold wrap64; omega
    by_cases h4 : 1 < hi - lo
    · obtain ⟨m, hm, m1, m2, m3, m4, m5, m6, m7, m8, m9, m10⟩ := mid_ok h1 h2 h3 h4
      have hC := HH.out m wr ⟨m3, m4⟩
      have qd := dist_t h4
      have K1 := Lib.hid h1
      have K2 := Lib.hid h2
      have K3 := Lib.hid h3
      have K4 := Lib.hid h4
      have N1 := Lib.hid m1
      have N2 := Lib.hid m2
      by_cases h5 : m ≤ M
      · rw [show decide (m ≤ M) = true by simpa using h5] at hC
        have HC := Lib.hid hC
        have K5 := Lib.hid h5
        clear hC h1 h2 h3 h4 m1 m2 m3 m4 hm h5
        go_wp2_with (fail)
        refine (HC.out).mono ?_
        rintro e w1 ⟨rfl, hb⟩
        go_wp2
        go_roundw
        case rel => exact ⟨m, hi, rfl, rfl, K5.out, K2.out, K3.out, below_on hbl hbl.size hb⟩
        case measure => clear hsb m5 m6 m7 m8 m9 m10; simp [intOf]; have := N1.out; have := N2.out; omega
      · rw [show decide (m ≤ M) = false by simpa using h5] at hC
        have HC := Lib.hid hC
        have K5 := Lib.hid (Nat.lt_of_not_le h5)
        clear hC h1 h2 h3 h4 m1 m2 m3 m4 hm h5
        go_wp2_with (fail)
        refine (HC.out).mono ?_
        rintro e w1 ⟨rfl, hb⟩
        go_wp2
        go_roundw
        case rel => exact ⟨lo, m, rfl, rfl, K1.out, K5.out, by have := N2.out; have := K3.out; omega, below_on hbl hbl.size hb⟩
        case measure => clear hsb m5 m6 m7 m8 m9 m10; simp [intOf]; have := N1.out; have := N2.out; omega
    · have qd := dist_f h4
      have hlM : lo = M := dist_m h1 h2 h4
      subst hlM
      by_cases h0 : lo = 0
      · have he : er = 6 := by have := HER.out; rw [if_pos h0] at this; exact this.symm
        subst he
        have hz : ((lo : Int) == 0) = true := by simp; exact h0
        have H0 := Lib.hid h0
        clear h1 h2 h3 h4 h0
        go_wp2
        go_ret2
        exact ⟨by rw [H0.out]; rfl, hbl⟩
      · have he : er = 0 := by have := HER.out; rw [if_neg h0] at this; exact this.symm
        subst he
        have hz : ((lo : Int) == 0) = false := by simp; exact h0
        clear h1 h2 h3 h4 h0
        go_wp2
        go_ret2
        exact ⟨rfl, hbl⟩

theorem inB_nat {x : Int} {K : Nat} (h : inB x 1 (K : Int) = true) : ∃ n : Nat, x = (n : Int) ∧ 1 ≤ n ∧ n ≤ K := by
  have := inB_t h
  exact ⟨x.toNat, by omega, by omega, by omega⟩
set_option maxHeartbeats 4000000 in
set_option maxRecDepth 100000 in
theorem longs_bad (x0 x1 x2 x3 x4 x5 : Int) (w : World) (hb : strongB x0 x1 x4 x5 = false) : Calls Try.prog 3 #[.agg #[.int .i64 x0, .int .i64 x1, .int .i64 x2, .int .i64 x3, .int .i64 x4, .int .i64 x5]] w (LivesPost w) := by
  have hl := fun w1 => Longest_bad x0 x1 x4 x5 w1 hb
  have h1 := fun w1 => refDensity_any x0 w1
  have h2 := fun w1 => refStrength_any x1 w1
  have h3 := fun w1 => refFreq_any x4 w1
  have h4 := fun w1 => refSafety_any x5 w1
  have hba := below_new w (.cells #[.int .i64 x0, .int .i64 x1, .int .i64 x2, .int .i64 x3, .int .i64 x4, .int .i64 x5] 23)
  have hli := fun w1 => lives_any w1
  unfold strongB at hb
  generalize inB x0 1 30000 = a1 at *
  generalize inB x1 1 100000 = a2 at *
  generalize inB x4 1 10000000 = a3 at *
  generalize inB x5 1 100 = a4 at *
  have R1 := Lib.hid h1
  have R2 := Lib.hid h2
  have R3 := Lib.hid h3
  have R4 := Lib.hid h4
  have HL := Lib.hid hl
  have HB := Lib.hid hba
  have HI := Lib.hid hli
  clear h1 h2 h3 h4 hl hba hli
  cases a1 with
  | false =>
    clear hb
    go_enter Try.func3, Try.ntmps3
    go_wp2_with (fail)
    refine (HL.out _).mono ?_
    rintro e w1 ⟨rfl, hb1⟩
    have b1 := below_on HB.out HB.out.size hb1
    have kb := (Blk.new w 23 [.int .i64 x0, .int .i64 x1, .int .i64 x2, .int .i64 x3, .int .i64 x4, .int .i64 x5]).keep hb1
    have c0 := kb.cell 0
    have c1 := kb.cell 1
    have c4 := kb.cell 4
    have c5 := kb.cell 5
    simp only [List.getElem?_cons_zero, List.getElem?_cons_succ] at c0 c1 c4 c5
    clear kb
    go_wp2_with (fail)
    refine (R1.out _).mono ?_
    rintro e w1 ⟨rfl, rfl⟩
    go_wp2_with (fail)
    refine (HI.out _).mono ?_
    rintro e w2 ⟨rfl, hb2⟩
    go_wp2
    go_ret
    exact ⟨rfl, below_on b1 b1.size hb2⟩
  | true =>
    cases a2 with
    | false =>
      clear hb
      go_enter Try.func3, Try.ntmps3
      go_wp2_with (fail)
      refine (HL.out _).mono ?_
      rintro e w1 ⟨rfl, hb1⟩
      have b1 := below_on HB.out HB.out.size hb1
      have kb := (Blk.new w 23 [.int .i64 x0, .int .i64 x1, .int .i64 x2, .int .i64 x3, .int .i64 x4, .int .i64 x5]).keep hb1
      have c0 := kb.cell 0
      have c1 := kb.cell 1
      have c4 := kb.cell 4
      have c5 := kb.cell 5
      simp only [List.getElem?_cons_zero, List.getElem?_cons_succ] at c0 c1 c4 c5
      clear kb
      go_wp2_with (fail)
      refine (R1.out _).mono ?_
      rintro e w1 ⟨rfl, rfl⟩
      go_wp2_with (fail)
      refine (R2.out _).mono ?_
      rintro e w1 ⟨rfl, rfl⟩
      go_wp2_with (fail)
      refine (HI.out _).mono ?_
      rintro e w2 ⟨rfl, hb2⟩
      go_wp2
      go_ret
      exact ⟨rfl, below_on b1 b1.size hb2⟩
    | true =>
      cases a3 with
      | false =>
        clear hb
        go_enter Try.func3, Try.ntmps3
        go_wp2_with (fail)
        refine (HL.out _).mono ?_
        rintro e w1 ⟨rfl, hb1⟩
        have b1 := below_on HB.out HB.out.size hb1
        have kb := (Blk.new w 23 [.int .i64 x0, .int .i64 x1, .int .i64 x2, .int .i64 x3, .int .i64 x4, .int .i64 x5]).keep hb1
        have c0 := kb.cell 0
        have c1 := kb.cell 1
        have c4 := kb.cell 4
        have c5 := kb.cell 5
        simp only [List.getElem?_cons_zero, List.getElem?_cons_succ] at c0 c1 c4 c5
        clear kb
        go_wp2_with (fail)
        refine (R1.out _).mono ?_
        rintro e w1 ⟨rfl, rfl⟩
        go_wp2_with (fail)
        refine (R2.out _).mono ?_
        rintro e w1 ⟨rfl, rfl⟩
        go_wp2_with (fail)
        refine (R3.out _).mono ?_
        rintro e w1 ⟨rfl, rfl⟩
        go_wp2_with (fail)
        refine (HI.out _).mono ?_
        rintro e w2 ⟨rfl, hb2⟩
        go_wp2
        go_ret
        exact ⟨rfl, below_on b1 b1.size hb2⟩
      | true =>
        cases a4 with
        | false =>
          clear hb
          go_enter Try.func3, Try.ntmps3
          go_wp2_with (fail)
          refine (HL.out _).mono ?_
          rintro e w1 ⟨rfl, hb1⟩
          have b1 := below_on HB.out HB.out.size hb1
          have kb := (Blk.new w 23 [.int .i64 x0, .int .i64 x1, .int .i64 x2, .int .i64 x3, .int .i64 x4, .int .i64 x5]).keep hb1
          have c0 := kb.cell 0
          have c1 := kb.cell 1
          have c4 := kb.cell 4
          have c5 := kb.cell 5
          simp only [List.getElem?_cons_zero, List.getElem?_cons_succ] at c0 c1 c4 c5
          clear kb
          go_wp2_with (fail)
          refine (R1.out _).mono ?_
          rintro e w1 ⟨rfl, rfl⟩
          go_wp2_with (fail)
          refine (R2.out _).mono ?_
          rintro e w1 ⟨rfl, rfl⟩
          go_wp2_with (fail)
          refine (R3.out _).mono ?_
          rintro e w1 ⟨rfl, rfl⟩
          go_wp2_with (fail)
          refine (R4.out _).mono ?_
          rintro e w1 ⟨rfl, rfl⟩
          go_wp2_with (fail)
          refine (HI.out _).mono ?_
          rintro e w2 ⟨rfl, hb2⟩
          go_wp2
          go_ret
          exact ⟨rfl, below_on b1 b1.size hb2⟩
        | true => simp at hb

set_option maxHeartbeats 4000000 in
set_option maxRecDepth 100000 in
theorem longs_ok (d s f sf : Nat) (x2 x3 : Int) (w : World) (hd : InD d) (hs : InS s) (hf : InF f) (hp : InP sf) : Calls Try.prog 3 #[.agg #[.int .i64 (d : Int), .int .i64 (s : Int), .int .i64 x2, .int .i64 x3, .int .i64 (f : Int), .int .i64 (sf : Int)]] w (LivesPost w) := by
  obtain ⟨r, hr⟩ : ∃ r, IsLong d s f sf r := root_exists 2 _ (by omega)
  obtain ⟨M, hM⟩ : ∃ M, min r 100000 = M := ⟨_, rfl⟩
  have hl := fun w1 => Longest_ok d s f sf r w1 hd hs hf hp hr
  have hl2 := fun w1 => refLongest_any d s f sf r M w1 hd hs hf hp hr hM _ rfl
  have e1 : (if r = 0 then (0 : Int) else (min r 100000 : Nat)) = (M : Int) := by
    rw [hM]
    split
    · rename_i h; rw [← hM, h]; rfl
    · rfl
  have e2 : (if r = 0 then (6 : Int) else 0) = if M = 0 then 6 else 0 := by
    have : r = 0 ↔ M = 0 := by
      rw [← hM]
      rcases Nat.le_total r 100000 with h | h
      · rw [Nat.min_eq_left h]
      · rw [Nat.min_eq_right h]; omega
    simp only [this]
  simp only [e1, e2] at hl
  generalize (if M = 0 then (6 : Int) else 0) = er at *
  have h1 := fun w1 => refDensity_any d w1
  have h2 := fun w1 => refStrength_any s w1
  have h3 := fun w1 => refFreq_any f w1
  have h4 := fun w1 => refSafety_any sf w1
  rw [inB_of (by have := hd.lo; have := hd.hi; omega)] at h1
  rw [inB_of (by have := hs.lo; have := hs.hi; omega)] at h2
  rw [inB_of (by have := hf.lo; have := hf.hi; omega)] at h3
  rw [inB_of (by have := hp.lo; have := hp.hi; omega)] at h4
  have hba := below_new w (.cells #[.int .i64 (d : Int), .int .i64 (s : Int), .int .i64 x2, .int .i64 x3, .int .i64 (f : Int), .int .i64 (sf : Int)] 23)
  have hli := fun w1 => lives_any w1
  have R1 := Lib.hid h1
  have R2 := Lib.hid h2
  have R3 := Lib.hid h3
  have R4 := Lib.hid h4
  have HL := Lib.hid hl
  have HL2 := Lib.hid hl2
  have HB := Lib.hid hba
  have HI := Lib.hid hli
  clear h1 h2 h3 h4 hl hl2 hba hli e1 e2 hM hr hd hs hf hp
  go_enter Try.func3, Try.ntmps3
  go_wp2_with (fail)
  refine (HL.out _).mono ?_
  rintro e w1 ⟨rfl, hb1⟩
  have b1 := below_on HB.out HB.out.size hb1
  have kb := (Blk.new w 23 [.int .i64 (d : Int), .int .i64 (s : Int), .int .i64 x2, .int .i64 x3, .int .i64 (f : Int), .int .i64 (sf : Int)]).keep hb1
  have c0 := kb.cell 0
  have c1 := kb.cell 1
  have c4 := kb.cell 4
  have c5 := kb.cell 5
  simp only [List.getElem?_cons_zero, List.getElem?_cons_succ] at c0 c1 c4 c5
  clear kb
  go_wp2_with (fail)
  refine (R1.out _).mono ?_
  rintro e w1 ⟨rfl, rfl⟩
  go_wp2_with (fail)
  refine (R2.out _).mono ?_
  rintro e w1 ⟨rfl, rfl⟩
  go_wp2_with (fail)
  refine (R3.out _).mono ?_
  rintro e w1 ⟨rfl, rfl⟩
  go_wp2_with (fail)
  refine (R4.out _).mono ?_
  rintro e w1 ⟨rfl, rfl⟩
  go_wp2_with (fail)
  refine (HL2.out _).mono ?_
  rintro e w2 ⟨rfl, hb2⟩
  have b2 := below_on b1 b1.size hb2
  go_wp2_with (fail)
  refine (HI.out _).mono ?_
  rintro e w3 ⟨rfl, hb3⟩
  go_wp2
  go_ret
  exact ⟨rfl, below_on b2 b2.size hb3⟩
theorem longs_walk (x0 x1 x2 x3 x4 x5 : Int) (w : World) : Calls Try.prog 3 #[.agg #[.int .i64 x0, .int .i64 x1, .int .i64 x2, .int .i64 x3, .int .i64 x4, .int .i64 x5]] w (LivesPost w) := by
  cases h : strongB x0 x1 x4 x5 with
  | false => exact longs_bad _ _ _ _ _ _ w h
  | true =>
    unfold strongB at h
    simp only [Bool.and_eq_true] at h
    obtain ⟨⟨⟨h1, h2⟩, h3⟩, h4⟩ := h
    obtain ⟨d, rfl, d1, d2⟩ := inB_nat (K := 30000) h1
    obtain ⟨s, rfl, s1, s2⟩ := inB_nat (K := 100000) h2
    obtain ⟨f, rfl, f1, f2⟩ := inB_nat (K := 10000000) h3
    obtain ⟨sf, rfl, p1, p2⟩ := inB_nat (K := 100) h4
    exact longs_ok d s f sf x2 x3 w ⟨d1, d2⟩ ⟨s1, s2⟩ ⟨f1, f2⟩ ⟨p1, p2⟩
end Go.Proofs.Ythgekjkgfccnaaa
