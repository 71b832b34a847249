/- Ceiling. -/
import Derived.Test.YtkfjlgjncaddpaaPan2
import Derived.Test.YtkfjlgjncaddpaaWChk
import Derived.Deep.Cut
namespace Go.Proofs.Ytkfjlgjncaddpaa
open Go.RowKit

theorem fits_any (s : Sh) (a b : Int) (w : World) : Calls Try.prog 50 #[shV s, .int .i64 a, .int .i64 b] w fun e w' => e = .returned (.bool (fitB s a b)) ∧ Below w.heap.size w w' := by
  obtain ⟨sw, sh, sv, st⟩ := s
  have hb := below_new w (.cells #[.int .i64 sw, .int .i64 sh, .int .i64 sv, .bool st] 65)
  unfold fitB shV
  simp only
  by_cases h1 : sw ≤ a
  · have d1 : decide (sw ≤ a) = true := by simpa using h1
    by_cases h2 : sh ≤ b
    · have d2 : decide (sh ≤ b) = true := by simpa using h2
      go_enter Try.func50, Try.ntmps50
      go_wp2
      go_ret
      exact ⟨by simp [h1, h2], hb⟩
    · have d2 : decide (sh ≤ b) = false := by simpa using h2
      cases st with
      | false =>
        go_enter Try.func50, Try.ntmps50
        go_wp2
        go_ret
        exact ⟨by simp [h2], hb⟩
      | true =>
        by_cases h3 : sh ≤ a
        · have d3 : decide (sh ≤ a) = true := by simpa using h3
          go_enter Try.func50, Try.ntmps50
          go_wp2
          go_ret
          exact ⟨by simp [h2, h3], hb⟩
        · have d3 : decide (sh ≤ a) = false := by simpa using h3
          go_enter Try.func50, Try.ntmps50
          go_wp2
          go_ret
          exact ⟨by simp [h2, h3], hb⟩
  · have d1 : decide (sw ≤ a) = false := by simpa using h1
    cases st with
    | false =>
      go_enter Try.func50, Try.ntmps50
      go_wp2
      go_ret
      exact ⟨by simp [h1], hb⟩
    | true =>
      by_cases h3 : sh ≤ a
      · have d3 : decide (sh ≤ a) = true := by simpa using h3
        go_enter Try.func50, Try.ntmps50
        go_wp2
        go_ret
        exact ⟨by simp [h1, h3], hb⟩
      · have d3 : decide (sh ≤ a) = false := by simpa using h3
        go_enter Try.func50, Try.ntmps50
        go_wp2
        go_ret
        exact ⟨by simp [h1, h3], hb⟩

theorem ceil_fold_big {i j : Nat} (hi : i ≤ 64) (hj : j ≤ 64) (l : List Sh) (hok : OkS l) (c : Int) (h0 : 0 ≤ c) (h1 : c ≤ 4096000000) : 0 ≤ l.foldl (ceilS i j) c ∧ l.foldl (ceilS i j) c ≤ 4096000000 := by
  induction l generalizing c with
  | nil => exact ⟨h0, h1⟩
  | cons s l ih =>
    obtain ⟨a1, a2, a3, a4, a5, a6⟩ := hok s (by simp)
    refine ih (fun x hx => hok x (by simp [hx])) _ ?_ ?_
    · unfold ceilS; split <;> omega
    · unfold ceilS
      split
      · have m1 : (i : Int) * j ≤ 64 * 64 := Int.mul_le_mul (by omega) (by omega) (by omega) (by omega)
        have m0 : (0 : Int) ≤ (i : Int) * j := Int.mul_nonneg (by omega) (by omega)
        have m2 : (i : Int) * j * s.v ≤ 4096 * 1000000 := Int.mul_le_mul (by omega) a6 a5 (by omega)
        have m3 : (1 : Int) ≤ s.w * s.h := by have := Int.mul_le_mul a1 a3 (by omega) (by omega); omega
        have m4 : (i : Int) * j * s.v / (s.w * s.h) ≤ (i : Int) * j * s.v := Int.ediv_le_self _ (Int.mul_nonneg m0 a5)
        omega
      · exact h1
def CeiPost (W H K : Int) (ss : List Sh) (w : World) (e : Ending) (w' : World) : Prop := Below w.heap.size w w' ∧ ((okP W H K ss = false ∧ e = .returned (.tuple #[.int .i64 0, .int .i64 1])) ∨ (okP W H K ss = true ∧ e = .returned (.tuple #[.int .i64 (ceilF W H ss), .int .i64 0])))
set_option maxHeartbeats 2000000 in
set_option maxRecDepth 100000 in
theorem ceil_any (W H K : Int) (A : Option Addr) (c L : Nat) (ss : List Sh) (w : World) (hA : ShAt w A ss) (hL : L = ss.length) (hLs : L ≤ 1000000) :
    Calls Try.prog 35 #[.int .i64 W, .int .i64 H, .int .i64 K, .slice A L c] w (CeiPost W H K ss w) := by
  have hck := check_any W H K A c L ss w hA hL hLs
  cases hok : okP W H K ss with
  | false =>
    have e : ckE W H K ss = 1 := by unfold ckE; rw [hok]; rfl
    rw [e] at hck
    have HCK := Lib.hid hck
    have HOK := Lib.hid hok
    clear hck hok e hA hL
    go_enter Try.func35, Try.ntmps35
    go_wp2_with (go_at_call 19; refine (HCK.out).mono ?_; rintro e w1 ⟨rfl, hb1⟩)
    go_ret2
    exact ⟨hb1, .inl ⟨HOK.out, rfl⟩⟩
  | true =>
    have e : ckE W H K ss = 0 := by unfold ckE; rw [hok]; rfl
    rw [e] at hck
    obtain ⟨i, j, k, rfl, rfl, rfl, hi1, hi, hj1, hj, hk, hlen, hoks⟩ := okP_ok hok
    have HCK := Lib.hid hck
    have HOK := Lib.hid hok
    have HA := Lib.hid hA
    have HL := Lib.hid hL
    have HS := Lib.hid hoks
    have m1 : (i : Int) * j ≤ 64 * 64 := Int.mul_le_mul (by omega) (by omega) (by omega) (by omega)
    have m0 : (0 : Int) ≤ (i : Int) * j := Int.mul_nonneg (by omega) (by omega)
    have e1 : IntKind.i64.wrap ((i : Int) * j) = (i : Int) * j := wrapI (by omega) (by omega)
    have HM1 := Lib.hid m1
    have HM0 := Lib.hid m0
    clear hck hok e hA hL hoks hlen m1 m0
    go_enter Try.func35, Try.ntmps35
    go_upto_region 6 with (go_at_call 19; refine (HCK.out).mono ?_; rintro e w1 ⟨rfl, hb1⟩)
    have HB1 := Lib.hid hb1
    clear hb1
    go_loopw [24, 13, 11] (fun t _ cl wr => ∃ n : Nat, n ≤ L ∧ t = .int .i64 (n : Int) ∧ cl = .int .i64 ((ss.take n).foldl (ceilS i j) 0) ∧ Below w.heap.size w wr) (fun t _ _ _ => L - (intOf t).toNat)
    case atStart => exact ⟨0, Nat.zero_le _, rfl, rfl, HB1.out⟩
    case round =>
      clear HB1
      obtain ⟨n, hn, rfl, rfl, hbel⟩ := hrel
      by_cases hlt : n < L
      · obtain ⟨g, off, rfl, hg, c0, c1, c2, c3⟩ := ShAt.at_ (HA.out.keep hbel) (i := n) (by have := HL.out; omega)
        have ht : ss[n]? = some (ss.getD n sh0) := by rw [List.getD_eq_getElem?_getD, List.getElem?_eq_getElem (by have := HL.out; omega)]; rfl
        have hmem := List.mem_of_getElem? ht
        obtain ⟨a1, a2, a3, a4, a5, a6⟩ := HS.out _ hmem
        have hnext : (ss.take (n + 1)).foldl (ceilS i j) 0 = ceilS i j ((ss.take n).foldl (ceilS i j) 0) (ss.getD n sh0) := by
          rw [List.take_add_one, ht, List.foldl_append]; rfl
        have hbig := ceil_fold_big hi hj (ss.take n) (fun s hs => HS.out s (List.mem_of_mem_take hs)) 0 (by omega) (by omega)
        obtain ⟨cn, hcn⟩ : ∃ cn, cn = (ss.take n).foldl (ceilS i j) 0 := ⟨_, rfl⟩
        rw [← hcn] at hnext hbig ⊢
        have HNX := Lib.hid hnext
        clear hnext hcn ht hmem
        generalize ss.getD n sh0 = s at *
        obtain ⟨sw, sh, sv, st⟩ := s
        simp only at c0 c1 c2 c3 a1 a2 a3 a4 a5 a6
        have hlt2 : (n : Int) < (L : Int) := by omega
        have hb2 := hbel.alloc hbel.size (.cells #[.int .i64 sw, .int .i64 sh, .int .i64 sv, .bool st] 65)
        have hq := Blk.new wr 65 (shC ⟨sw, sh, sv, st⟩)
        have hfi := fun W => fits_any ⟨sw, sh, sv, st⟩ (i : Int) (j : Int) W
        unfold shV at hfi
        have m2 : (i : Int) * j * sv ≤ 4096 * 1000000 := Int.mul_le_mul HM1.out a6 a5 (by omega)
        have m3 : (1 : Int) ≤ sw * sh := by have := Int.mul_le_mul a1 a3 (by omega) (by omega); omega
        have m5 : sw * sh ≤ 64 * 64 := Int.mul_le_mul a2 a4 (by omega) (by omega)
        have m6 : (0 : Int) ≤ (i : Int) * j * sv := Int.mul_nonneg HM0.out a5
        have e2 : IntKind.i64.wrap ((i : Int) * j * sv) = (i : Int) * j * sv := wrapI (by omega) (by omega)
        have e3 : IntKind.i64.wrap (sw * sh) = sw * sh := wrapI (by omega) (by omega)
        have m7 : (i : Int) * j * sv / (sw * sh) ≤ (i : Int) * j * sv := Int.ediv_le_self _ m6
        have m8 : 0 ≤ (i : Int) * j * sv / (sw * sh) := Int.ediv_nonneg m6 (by omega)
        have HB2 := Lib.hid hb2
        have HFI := Lib.hid hfi
        have HQ := Lib.hid hq
        obtain ⟨fb, hfb⟩ : ∃ fb, fb = fitB ⟨sw, sh, sv, st⟩ (i : Int) (j : Int) := ⟨_, rfl⟩
        rw [← hfb] at HFI
        have HFB := Lib.hid hfb
        clear hb2 hfi hbel hq hfb
        go_upto_region 8 with (fail)
        have s0 := HQ.out.cell 0
        have s1 := HQ.out.cell 1
        have s2 := HQ.out.cell 2
        have s3 := HQ.out.cell 3
        simp only [shC, List.getElem?_cons_zero, List.getElem?_cons_succ] at s0 s1 s2 s3
        obtain ⟨q, hq⟩ : ∃ q, q = wr.heap.size := ⟨_, rfl⟩
        rw [← hq] at s0 s1 s2 s3 HQ ⊢
        clear hq c0 c1 c2 c3 hg
        replace HQ : Hid (Blk 65 (wr.alloc (.cells #[.int .i64 sw, .int .i64 sh, .int .i64 sv, .bool st] 65)) q (shC ⟨sw, sh, sv, st⟩)) := HQ
        generalize wr.alloc (.cells #[.int .i64 sw, .int .i64 sh, .int .i64 sv, .bool st] 65) = W1 at *
        cases fb with
        | false =>
          go_wp2_with (go_at_call 50; refine (HFI.out _).mono ?_; rintro e w2 ⟨rfl, hb3⟩)
          have HB3 := Lib.hid (below_on HB2.out HB2.out.size hb3)
          go_roundw
          case rel => exact ⟨n + 1, by omega, by go_num, by rw [HNX.out]; unfold ceilS; rw [← HFB.out]; rfl, HB3.out⟩
          case measure => simp [intOf]; omega
        | true =>
          go_upto_region 9 with (go_at_call 50; refine (HFI.out _).mono ?_; rintro e w2 ⟨rfl, hb3⟩)
          have HB3 := Lib.hid (below_on HB2.out HB2.out.size hb3)
          have t0 := (HQ.out.keep hb3).cell 0
          have t1 := (HQ.out.keep hb3).cell 1
          have t2 := (HQ.out.keep hb3).cell 2
          simp only [shC, List.getElem?_cons_zero, List.getElem?_cons_succ] at t0 t1 t2
          clear s0 s1 s2 s3 hb3
          have nz : ¬ sw * sh = 0 := by omega
          go_wp2_with (fail)
          go_roundw
          case rel =>
            refine ⟨n + 1, by omega, by go_num, ?_, HB3.out⟩
            rw [HNX.out]
            unfold ceilS
            rw [← HFB.out, if_pos rfl]
            show Value.int .i64 _ = Value.int .i64 (max cn ((i : Int) * j * sv / (sw * sh)))
            congr 1
            split <;> omega
          case measure => simp [intOf]; omega
      · obtain rfl : n = L := by omega
        have he : (ss.take n).foldl (ceilS i j) 0 = ceilF i j ss := by rw [HL.out, List.take_length]; rfl
        rw [he]
        have HB2 := Lib.hid hbel
        clear he hbel
        go_wp2
        go_ret2
        exact ⟨HB2.out, .inr ⟨HOK.out, rfl⟩⟩
end Go.Proofs.Ytkfjlgjncaddpaa
