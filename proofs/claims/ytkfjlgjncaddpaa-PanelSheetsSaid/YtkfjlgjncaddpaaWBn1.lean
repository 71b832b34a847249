/- Wants and sheets; the reference's ceiling. -/
import Derived.Test.YtkfjlgjncaddpaaWCei
import Derived.Test.YtkfjlgjncaddpaaShlP
namespace Go.Proofs.Ytkfjlgjncaddpaa
open Go.RowKit

theorem refFits_any (s : Sh) (a b : Int) (w : World) : Calls Try.prog 52 #[.int .i64 a, .int .i64 b, shV s] w fun e w' => e = .returned (.bool (fitB s a b)) ∧ Below w.heap.size w w' := by
  obtain ⟨sw, sh, sv, st⟩ := s
  have hb := below_new w (.cells #[.int .i64 sw, .int .i64 sh, .int .i64 sv, .bool st] 65)
  unfold fitB shV
  simp only
  by_cases h1 : sw ≤ a
  · have d1 : decide (sw ≤ a) = true := by simpa using h1
    by_cases h2 : sh ≤ b
    · have d2 : decide (sh ≤ b) = true := by simpa using h2
      go_enter Try.func52, Try.ntmps52
      go_wp2
      go_ret
      exact ⟨by simp [h1, h2], hb⟩
    · have d2 : decide (sh ≤ b) = false := by simpa using h2
      cases st with
      | false =>
        go_enter Try.func52, Try.ntmps52
        go_wp2
        go_ret
        exact ⟨by simp [h2], hb⟩
      | true =>
        by_cases h3 : sh ≤ a
        · have d3 : decide (sh ≤ a) = true := by simpa using h3
          go_enter Try.func52, Try.ntmps52
          go_wp2
          go_ret
          exact ⟨by simp [h2, h3], hb⟩
        · have d3 : decide (sh ≤ a) = false := by simpa using h3
          go_enter Try.func52, Try.ntmps52
          go_wp2
          go_ret
          exact ⟨by simp [h2, h3], hb⟩
  · have d1 : decide (sw ≤ a) = false := by simpa using h1
    cases st with
    | false =>
      go_enter Try.func52, Try.ntmps52
      go_wp2
      go_ret
      exact ⟨by simp [h1], hb⟩
    | true =>
      by_cases h3 : sh ≤ a
      · have d3 : decide (sh ≤ a) = true := by simpa using h3
        go_enter Try.func52, Try.ntmps52
        go_wp2
        go_ret
        exact ⟨by simp [h1, h3], hb⟩
      · have d3 : decide (sh ≤ a) = false := by simpa using h3
        go_enter Try.func52, Try.ntmps52
        go_wp2
        go_ret
        exact ⟨by simp [h1, h3], hb⟩

set_option maxHeartbeats 2000000 in
set_option maxRecDepth 100000 in
theorem refCeil_any (i j : Nat) (A : Option Addr) (c L : Nat) (ss : List Sh) (w : World) (hA : ShAt w A ss) (hL : L = ss.length) (hi1 : 1 ≤ i) (hi : i ≤ 64) (hj1 : 1 ≤ j) (hj : j ≤ 64) (hoks : OkS ss) (hLs : L ≤ 1000000) :
    Calls Try.prog 38 #[.int .i64 (i : Int), .int .i64 (j : Int), .slice A L c] w fun e w' => e = .returned (.int .i64 (ceilF i j ss)) ∧ Below w.heap.size w w' := by
  have HA := Lib.hid hA
  have HL := Lib.hid hL
  have HS := Lib.hid hoks
  have m1 : (i : Int) * j ≤ 64 * 64 := Int.mul_le_mul (by omega) (by omega) (by omega) (by omega)
  have m0 : (0 : Int) ≤ (i : Int) * j := Int.mul_nonneg (by omega) (by omega)
  have e1 : IntKind.i64.wrap ((i : Int) * j) = (i : Int) * j := wrapI (by omega) (by omega)
  have HM1 := Lib.hid m1
  have HM0 := Lib.hid m0
  clear hA hL hoks m1 m0
  go_enter Try.func38, Try.ntmps38
  go_upto_region 3 with (fail)
  have HB1 := Lib.hid (Below.refl w.heap.size w)
  go_loopw [8, 9, 7] (fun t _ cl wr => ∃ n : Nat, n ≤ L ∧ t = .int .i64 (n : Int) ∧ cl = .int .i64 ((ss.take n).foldl (ceilS i j) 0) ∧ Below w.heap.size w wr) (fun t _ _ _ => L - (intOf t).toNat)
  case atStart => exact ⟨0, Nat.zero_le _, rfl, rfl, HB1.out⟩
  case round =>
    clear HB1
    obtain ⟨n, hn, rfl, rfl, hbel⟩ := hrel
    by_cases hlt : n < L
    · obtain ⟨g, off, rfl, hg, c0, c1, c2, c3⟩ := ShAt.at_ (HA.out.keep hbel) (i := n) (by have := HL.out; omega)
      have ht : ss[n]? = some (ss.getD n sh0) := by rw [List.getD_eq_getElem?_getD, List.getElem?_eq_getElem (by have := HL.out; omega)]; rfl
      have hmem := List.mem_of_getElem? ht
      obtain ⟨a1, a2, a3, a4, a5, a6⟩ := HS.out _ hmem
      have hnext : (ss.take (n + 1)).foldl (ceilS i j) 0 = ceilS i j ((ss.take n).foldl (ceilS i j) 0) (ss.getD n sh0) := by
        rw [List.take_add_one, ht, List.foldl_append]; rfl
      have hbig := ceil_fold_big hi hj (ss.take n) (fun s hs => HS.out s (List.mem_of_mem_take hs)) 0 (by omega) (by omega)
      obtain ⟨cn, hcn⟩ : ∃ cn, cn = (ss.take n).foldl (ceilS i j) 0 := ⟨_, rfl⟩
      rw [← hcn] at hnext hbig ⊢
      have HNX := Lib.hid hnext
      clear hnext hcn ht hmem
      generalize ss.getD n sh0 = s at *
      obtain ⟨sw, sh, sv, st⟩ := s
      simp only at c0 c1 c2 c3 a1 a2 a3 a4 a5 a6
      have hlt2 : (n : Int) < (L : Int) := by omega
      have hb2 := hbel.alloc hbel.size (.cells #[.int .i64 sw, .int .i64 sh, .int .i64 sv, .bool st] 65)
      have hq := Blk.new wr 65 (shC ⟨sw, sh, sv, st⟩)
      have hfi := fun W => refFits_any ⟨sw, sh, sv, st⟩ (i : Int) (j : Int) W
      unfold shV at hfi
      have m2 : (i : Int) * j * sv ≤ 4096 * 1000000 := Int.mul_le_mul HM1.out a6 a5 (by omega)
      have m3 : (1 : Int) ≤ sw * sh := by have := Int.mul_le_mul a1 a3 (by omega) (by omega); omega
      have m5 : sw * sh ≤ 64 * 64 := Int.mul_le_mul a2 a4 (by omega) (by omega)
      have m6 : (0 : Int) ≤ (i : Int) * j * sv := Int.mul_nonneg HM0.out a5
      have e2 : IntKind.i64.wrap ((i : Int) * j * sv) = (i : Int) * j * sv := wrapI (by omega) (by omega)
      have e3 : IntKind.i64.wrap (sw * sh) = sw * sh := wrapI (by omega) (by omega)
      have m7 : (i : Int) * j * sv / (sw * sh) ≤ (i : Int) * j * sv := Int.ediv_le_self _ m6
      have m8 : 0 ≤ (i : Int) * j * sv / (sw * sh) := Int.ediv_nonneg m6 (by omega)
      have HB2 := Lib.hid hb2
      have HFI := Lib.hid hfi
      have HQ := Lib.hid hq
      obtain ⟨fb, hfb⟩ : ∃ fb, fb = fitB ⟨sw, sh, sv, st⟩ (i : Int) (j : Int) := ⟨_, rfl⟩
      rw [← hfb] at HFI
      have HFB := Lib.hid hfb
      clear hb2 hfi hbel hq hfb
      go_upto_region 6 with (fail)
      have s0 := HQ.out.cell 0
      have s1 := HQ.out.cell 1
      have s2 := HQ.out.cell 2
      have s3 := HQ.out.cell 3
      simp only [shC, List.getElem?_cons_zero, List.getElem?_cons_succ] at s0 s1 s2 s3
      obtain ⟨q, hq⟩ : ∃ q, q = wr.heap.size := ⟨_, rfl⟩
      rw [← hq] at s0 s1 s2 s3 HQ ⊢
      clear hq c0 c1 c2 c3 hg
      replace HQ : Hid (Blk 65 (wr.alloc (.cells #[.int .i64 sw, .int .i64 sh, .int .i64 sv, .bool st] 65)) q (shC ⟨sw, sh, sv, st⟩)) := HQ
      generalize wr.alloc (.cells #[.int .i64 sw, .int .i64 sh, .int .i64 sv, .bool st] 65) = W1 at *
      cases fb with
      | false =>
        go_wp2_with (go_at_call 52; refine (HFI.out _).mono ?_; rintro e w2 ⟨rfl, hb3⟩)
        have HB3 := Lib.hid (below_on HB2.out HB2.out.size hb3)
        go_roundw
        case rel => exact ⟨n + 1, by omega, by go_num, by rw [HNX.out]; unfold ceilS; rw [← HFB.out]; rfl, HB3.out⟩
        case measure => simp [intOf]; omega
      | true =>
        go_upto_region 7 with (go_at_call 52; refine (HFI.out _).mono ?_; rintro e w2 ⟨rfl, hb3⟩)
        have HB3 := Lib.hid (below_on HB2.out HB2.out.size hb3)
        have t0 := (HQ.out.keep hb3).cell 0
        have t1 := (HQ.out.keep hb3).cell 1
        have t2 := (HQ.out.keep hb3).cell 2
        simp only [shC, List.getElem?_cons_zero, List.getElem?_cons_succ] at t0 t1 t2
        clear s0 s1 s2 s3 hb3
        have nz : ¬ sw * sh = 0 := by omega
        go_wp2_with (fail)
        go_roundw
        case rel =>
          refine ⟨n + 1, by omega, by go_num, ?_, HB3.out⟩
          rw [HNX.out]
          unfold ceilS
          rw [← HFB.out, if_pos rfl]
          show Value.int .i64 _ = Value.int .i64 (max cn ((i : Int) * j * sv / (sw * sh)))
          congr 1
          split <;> omega
        case measure => simp [intOf]; omega
    · obtain rfl : n = L := by omega
      have he : (ss.take n).foldl (ceilS i j) 0 = ceilF i j ss := by rw [HL.out, List.take_length]; rfl
      rw [he]
      have HB2 := Lib.hid hbel
      clear he hbel
      go_wp2
      go_ret
      exact ⟨rfl, HB2.out⟩

/-- Is a shape wanted that does not fit. -/
def badW (i j : Int) (ss : List Sh) (ws : List Int) (n : Nat) : Bool := (List.range n).any fun r => decide (0 < ws.getD r 0) && !fitB (ss.getD r sh0) i j
theorem badW_succ (i j : Int) (ss : List Sh) (ws : List Int) (n : Nat) : badW i j ss ws (n + 1) = (badW i j ss ws n || (decide (0 < ws.getD n 0) && !fitB (ss.getD n sh0) i j)) := by
  unfold badW; rw [List.range_succ, List.any_append]; simp
theorem badW_mono {i j : Int} {ss : List Sh} {ws : List Int} {n m : Nat} (h : badW i j ss ws n = true) (hm : n ≤ m) : badW i j ss ws m = true := by
  induction m with
  | zero => have : n = 0 := by omega
            subst this; exact h
  | succ m ih =>
    by_cases e : n = m + 1
    · subst e; exact h
    · rw [badW_succ, ih (by omega)]; rfl
/-- The area of what is wanted. -/
def areaW (ss : List Sh) (ws : List Int) : Nat → Int
  | 0 => 0
  | n + 1 => areaW ss ws n + (ss.getD n sh0).w * (ss.getD n sh0).h * ws.getD n 0
def wantsOk (ws : List Int) : Bool := ws.all fun x => inB x 0 1000000
/-- What Sheets returns of a valid panel: a number, an error. -/
def sheetN (i j : Int) (ss : List Sh) (ws : List Int) : Int := if ws.length = ss.length ∧ wantsOk ws = true ∧ badW i j ss ws ss.length = false then (areaW ss ws ss.length + i * j - 1) / (i * j) else 0
def sheetE (i j : Int) (ss : List Sh) (ws : List Int) : Int := if ws.length = ss.length ∧ wantsOk ws = true then (if badW i j ss ws ss.length = true then 6 else 0) else 1
theorem area_big {ss : List Sh} {ws : List Int} (hok : OkS ss) (hw : wantsOk ws = true) (hl : ws.length = ss.length) : ∀ n, n ≤ ss.length → 0 ≤ areaW ss ws n ∧ areaW ss ws n ≤ n * 4096000000 := by
  intro n
  induction n with
  | zero => intro _; simp [areaW]
  | succ n ih =>
    intro hn
    have h1 := ih (by omega)
    obtain ⟨a1, a2, a3, a4, a5, a6⟩ := hok _ (getD_mem (ss := ss) (q := n) (by omega))
    have h2 : 0 ≤ ws.getD n 0 ∧ ws.getD n 0 ≤ 1000000 := by
      have hx : ws[n]? = some (ws.getD n 0) := by rw [List.getD_eq_getElem?_getD, List.getElem?_eq_getElem (by omega)]; rfl
      exact inB_t (List.all_eq_true.1 hw _ (List.mem_of_getElem? hx))
    have m1 : (0 : Int) ≤ (ss.getD n sh0).w * (ss.getD n sh0).h := Int.mul_nonneg (by omega) (by omega)
    have m2 : (ss.getD n sh0).w * (ss.getD n sh0).h ≤ 64 * 64 := Int.mul_le_mul a2 a4 (by omega) (by omega)
    have m3 : (ss.getD n sh0).w * (ss.getD n sh0).h * ws.getD n 0 ≤ 4096 * 1000000 := Int.mul_le_mul (by omega) h2.2 h2.1 (by omega)
    have m4 : 0 ≤ (ss.getD n sh0).w * (ss.getD n sh0).h * ws.getD n 0 := Int.mul_nonneg m1 h2.1
    unfold areaW
    constructor
    · omega
    · push_cast; omega
end Go.Proofs.Ytkfjlgjncaddpaa
