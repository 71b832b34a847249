/- Plucks; the walk of ActionCounts. -/
import Derived.Test.YtpaemlkikkcjiaaWPlay
import Derived.Test.YtpaemlkikkcjiaaWLiv
namespace Go.Proofs.Ytpaemlkikkcjiaa
open Go.RowKit

def evP (k r : Int) (x : Mo) : Bool := x.kind == 1 && (x.key == k && x.reg == r)
def cntE (k r : Int) (l : List Mo) : Nat := (l.filter (evP k r)).length
theorem cnt_succ {k r : Int} {l : List Mo} {i : Nat} {x : Mo} (h : l[i]? = some x) : cntE k r (l.take (i + 1)) = cntE k r (l.take i) + (if evP k r x then 1 else 0) := by
  have : l.take (i + 1) = l.take i ++ [x] := by rw [List.take_add_one, h]; rfl
  rw [this]
  unfold cntE
  rw [List.filter_append, List.length_append]
  cases hp : evP k r x <;> simp [hp]
theorem cnt_le (k r : Int) (l : List Mo) : cntE k r l ≤ l.length := List.length_filter_le _ _
theorem cnt_take (k r : Int) (l : List Mo) (i : Nat) : cntE k r (l.take i) ≤ i := by
  have h := cnt_le k r (l.take i)
  rw [List.length_take] at h; omega
set_option maxHeartbeats 4000000 in
set_option maxRecDepth 100000 in
theorem plucks_any (A : Option Addr) (c L : Nat) (l : List Mo) (k r : Int) (w : World) (hA : Vals w A (evL l)) (hL : L = l.length) (hLs : L ≤ 1000) :
    Calls Try.prog 46 #[.slice A L c, .int .i64 k, .int .i64 r] w fun e w' => e = .returned (.int .i64 (cntE k r l : Nat)) ∧ Below w.heap.size w w' := by
  have HA := Lib.hid hA
  have HL := Lib.hid hL
  clear hA hL
  go_enter Try.func46, Try.ntmps46
  go_wp2_with (fail)
  go_loopw [7, 9, 12] (fun n _ t wr => ∃ i : Nat, i ≤ L ∧ t = .int .i64 (i : Int) ∧ n = .int .i64 (cntE k r (l.take i) : Nat) ∧ Below w.heap.size w wr) (fun _ _ t _ => L - (intOf t).toNat)
  case atStart => exact ⟨0, Nat.zero_le _, rfl, rfl, Below.refl _ _⟩
  case round =>
    obtain ⟨i, hi, rfl, rfl, hb⟩ := hrel
    by_cases hlt : i < L
    · obtain ⟨x, hx⟩ : ∃ x, l[i]? = some x := ⟨l[i]'(by have := HL.out; omega), List.getElem?_eq_getElem _⟩
      have hcs := cnt_succ (k := k) (r := r) hx
      have hct := cnt_take k r l i
      obtain ⟨g, off, rfl, hg, c0, c1, c2, c3⟩ := ev_cells ((HA.out).keep hb) hx
      have hlt2 : (i : Int) < (L : Int) := by omega
      have HS := Lib.hid hcs
      have hsz := hb.size
      clear hx hcs
      obtain ⟨xt, xd, xk, xr, xn, xm⟩ := x
      simp only at c0 c1 c2 c3
      go_upto_region 5 with (fail)
      have hq : Blk 67 (wr.alloc (.cells #[.int .i64 xt, .int .i64 xd, .int .i64 xk, .int .i64 xr] 67)) wr.heap.size [.int .i64 xt, .int .i64 xd, .int .i64 xk, .int .i64 xr] := Blk.new wr 67 [_, _, _, _]
      have hbn := below_on hb hsz (below_new wr (.cells #[.int .i64 xt, .int .i64 xd, .int .i64 xk, .int .i64 xr] 67))
      clear hb c0 c1 c2 c3 hg hsz
      generalize wr.alloc (.cells #[.int .i64 xt, .int .i64 xd, .int .i64 xk, .int .i64 xr] 67) = W at *
      generalize wr.heap.size = q at *
      have c1 : W.cell? ⟨q, 1, none⟩ = some (.int .i64 xd) := hq.cell 1
      have c2 : W.cell? ⟨q, 2, none⟩ = some (.int .i64 xk) := hq.cell 2
      have c3 : W.cell? ⟨q, 3, none⟩ = some (.int .i64 xr) := hq.cell 3
      have HB := Lib.hid hbn
      clear hq hbn
      generalize hcc : cntE k r (l.take i) = cc at *
      clear hcc
      by_cases h1 : xd = 1
      · by_cases h2 : xk = k
        · by_cases h3 : xr = r
          · subst h1 h2 h3
            have he : cntE xk xr (l.take (i + 1)) = cc + 1 := by rw [HS.out]; simp [evP]
            have HE := Lib.hid he
            clear he
            go_wp2_with (fail)
            go_roundw
            case rel => exact ⟨i + 1, by omega, by go_num, by rw [HE.out]; go_num, HB.out⟩
            case measure => simp [intOf]; omega
          · subst h1 h2
            have hb3 : (xr == r) = false := by simpa using h3
            have hd3 : decide (xr = r) = false := by simpa using h3
            have he : cntE xk r (l.take (i + 1)) = cc := by rw [HS.out]; simp [evP, h3]
            have HE := Lib.hid he
            clear he h3
            go_wp2_with (fail)
            go_roundw
            case rel => exact ⟨i + 1, by omega, by go_num, by rw [HE.out], HB.out⟩
            case measure => simp [intOf]; omega
        · subst h1
          have hb3 : (xk == k) = false := by simpa using h2
          have he : cntE k r (l.take (i + 1)) = cc := by rw [HS.out]; simp [evP, h2]
          have HE := Lib.hid he
          clear he h2
          go_wp2_with (fail)
          go_roundw
          case rel => exact ⟨i + 1, by omega, by go_num, by rw [HE.out], HB.out⟩
          case measure => simp [intOf]; omega
      · have hb3 : (xd == 1) = false := by simpa using h1
        have he : cntE k r (l.take (i + 1)) = cc := by rw [HS.out]; simp [evP, h1]
        have HE := Lib.hid he
        clear he h1
        go_wp2_with (fail)
        go_roundw
        case rel => exact ⟨i + 1, by omega, by go_num, by rw [HE.out], HB.out⟩
        case measure => simp [intOf]; omega
    · obtain rfl : i = L := by omega
      have he : cntE k r (l.take i) = cntE k r l := by rw [HL.out, List.take_length]
      have HE := Lib.hid he
      clear he
      go_wp2
      go_ret
      exact ⟨by rw [HE.out]; rfl, hb⟩
theorem evl_take (l : List Mo) (n : Nat) : evL (l.take n) = (evL l).take (n * 4) := by
  induction l generalizing n with
  | nil => simp [evL]
  | cons t l ih =>
    cases n with
    | zero => simp [evL]
    | succ n =>
      have e : (n + 1) * 4 = n * 4 + 4 := by omega
      show evL (t :: l.take n) = _
      unfold evL at ih ⊢
      rw [List.flatMap_cons, List.flatMap_cons, ih, e]
      simp [evC]
theorem evs_take {w : World} {A : Option Addr} {l : List Mo} (h : Vals w A (evL l)) (n : Nat) : Vals w A (evL (l.take n)) := by
  rw [evl_take]; exact Vals.take h (n * 4)
set_option maxHeartbeats 4000000 in
set_option maxRecDepth 100000 in
theorem counts_any (A : Option Addr) (c L : Nat) (l : List Mo) (k r : Int) (w : World) (hA : Vals w A (evL l)) (hL : L = l.length) (hc : L ≤ c) (hcm : c ≤ maxLen) :
    Calls Try.prog 9 #[.slice A L c, .agg #[.int .i64 k, .int .i64 r]] w fun e w' => e = .returned (.bool true) ∧ Below w.heap.size w w' := by
  have hbn := below_new w (.cells #[.int .i64 k, .int .i64 r] 64)
  have hq : Blk 64 (w.alloc (.cells #[.int .i64 k, .int .i64 r] 64)) w.heap.size [.int .i64 k, .int .i64 r] := Blk.new w 64 [_, _]
  have hA1 := hA.keep hbn
  have hpos : 200 < L → ∃ g off, A = some ⟨g, off, none⟩ := fun h => by
    obtain ⟨g, off, e, _⟩ := hA (by rw [evL_len]; omega)
    exact ⟨g, off, e⟩
  obtain ⟨m, hm⟩ : ∃ m, m = if 200 < L then 200 else L := ⟨_, rfl⟩
  obtain ⟨y, hy⟩ : ∃ y, y = l.take m := ⟨_, rfl⟩
  have hyl : m = y.length := by rw [hy, List.length_take, ← hL]; split at hm <;> omega
  have hm2 : m ≤ 200 := by split at hm <;> omega
  have hAy : Vals (w.alloc (.cells #[.int .i64 k, .int .i64 r] 64)) A (evL y) := by rw [hy]; exact evs_take hA1 m
  have HA := Lib.hid hAy
  have HY := Lib.hid hyl
  clear hA hA1 hy hyl hAy hL
  have hsz := hbn.size
  go_enter Try.func9, Try.ntmps9
  go_upto_region 1 with (fail)
  generalize w.alloc (.cells #[.int .i64 k, .int .i64 r] 64) = W at *
  obtain ⟨b, hb⟩ : ∃ b, b = w.heap.size := ⟨_, rfl⟩
  rw [← hb] at hq ⊢
  have HB := Lib.hid hbn
  have j0 : W.cell? ⟨b, 0, none⟩ = some (.int .i64 k) := hq.cell 0
  have j1 : W.cell? ⟨b, 1, none⟩ = some (.int .i64 r) := hq.cell 1
  clear hq hb hbn
  go_upto_if 9 with (fail)
  go_cut [0] from 7 (fun s ww => s = .slice A m c ∧ ww = W)
  case first =>
    by_cases h : 200 < L
    · rw [if_pos h] at hm
      obtain ⟨g, off, rfl⟩ := hpos h
      have h2 : (200 : Int) < (L : Int) := by omega
      have h3 : (200 : Int) ≤ (c : Int) := by omega
      subst hm
      go_wp2_with (fail)
      go_meet
      case rel => exact ⟨rfl, rfl⟩
    · rw [if_neg h] at hm
      have h2 : ¬ (200 : Int) < (L : Int) := by omega
      subst hm
      go_wp2_with (fail)
      go_meet
      case rel => exact ⟨rfl, rfl⟩
  case rest =>
  obtain ⟨rfl, rfl⟩ := hcut
  clear hm hpos
  go_wp2_with (fail)
  go_loopw [5, 6] (fun n t wr => ∃ i z : Nat, i ≤ m ∧ t = .int .i64 (i : Int) ∧ n = .int .i64 (cntE k r (y.take i) : Nat) ∧ wr = wc.drewN z) (fun _ t _ => m - (intOf t).toNat)
  case atStart => exact ⟨0, 0, Nat.zero_le _, rfl, rfl, rfl⟩
  case round =>
    obtain ⟨i, z, hi, rfl, rfl, rfl⟩ := hrel
    by_cases hlt : i < m
    · obtain ⟨x, hx⟩ : ∃ x, y[i]? = some x := ⟨y[i]'(by have := HY.out; omega), List.getElem?_eq_getElem _⟩
      have hcs := cnt_succ (k := k) (r := r) hx
      have hct := cnt_take k r y i
      obtain ⟨g, off, rfl, hg, c0, c1, c2, c3⟩ := ev_cells HA.out hx
      have hlt2 : (i : Int) < (m : Int) := by omega
      have HS := Lib.hid hcs
      clear hx hcs
      obtain ⟨xt, xd, xk, xr, xn, xm⟩ := x
      simp only at c0 c1 c2 c3
      generalize hcc : cntE k r (y.take i) = cc at *
      clear hcc
      by_cases h1 : xd = 1
      · have hb1 : (xd == 1) = true := by simpa using h1
        by_cases h2 : xk = k
        · have hb2 : (xk == k) = true := by simpa using h2
          by_cases h3 : xr = r
          · have hb3 : (xr == r) = true := by simpa using h3
            have he : cntE k r (y.take (i + 1)) = cc + 1 := by rw [HS.out]; simp [evP, h1, h2, h3]
            have HE := Lib.hid he
            clear he h1 h2 h3
            go_wp2_with (fail)
            go_quiet (fail)
            go_wp2_with (fail)
            go_roundw
            case rel => exact ⟨i + 1, _, by omega, by go_num, by rw [HE.out]; go_num, rfl⟩
            case measure => simp [intOf]; omega
          · have hb3 : (xr == r) = false := by simpa using h3
            have he : cntE k r (y.take (i + 1)) = cc := by rw [HS.out]; simp [evP, h1, h2, h3]
            have HE := Lib.hid he
            clear he h1 h2 h3
            go_wp2_with (fail)
            go_quiet (fail)
            go_wp2_with (fail)
            go_roundw
            case rel => exact ⟨i + 1, _, by omega, by go_num, by rw [HE.out], rfl⟩
            case measure => simp [intOf]; omega
        · have hb2 : (xk == k) = false := by simpa using h2
          have he : cntE k r (y.take (i + 1)) = cc := by rw [HS.out]; simp [evP, h1, h2]
          have HE := Lib.hid he
          clear he h1 h2
          go_wp2_with (fail)
          go_quiet (fail)
          go_wp2_with (fail)
          go_roundw
          case rel => exact ⟨i + 1, _, by omega, by go_num, by rw [HE.out], rfl⟩
          case measure => simp [intOf]; omega
      · have hb1 : (xd == 1) = false := by simpa using h1
        have he : cntE k r (y.take (i + 1)) = cc := by rw [HS.out]; simp [evP, h1]
        have HE := Lib.hid he
        clear he h1
        go_wp2_with (fail)
        go_quiet (fail)
        go_wp2_with (fail)
        go_roundw
        case rel => exact ⟨i + 1, _, by omega, by go_num, by rw [HE.out], rfl⟩
        case measure => simp [intOf]; omega
    · obtain rfl : i = m := by omega
      have he : cntE k r (y.take i) = cntE k r y := by rw [HY.out, List.take_length]
      have hp := plucks_any A c i y k r (wc.drewN z) (HA.out.drewN z) HY.out (by omega)
      have HB2 := Lib.hid (below_drewN HB.out z)
      have HP := Lib.hid hp
      rw [he]
      clear he hp HA
      have j0' : (wc.drewN z).cell? ⟨b, 0, none⟩ = some (.int .i64 k) := j0
      have j1' : (wc.drewN z).cell? ⟨b, 1, none⟩ = some (.int .i64 r) := j1
      have hsz2 : w.heap.size ≤ (wc.drewN z).heap.size := hsz
      clear j0 j1 hsz HB
      generalize wc.drewN z = V at *
      generalize cntE k r y = cc at *
      have hbc : ((cc : Int) == (cc : Int)) = true := by simp
      go_wp2_with (first
        | (go_at_call 46; refine (HP.out).mono ?_; rintro e w5 ⟨rfl, hb5⟩)
        | (go_at_call 26; refine (lives_any _).mono ?_; rintro e w6 ⟨rfl, hb6⟩))
      go_ret
      exact ⟨rfl, below_on (below_on HB2.out hsz2 hb5) (below_on HB2.out hsz2 hb5).size hb6⟩
end Go.Proofs.Ytpaemlkikkcjiaa
