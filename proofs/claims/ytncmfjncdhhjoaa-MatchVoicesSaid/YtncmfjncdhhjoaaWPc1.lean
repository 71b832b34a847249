/- price and haveSizes. -/
import Derived.Test.YtncmfjncdhhjoaaMPri
import Derived.Test.YtncmfjncdhhjoaaWCk
namespace Go.Proofs.Ytncmfjncdhhjoaa
open Go.RowKit

set_option maxHeartbeats 2000000 in
set_option maxRecDepth 100000 in
theorem price_any (ja jb qa qb bend trim : Int) (hb : 0 ≤ bend ∧ bend ≤ 100) (ht : 0 ≤ trim ∧ trim ≤ 100) (hj : okJ ⟨ja, jb⟩ = true) (hq : okJ ⟨qa, qb⟩ = true) (w : World) :
    Calls Try.prog 67 #[.agg #[.int .i64 ja, .int .i64 jb], .agg #[.int .i64 qa, .int .i64 qb], .int .i64 bend, .int .i64 trim] w fun e w' => e = .returned (.int .i64 (priF bend trim ⟨ja, jb⟩ ⟨qa, qb⟩)) ∧ Below w.heap.size w w' := by
  have hl : ∀ x y : Obj, Below w.heap.size w ((w.alloc x).alloc y) := fun x y => ((Below.refl _ _).alloc (Nat.le_refl _) _).alloc (by simp) _
  have HL := Lib.hid hl
  obtain ⟨j1, j2⟩ := okJ_t hj
  obtain ⟨q1, q2⟩ := okJ_t hq
  simp only at j1 j2 q1 q2
  have hdef : priF bend trim ⟨ja, jb⟩ ⟨qa, qb⟩ = if qb < jb then -1 else (if qa - ja < 0 then -(qa - ja) else qa - ja) * bend + (qb - jb) * trim := rfl
  have HD := Lib.hid hdef
  generalize priF bend trim ⟨ja, jb⟩ ⟨qa, qb⟩ = p at *
  clear hl hdef hj hq
  by_cases hlt : qb < jb
  · have hd : decide (qb < jb) = true := by simpa using hlt
    have hp : p = -1 := by rw [HD.out, if_pos hlt]
    have HP := Lib.hid hp
    clear hlt hp j1 j2 q1 q2 hb ht
    go_enter Try.func67, Try.ntmps67
    go_wp2_with (fail)
    go_ret
    exact ⟨by rw [HP.out]; rfl, HL.out _ _⟩
  · have hd : decide (qb < jb) = false := by simpa using hlt
    obtain ⟨o, ho⟩ : ∃ o, o = qa - ja := ⟨_, rfl⟩
    obtain ⟨d, hdd⟩ : ∃ d, d = qb - jb := ⟨_, rfl⟩
    obtain ⟨a, ha⟩ : ∃ a, a = (if o < 0 then -o else o) := ⟨_, rfl⟩
    have ha2 : 0 ≤ a ∧ a ≤ 10000 := by rw [ha]; split <;> omega
    have m1 := mul_rng (a := a) (b := bend) (K := 10000) (L := 100) ha2.1 ha2.2 hb.1 hb.2
    have m2 := mul_rng (a := d) (b := trim) (K := 10000) (L := 100) (by omega) (by omega) ht.1 ht.2
    have hp : p = a * bend + d * trim := by rw [HD.out, if_neg hlt, ← ho, ← hdd, ← ha]
    have w1 : IntKind.i64.wrap (qa - ja) = o := by rw [wrapI (by omega) (by omega)]; exact ho.symm
    have w2 : IntKind.i64.wrap (-o) = -o := wrapI (by omega) (by omega)
    have w3 : IntKind.i64.wrap (qb - jb) = d := by rw [wrapI (by omega) (by omega)]; exact hdd.symm
    have w4 : IntKind.i64.wrap (a * bend) = a * bend := wrapI (by omega) (by omega)
    have w5 : IntKind.i64.wrap (d * trim) = d * trim := wrapI (by omega) (by omega)
    have w6 : IntKind.i64.wrap (a * bend + d * trim) = a * bend + d * trim := wrapI (by omega) (by omega)
    have hmx : (if o < -o then -o else o) = a := by rw [ha]; split <;> split <;> omega
    have HP := Lib.hid hp
    clear hlt hp j1 j2 q1 q2 hb ht ho hdd ha ha2 m1 m2
    go_enter Try.func67, Try.ntmps67
    go_wp2_with (fail)
    go_ret
    exact ⟨by rw [HP.out]; rfl, HL.out _ _⟩

theorem okJ_f1 {x : J2} (h : inB x.a 0 10000 = false) : okJ x = false := by unfold okJ; rw [h]; rfl
theorem okJ_f2 {x : J2} (h : inB x.b 0 10000 = false) : okJ x = false := by unfold okJ; rw [h]; simp
theorem okJ_tt {x : J2} (h : inB x.a 0 10000 = true) (h' : inB x.b 0 10000 = true) : okJ x = true := by unfold okJ; rw [h, h']; rfl

set_option maxHeartbeats 4000000 in
set_option maxRecDepth 100000 in
theorem haveSizes_any (A A' : Option Addr) (c c' n m : Nat) (js qs : List J2) (w : World) (hA : JAt w A js) (hA' : JAt w A' qs) (hn : n = js.length) (hm : m = qs.length) (hn64 : n ≤ 100000) (hm64 : m ≤ 100000) :
    Calls Try.prog 66 #[.slice A n c, .slice A' m c'] w fun e w' => e = .returned (.bool (js.all okJ && qs.all okJ)) ∧ Below w.heap.size w w' := by
  have hkp := fun W (h : Below w.heap.size w W) => (⟨Vals.keep hA h, Vals.keep hA' h⟩ : JAt W A js ∧ JAt W A' qs)
  have HKP := Lib.hid hkp
  have HN := Lib.hid hn
  have HM := Lib.hid hm
  clear hkp hA hA' hn hm
  go_enter Try.func66, Try.ntmps66
  go_wp2_with (fail)
  go_loopw [6, 11] (fun _ t wr => ∃ i : Nat, i ≤ n ∧ t = .int .i64 (i : Int) ∧ Hid ((js.take i).all okJ = true) ∧ Below w.heap.size w wr) (fun _ t _ => n - (intOf t).toNat)
  case atStart => exact ⟨0, Nat.zero_le _, rfl, Lib.hid (by simp), Below.refl _ _⟩
  case round =>
    obtain ⟨i, hi, rfl, HAL, hl⟩ := hrel
    by_cases hlt : i < n
    · have hiI : (i : Int) < (n : Int) := by omega
      obtain ⟨g, off, x, rfl, hg, hx, hc0, hc1⟩ := JAt.at_ (HKP.out wr hl).1 (i := i) (by have := HN.out; omega)
      obtain ⟨xa, xb⟩ := x
      simp only at hc0 hc1
      have HX := Lib.hid hx
      have hl2 := hl.alloc hl.size (.cells #[.int .i64 xa, .int .i64 xb] 68)
      have hwa := fun W => within_any xa 0 10000 W
      have hwb := fun W => within_any xb 0 10000 W
      clear hx
      cases ha : inB xa 0 10000 with
      | false =>
        rw [ha] at hwa
        have HWA := Lib.hid hwa
        have HBAD := Lib.hid (all_bad HX.out (okJ_f1 ha))
        clear hwa hwb ha
        go_wp2_with (go_at_call 50; refine (HWA.out _).mono ?_; rintro e w5 ⟨rfl, rfl⟩)
        go_ret
        exact ⟨by rw [HBAD.out]; rfl, hl2⟩
      | true =>
        rw [ha] at hwa
        cases hb : inB xb 0 10000 with
        | false =>
          rw [hb] at hwb
          have HWA := Lib.hid hwa
          have HWB := Lib.hid hwb
          have HBAD := Lib.hid (all_bad HX.out (okJ_f2 hb))
          clear hwa hwb ha hb
          go_wp2_with (fail)
          refine (HWA.out _).mono ?_
          rintro e w5 ⟨rfl, rfl⟩
          go_wp2_with (go_at_call 50; refine (HWB.out _).mono ?_; rintro e w5 ⟨rfl, rfl⟩)
          go_ret
          exact ⟨by rw [HBAD.out]; rfl, hl2⟩
        | true =>
          rw [hb] at hwb
          have HWA := Lib.hid hwa
          have HWB := Lib.hid hwb
          have HN2 := Lib.hid (all_take_succ HAL.out HX.out (okJ_tt ha hb))
          clear hwa hwb ha hb
          go_wp2_with (fail)
          refine (HWA.out _).mono ?_
          rintro e w5 ⟨rfl, rfl⟩
          go_wp2_with (go_at_call 50; refine (HWB.out _).mono ?_; rintro e w5 ⟨rfl, rfl⟩)
          go_roundw
          case rel => exact ⟨i + 1, by omega, by go_num, HN2, hl2⟩
          case measure => simp [intOf]; omega
    · obtain rfl : i = n := by omega
      have hall : js.all okJ = true := by
        have h := HAL.out
        rw [HN.out, List.take_length] at h
        exact h
      have HALL := Lib.hid hall
      clear hall HAL
      go_wp2_with (fail)
      clear hi hlt
      go_loopw [8, 28] (fun _ t wr => ∃ i : Nat, i ≤ m ∧ t = .int .i64 (i : Int) ∧ Hid ((qs.take i).all okJ = true) ∧ Below w.heap.size w wr) (fun _ t _ => m - (intOf t).toNat)
      case atStart => exact ⟨0, Nat.zero_le _, rfl, Lib.hid (by simp), hl⟩
      case round =>
        clear hl
        obtain ⟨k, hk, rfl, HAL, hl⟩ := hrel
        by_cases hlt : k < m
        · have hiI : (k : Int) < (m : Int) := by omega
          obtain ⟨g, off, x, rfl, hg, hx, hc0, hc1⟩ := JAt.at_ (HKP.out _ hl).2 (i := k) (by have := HM.out; omega)
          obtain ⟨xa, xb⟩ := x
          simp only at hc0 hc1
          have HX := Lib.hid hx
          have hl2 := hl.alloc hl.size (.cells #[.int .i64 xa, .int .i64 xb] 66)
          have hwa := fun W => within_any xa 0 10000 W
          have hwb := fun W => within_any xb 0 10000 W
          clear hx
          cases ha : inB xa 0 10000 with
          | false =>
            rw [ha] at hwa
            have HWA := Lib.hid hwa
            have HBAD := Lib.hid (all_bad HX.out (okJ_f1 ha))
            clear hwa hwb ha
            go_wp2_with (go_at_call 50; refine (HWA.out _).mono ?_; rintro e w5 ⟨rfl, rfl⟩)
            go_ret
            exact ⟨by rw [HALL.out, HBAD.out]; rfl, hl2⟩
          | true =>
            rw [ha] at hwa
            cases hb : inB xb 0 10000 with
            | false =>
              rw [hb] at hwb
              have HWA := Lib.hid hwa
              have HWB := Lib.hid hwb
              have HBAD := Lib.hid (all_bad HX.out (okJ_f2 hb))
              clear hwa hwb ha hb
              go_wp2_with (fail)
              refine (HWA.out _).mono ?_
              rintro e w5 ⟨rfl, rfl⟩
              go_wp2_with (go_at_call 50; refine (HWB.out _).mono ?_; rintro e w5 ⟨rfl, rfl⟩)
              go_ret
              exact ⟨by rw [HALL.out, HBAD.out]; rfl, hl2⟩
            | true =>
              rw [hb] at hwb
              have HWA := Lib.hid hwa
              have HWB := Lib.hid hwb
              have HN2 := Lib.hid (all_take_succ HAL.out HX.out (okJ_tt ha hb))
              clear hwa hwb ha hb
              go_wp2_with (fail)
              refine (HWA.out _).mono ?_
              rintro e w5 ⟨rfl, rfl⟩
              go_wp2_with (go_at_call 50; refine (HWB.out _).mono ?_; rintro e w5 ⟨rfl, rfl⟩)
              go_roundw
              case rel => exact ⟨k + 1, by omega, by go_num, HN2, hl2⟩
              case measure => simp [intOf]; omega
        · obtain rfl : k = m := by omega
          have hall : qs.all okJ = true := by
            have h := HAL.out
            rw [HM.out, List.take_length] at h
            exact h
          have HALL2 := Lib.hid hall
          clear hall HAL
          go_wp2_with (fail)
          go_ret
          exact ⟨by rw [HALL.out, HALL2.out]; rfl, hl⟩
end Go.Proofs.Ytncmfjncdhhjoaa
