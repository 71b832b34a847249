/- The reference's Table. -/
import Derived.Test.YtncmfjncdhhjoaaWPc1
import Derived.Test.YtncmfjncdhhjoaaWTbl
import Derived.BigQuiet
namespace Go.Proofs.Ytncmfjncdhhjoaa
open Go.RowKit

theorem own_same {w W : World} {B e size n : Nat} {v : Value} {xs : List Value} (h : w.ownsRow B e size v n xs) (hh : W.heap = w.heap) : W.ownsRow B e size v n xs :=
  ownsRow_of h fun g _ => by rw [hh]
def RTabPost (w : World) (js qs : List J2) (bend trim : Int) (e : Ending) (w' : World) : Prop :=
  Below w.heap.size w w' ∧ ((okS js qs bend trim = false ∧ e = .returned (.tuple #[.slice none 0 0, .int .i64 1])) ∨
    (okS js qs bend trim = true ∧ ∃ v es, e = .returned (.tuple #[v, .int .i64 0]) ∧ Held w.heap.size w' v es ∧ v ≠ .slice none 0 0 ∧ (∀ x, x ∈ es → x.1 ≠ .slice none 0 0) ∧ es.map (·.2) = priL js qs bend trim))

set_option maxHeartbeats 4000000 in
set_option maxRecDepth 100000 in
theorem rtable_bad (A A' : Option Addr) (c c' n m : Nat) (js qs : List J2) (bend trim : Int) (w : World) (hA : JAt w A js) (hA' : JAt w A' qs) (hn : n = js.length) (hm : m = qs.length) (hok : okS js qs bend trim = false)
    (hyes : ¬ (inB (n : Int) 1 64 = true ∧ inB (m : Int) (n : Int) 64 = true ∧ inB bend 0 100 = true ∧ inB trim 0 100 = true)) :
    Calls Try.prog 44 #[.slice A n c, .slice A' m c', .int .i64 bend, .int .i64 trim] w (RTabPost w js qs bend trim) := by
  have hres : ∀ w1, Below w.heap.size w w1 → RTabPost w js qs bend trim (.returned (.tuple #[.slice none 0 0, .int .i64 1])) w1 := fun w1 h => ⟨h, .inl ⟨hok, rfl⟩⟩
  have HR := Lib.hid hres
  have hw1 := fun W => in_any (n : Int) 1 64 W
  have hw2 := fun W => in_any (m : Int) (n : Int) 64 W
  have hw3 := fun W => in_any bend 0 100 W
  have hw4 := fun W => in_any trim 0 100 W
  clear hres hok
  cases b1 : inB (n : Int) 1 64 with
  | false =>
    rw [b1] at hw1
    have HW1 := Lib.hid hw1
    clear hw1 hw2 hw3 hw4 hyes hA hA' hn hm b1
    go_enter Try.func44, Try.ntmps44
    go_wp2_with (fail)
    refine (HW1.out _).mono ?_
    rintro e w1 ⟨rfl, rfl⟩
    go_wp2_with (fail)
    go_ret2
    exact HR.out _ (Below.refl _ _)
  | true =>
    rw [b1] at hw1
    cases b2 : inB (m : Int) (n : Int) 64 with
    | false =>
      rw [b2] at hw2
      have HW1 := Lib.hid hw1
      have HW2 := Lib.hid hw2
      clear hw1 hw2 hw3 hw4 hyes hA hA' hn hm b1 b2
      go_enter Try.func44, Try.ntmps44
      go_wp2_with (fail)
      refine (HW1.out _).mono ?_
      rintro e w1 ⟨rfl, rfl⟩
      go_wp2_with (fail)
      refine (HW2.out _).mono ?_
      rintro e w1 ⟨rfl, rfl⟩
      go_wp2_with (fail)
      go_ret2
      exact HR.out _ (Below.refl _ _)
    | true =>
      rw [b2] at hw2
      cases b3 : inB bend 0 100 with
      | false =>
        rw [b3] at hw3
        have HW1 := Lib.hid hw1
        have HW2 := Lib.hid hw2
        have HW3 := Lib.hid hw3
        clear hw1 hw2 hw3 hw4 hyes hA hA' hn hm b1 b2 b3
        go_enter Try.func44, Try.ntmps44
        go_wp2_with (fail)
        refine (HW1.out _).mono ?_
        rintro e w1 ⟨rfl, rfl⟩
        go_wp2_with (fail)
        refine (HW2.out _).mono ?_
        rintro e w1 ⟨rfl, rfl⟩
        go_wp2_with (fail)
        refine (HW3.out _).mono ?_
        rintro e w1 ⟨rfl, rfl⟩
        go_wp2_with (fail)
        go_ret2
        exact HR.out _ (Below.refl _ _)
      | true =>
        rw [b3] at hw3
        cases b4 : inB trim 0 100 with
        | false =>
          rw [b4] at hw4
          have HW1 := Lib.hid hw1
          have HW2 := Lib.hid hw2
          have HW3 := Lib.hid hw3
          have HW4 := Lib.hid hw4
          clear hw1 hw2 hw3 hw4 hyes hA hA' hn hm b1 b2 b3 b4
          go_enter Try.func44, Try.ntmps44
          go_wp2_with (fail)
          refine (HW1.out _).mono ?_
          rintro e w1 ⟨rfl, rfl⟩
          go_wp2_with (fail)
          refine (HW2.out _).mono ?_
          rintro e w1 ⟨rfl, rfl⟩
          go_wp2_with (fail)
          refine (HW3.out _).mono ?_
          rintro e w1 ⟨rfl, rfl⟩
          go_wp2_with (fail)
          refine (HW4.out _).mono ?_
          rintro e w1 ⟨rfl, rfl⟩
          go_wp2_with (fail)
          go_ret2
          exact HR.out _ (Below.refl _ _)
        | true =>
          rw [b4] at hw4
          exact absurd ⟨b1, b2, b3, b4⟩ hyes

set_option maxHeartbeats 16000000 in
set_option maxRecDepth 100000 in
theorem rtable_in (A A' : Option Addr) (c c' n m : Nat) (js qs : List J2) (bend trim : Int) (w : World) (hA : JAt w A js) (hA' : JAt w A' qs) (hn : n = js.length) (hm : m = qs.length)
    (b1 : inB (n : Int) 1 64 = true) (b2 : inB (m : Int) (n : Int) 64 = true) (b3 : inB bend 0 100 = true) (b4 : inB trim 0 100 = true) :
    Calls Try.prog 44 #[.slice A n c, .slice A' m c', .int .i64 bend, .int .i64 trim] w (RTabPost w js qs bend trim) := by
  have hokS : okS js qs bend trim = (js.all okJ && qs.all okJ) := by unfold okS; rw [← hn, ← hm, b1, b2, b3, b4]; simp
  have hw1 := fun W => in_any (n : Int) 1 64 W
  have hw2 := fun W => in_any (m : Int) (n : Int) 64 W
  have hw3 := fun W => in_any bend 0 100 W
  have hw4 := fun W => in_any trim 0 100 W
  rw [b1] at hw1
  rw [b2] at hw2
  rw [b3] at hw3
  rw [b4] at hw4
  have t1 := inB_t b1
  have t2 := inB_t b2
  have hb := inB_t b3
  have ht := inB_t b4
  have hkp := fun W (h : Below w.heap.size w W) => (⟨Vals.keep hA h, Vals.keep hA' h⟩ : JAt W A js ∧ JAt W A' qs)
  have HKP := Lib.hid hkp
  have HN := Lib.hid hn
  have HM := Lib.hid hm
  have HOS := Lib.hid hokS
  have HW1 := Lib.hid hw1
  have HW2 := Lib.hid hw2
  have HW3 := Lib.hid hw3
  have HW4 := Lib.hid hw4
  have HB := Lib.hid hb
  have HT := Lib.hid ht
  have hn64 : n ≤ 64 := by omega
  have hm64 : m ≤ 64 := by omega
  obtain ⟨i0, hi0, hz0, hz1, hz2⟩ := info_parts infoI
  have hbad : (js.all okJ = false ∨ qs.all okJ = false) → ∀ w1, Below w.heap.size w w1 → RTabPost w js qs bend trim (.returned (.tuple #[.slice none 0 0, .int .i64 1])) w1 := fun h w1 hl => ⟨hl, .inl ⟨by rw [hokS]; rcases h with h | h <;> rw [h] <;> simp, rfl⟩⟩
  have HBAD := Lib.hid hbad
  clear hkp hA hA' hn hm hokS hw1 hw2 hw3 hw4 t1 t2 hb ht b1 b2 b3 b4 hbad
  go_enter Try.func44, Try.ntmps44
  go_wp2_with (fail)
  refine (HW1.out _).mono ?_
  rintro e w1 ⟨rfl, rfl⟩
  go_wp2_with (fail)
  refine (HW2.out _).mono ?_
  rintro e w1 ⟨rfl, rfl⟩
  go_wp2_with (fail)
  refine (HW3.out _).mono ?_
  rintro e w1 ⟨rfl, rfl⟩
  go_wp2_with (fail)
  refine (HW4.out _).mono ?_
  rintro e w1 ⟨rfl, rfl⟩
  go_wp2_with (fail)
  go_loop [10] (fun t => ∃ i : Nat, i ≤ n ∧ t = .int .i64 (i : Int) ∧ Hid ((js.take i).all okJ = true)) (fun t => n - (intOf t).toNat)
  case atStart => exact ⟨0, Nat.zero_le _, rfl, Lib.hid (by simp)⟩
  case round =>
    obtain ⟨i, hi, rfl, HAL⟩ := hrel
    by_cases hlt : i < n
    · have hiI : (i : Int) < (n : Int) := by omega
      obtain ⟨g, off, x, eA, hg, hx, hc0, hc1⟩ := JAt.at_ (HKP.out w (Below.refl _ _)).1 (i := i) (by have := HN.out; omega)
      subst eA
      obtain ⟨xa, xb⟩ := x
      simp only at hc0 hc1
      have HX := Lib.hid hx
      have hwa := fun W => in_any xa 0 10000 W
      have hwb := fun W => in_any xb 0 10000 W
      clear hx
      cases ha : inB xa 0 10000 with
      | false =>
        rw [ha] at hwa
        have HWA := Lib.hid hwa
        have HF := Lib.hid (HBAD.out (.inl (all_bad HX.out (okJ_f1 ha))) w (Below.refl _ _))
        clear hwa hwb ha
        go_wp2_with (go_at_call 47; refine (HWA.out _).mono ?_; rintro e w5 ⟨rfl, rfl⟩)
        go_ret2
        exact HF.out
      | true =>
        rw [ha] at hwa
        cases hb : inB xb 0 10000 with
        | false =>
          rw [hb] at hwb
          have HWA := Lib.hid hwa
          have HWB := Lib.hid hwb
          have HF := Lib.hid (HBAD.out (.inl (all_bad HX.out (okJ_f2 hb))) w (Below.refl _ _))
          clear hwa hwb ha hb
          go_wp2_with (fail)
          refine (HWA.out _).mono ?_
          rintro e w5 ⟨rfl, rfl⟩
          go_wp2_with (go_at_call 47; refine (HWB.out _).mono ?_; rintro e w5 ⟨rfl, rfl⟩)
          go_ret2
          exact HF.out
        | true =>
          rw [hb] at hwb
          have HWA := Lib.hid hwa
          have HWB := Lib.hid hwb
          have HN2 := Lib.hid (all_take_succ HAL.out HX.out (okJ_tt ha hb))
          clear hwa hwb ha hb
          go_wp2_with (fail)
          refine (HWA.out _).mono ?_
          rintro e w5 ⟨rfl, rfl⟩
          go_wp2_with (go_at_call 47; refine (HWB.out _).mono ?_; rintro e w5 ⟨rfl, rfl⟩)
          go_round
          case rel => exact ⟨i + 1, by omega, by go_num, HN2⟩
          case measure => simp [intOf]; omega
    · obtain rfl : i = n := by omega
      have hall : js.all okJ = true := by
        have h := HAL.out
        rw [HN.out, List.take_length] at h
        exact h
      have HALL := Lib.hid hall
      clear hall HAL hi hlt
      go_wp2_with (fail)
      go_loop [11] (fun t => ∃ i : Nat, i ≤ m ∧ t = .int .i64 (i : Int) ∧ Hid ((qs.take i).all okJ = true)) (fun t => m - (intOf t).toNat)
      case atStart => exact ⟨0, Nat.zero_le _, rfl, Lib.hid (by simp)⟩
      case round =>
        obtain ⟨k, hk, rfl, HAL⟩ := hrel
        by_cases hlt : k < m
        · have hiI : (k : Int) < (m : Int) := by omega
          obtain ⟨g, off, x, eA, hg, hx, hc0, hc1⟩ := JAt.at_ (HKP.out w (Below.refl _ _)).2 (i := k) (by have := HM.out; omega)
          subst eA
          obtain ⟨xa, xb⟩ := x
          simp only at hc0 hc1
          have HX := Lib.hid hx
          have hwa := fun W => in_any xa 0 10000 W
          have hwb := fun W => in_any xb 0 10000 W
          clear hx
          cases ha : inB xa 0 10000 with
          | false =>
            rw [ha] at hwa
            have HWA := Lib.hid hwa
            have HF := Lib.hid (HBAD.out (.inr (all_bad HX.out (okJ_f1 ha))) w (Below.refl _ _))
            clear hwa hwb ha
            go_wp2_with (go_at_call 47; refine (HWA.out _).mono ?_; rintro e w5 ⟨rfl, rfl⟩)
            go_ret2
            exact HF.out
          | true =>
            rw [ha] at hwa
            cases hb : inB xb 0 10000 with
            | false =>
              rw [hb] at hwb
              have HWA := Lib.hid hwa
              have HWB := Lib.hid hwb
              have HF := Lib.hid (HBAD.out (.inr (all_bad HX.out (okJ_f2 hb))) w (Below.refl _ _))
              clear hwa hwb ha hb
              go_wp2_with (fail)
              refine (HWA.out _).mono ?_
              rintro e w5 ⟨rfl, rfl⟩
              go_wp2_with (go_at_call 47; refine (HWB.out _).mono ?_; rintro e w5 ⟨rfl, rfl⟩)
              go_ret2
              exact HF.out
            | true =>
              rw [hb] at hwb
              have HWA := Lib.hid hwa
              have HWB := Lib.hid hwb
              have HN2 := Lib.hid (all_take_succ HAL.out HX.out (okJ_tt ha hb))
              clear hwa hwb ha hb
              go_wp2_with (fail)
              refine (HWA.out _).mono ?_
              rintro e w5 ⟨rfl, rfl⟩
              go_wp2_with (go_at_call 47; refine (HWB.out _).mono ?_; rintro e w5 ⟨rfl, rfl⟩)
              go_round
              case rel => exact ⟨k + 1, by omega, by go_num, HN2⟩
              case measure => simp [intOf]; omega
        · obtain rfl : k = m := by omega
          have hall : qs.all okJ = true := by
            have h := HAL.out
            rw [HM.out, List.take_length] at h
            exact h
          have HALL2 := Lib.hid hall
          clear hall HAL hk hlt
          have hokS : okS js qs bend trim = true := by rw [HOS.out, HALL.out, HALL2.out]; rfl
          have HOK := Lib.hid hokS
          have HJ := Lib.hid (List.all_eq_true.1 HALL.out)
          have HQ := Lib.hid (List.all_eq_true.1 HALL2.out)
          have h0 : Held w.heap.size (w.alloc (.cells #[] 23)) (.slice (some ⟨w.heap.size, 0, none⟩) 0 0) [] :=
            ⟨own_empty w 23, fun e he => by simp at he, fun i j e f g he => by simp at he, fun e he => by simp at he⟩
          have H0 := Lib.hid h0
          have hl0 := below_new w (.cells #[] 23)
          clear hokS h0 HALL HALL2 HOS HBAD HW1 HW2 HW3 HW4
          go_wp2_with (fail)
          go_loopw [12, 13, 14, 15, 16, 17] (fun v t _ _ _ _ wr => ∃ (a : Nat) (es : List (Value × List Int)), a ≤ i ∧ t = .int .i64 (a : Int) ∧ Hid (es.length = a) ∧ Hid (Held w.heap.size wr v es) ∧ v ≠ .slice none 0 0 ∧ Hid (∀ x, x ∈ es → x.1 ≠ .slice none 0 0) ∧ Hid (es.map (·.2) = (js.take a).map fun j => qs.map fun q => priF bend trim j q) ∧ Below w.heap.size w wr) (fun _ t _ _ _ _ _ => i - (intOf t).toNat)
          case atStart => exact ⟨0, [], Nat.zero_le _, rfl, Lib.hid rfl, H0, by simp, Lib.hid (by simp), Lib.hid (by simp), hl0⟩
          case round =>
            clear H0 hl0
            obtain ⟨a, es, hai, rfl, HES, HH, hv0, HNE, HE, hl⟩ := hrel
            by_cases hlt : a < i
            · have hiI : (a : Int) < (i : Int) := by omega
              obtain ⟨g, off, x, eA, hg, hx, hc0, hc1⟩ := JAt.at_ (HKP.out wr hl).1 (i := a) (by have := HN.out; omega)
              have hokx := HJ.out x (List.mem_of_getElem? hx)
              obtain ⟨ja, jb⟩ := x
              have hnx : (js.take (a + 1)).map (fun j => qs.map fun q => priF bend trim j q) = (js.take a).map (fun j => qs.map fun q => priF bend trim j q) ++ [qs.map fun q => priF bend trim ⟨ja, jb⟩ q] := by
                rw [List.take_add_one, hx, List.map_append]; rfl
              have HXA := Lib.hid hx
              have HNX := Lib.hid hnx
              have HOX := Lib.hid hokx
              have HO0 : Hid (OwnLs wr.heap.size (wr.alloc (.cells #[] 3)) (.slice (some ⟨wr.heap.size, 0, none⟩) 0 0) ((qs.take 0).map fun q => priF bend trim ⟨ja, jb⟩ q)) := Lib.hid (own_empty wr 3)
              have hb0 := below_new wr (.cells #[] 3)
              clear hx hokx hnx hc0 hc1 hg
              subst eA
              obtain ⟨wo, hwo⟩ : ∃ wo, wo = wr := ⟨_, rfl⟩
              subst hwo
              go_wp2_with (fail)
              go_loopw [14, 15, 16, 17] (fun v t _ _ wk => ∃ (b : Nat) (ys : List Int), b ≤ k ∧ t = .int .i64 (b : Int) ∧ v ≠ .slice none 0 0 ∧ Hid (ys = (qs.take b).map fun q => priF bend trim ⟨ja, jb⟩ q) ∧ Hid (OwnLs wo.heap.size wk v ys) ∧ Hid (Below wo.heap.size wo wk)) (fun _ t _ _ _ => k - (intOf t).toNat)
              case atStart => exact ⟨0, _, Nat.zero_le _, rfl, by simp, Lib.hid rfl, HO0, Lib.hid hb0⟩
              case round =>
                clear HO0 hb0
                obtain ⟨b, ys, hbk, rfl, hvn, HYS, HO, HBK⟩ := hrel
                obtain ⟨gr, capr, erow, -, -, hgrB, -⟩ := own_written HO.out hvn
                subst erow
                have hyl : ys.length = b := by rw [HYS.out, List.length_map, List.length_take]; have := HM.out; omega
                rw [hyl]
                have HO1 : Hid (wr.ownsRow wo.heap.size 3 1 (.slice (some ⟨gr, 0, none⟩) b capr) b (is ys)) := Lib.hid (by
                  have h := HO.out
                  unfold OwnLs at h
                  rw [hyl] at h; exact h)
                clear hvn HO hyl
                by_cases hlb : b < k
                · have hbI : (b : Int) < (k : Int) := by omega
                  have hlw : Below w.heap.size w wr := hl.trans (HBK.out.mono hl.size)
                  obtain ⟨g1, off1, x1, e1, hg1, hx1, p0, p1⟩ := JAt.at_ (HKP.out wr hlw).1 (i := a) (by have := HN.out; omega)
                  obtain ⟨g2, off2, y, e2, hg2, hy, p2, p3⟩ := JAt.at_ (HKP.out wr hlw).2 (i := b) (by have := HM.out; omega)
                  have e3 : x1 = ⟨ja, jb⟩ := by have := HXA.out; rw [hx1] at this; injection this
                  subst e3
                  injection e1 with e1
                  injection e1 with e1 e1'
                  subst e1 e1'
                  subst e2
                  have hoky := HQ.out y (List.mem_of_getElem? hy)
                  obtain ⟨qa, qb⟩ := y
                  simp only at p0 p1 p2 p3
                  obtain ⟨j1, j2⟩ := okJ_t HOX.out
                  obtain ⟨q1, q2⟩ := okJ_t hoky
                  simp only at j1 j2 q1 q2
                  have hbb := HB.out
                  have htt := HT.out
                  have hdef : priF bend trim ⟨ja, jb⟩ ⟨qa, qb⟩ = if qb < jb then -1 else (if qa - ja < 0 then -(qa - ja) else qa - ja) * bend + (qb - jb) * trim := rfl
                  have hys2 : ys ++ [priF bend trim ⟨ja, jb⟩ ⟨qa, qb⟩] = (qs.take (b + 1)).map fun q => priF bend trim ⟨ja, jb⟩ q := by
                    rw [List.take_add_one, hy, List.map_append, HYS.out]; rfl
                  have HYS2 := Lib.hid hys2
                  have HDF := Lib.hid hdef
                  have hby : (b + 1) * 8 ≤ 140737488355328 := by omega
                  have hmx : b + 1 ≤ maxLen := by unfold maxLen; omega
                  -- what is left to do once the cost is there
                  have hpush : ∀ (W w2 : World) (v' : Value) (z : Int), z = priF bend trim ⟨ja, jb⟩ ⟨qa, qb⟩ → W.heap = wr.heap → Below wr.heap.size wr W → w2.ownsRow wo.heap.size 3 1 v' (b + 1) (is ys ++ [.int .i64 z]) → (W.alloc (.cells #[.int .i64 z] 3)).grownBy w2 (Value.slice (some ⟨gr, 0, none⟩) b capr).ownBlock → v' ≠ .slice none 0 0 →
                      OwnLs wo.heap.size w2 v' (ys ++ [priF bend trim ⟨ja, jb⟩ ⟨qa, qb⟩]) ∧ Below wo.heap.size wo w2 := fun W w2 v' z hz hW hbW hown hgr hne => by
                    subst hz
                    refine ⟨?_, ?_⟩
                    · unfold OwnLs
                      rw [List.length_append, is_append]
                      have e9 : ys.length = b := by have h := HO1.out.1; rw [is_len] at h; omega
                      rw [e9]
                      exact hown
                    · have h1 : Below wo.heap.size wo W := HBK.out.trans (hbW.mono HBK.out.size)
                      exact (h1.alloc h1.size _).grown hgr (by have := h1.size; simp; omega) (by
                        intro k hk
                        simp only [Value.ownBlock, Option.some.injEq] at hk
                        subst hk
                        exact (HO1.out.lt gr rfl).1)
                  have HPUSH := Lib.hid hpush
                  clear hx1 hy hoky hdef hys2 hpush hg1 hg2 hlw
                  by_cases hge : jb ≤ qb
                  · have hd1 : decide (qb ≥ jb) = true := by simpa using hge
                    have hd1' : decide (jb ≤ qb) = true := by simpa using hge
                    obtain ⟨o, ho⟩ : ∃ o, o = qa - ja := ⟨_, rfl⟩
                    obtain ⟨d, hdd⟩ : ∃ d, d = qb - jb := ⟨_, rfl⟩
                    obtain ⟨u, hu⟩ : ∃ u, u = (if o < 0 then -o else o) := ⟨_, rfl⟩
                    have hu2 : 0 ≤ u ∧ u ≤ 10000 := by rw [hu]; split <;> omega
                    have m1 := mul_rng (a := u) (b := bend) (K := 10000) (L := 100) hu2.1 hu2.2 hbb.1 hbb.2
                    have m2 := mul_rng (a := d) (b := trim) (K := 10000) (L := 100) (by omega) (by omega) htt.1 htt.2
                    have hp : u * bend + d * trim = priF bend trim ⟨ja, jb⟩ ⟨qa, qb⟩ := by rw [HDF.out, if_neg (by omega), ← ho, ← hdd, ← hu]
                    have v1 : IntKind.i64.wrap (qa - ja) = o := by rw [wrapI (by omega) (by omega)]; exact ho.symm
                    have v2 : IntKind.i64.wrap (-o) = -o := wrapI (by omega) (by omega)
                    have v3 : IntKind.i64.wrap (qb - jb) = d := by rw [wrapI (by omega) (by omega)]; exact hdd.symm
                    have v4 : IntKind.i64.wrap (u * bend) = u * bend := wrapI (by omega) (by omega)
                    have v5 : IntKind.i64.wrap (d * trim) = d * trim := wrapI (by omega) (by omega)
                    have v6 : IntKind.i64.wrap (u * bend + d * trim) = u * bend + d * trim := wrapI (by omega) (by omega)
                    have HP := Lib.hid hp
                    by_cases ho0 : o < 0
                    · have hd2 : decide (o < 0) = true := by simpa using ho0
                      rw [if_pos ho0] at hu
                      subst hu
                      clear hp m1 m2 hu2 ho hdd ho0 hge j1 j2 q1 q2 hbb htt HDF
                      go_wp2_with (fail)
                      go_quiet (fail)
                      go_wp2_with (fail)
                      go_quiet (fail)
                      go_wp2_with (fail)
                      go_quiet (fail)
                      have HO2 : Hid (∀ z, ((wr.drewN z).alloc (.cells #[.int .i64 (-o * bend + d * trim)] 3)).ownsRow wo.heap.size 3 1 (.slice (some ⟨gr, 0, none⟩) b capr) b (is ys)) := Lib.hid (fun z => (own_same HO1.out (W := wr.drewN z) rfl).alloc _)
                      go_wp2_with (at_builtin; refine wpList_append_own _ rfl _ _ 23 rfl wo.heap.size 3 i0 (.int .i64 0) 1 8 Try.underlying23 hi0 hz0 hz1 hz2 rfl (by decide) (Value.slice (some ⟨gr, 0, none⟩) b capr) b (is ys) rfl (HO2.out _) ⟨wr.heap.size, 0, none⟩ 1 _ [.int .i64 (-o * bend + d * trim)] rfl rfl (cell_one_new _ _ _) (by simp [Value.oneCell']) hmx hby ?c6 ?_)
                      case c6 => have := HBK.out.size; simp; omega
                      intro v' w2 hown hgr hne
                      have hne2 : v' ≠ .slice none 0 0 := by simpa using hne
                      obtain ⟨hy2, hb2⟩ := HPUSH.out (wr.drewN _) w2 v' _ HP.out rfl (below_drewN (Below.refl _ _) _) hown hgr hne2
                      have HY2 := Lib.hid hy2
                      have HB2 := Lib.hid hb2
                      clear hown hgr hne hy2 hb2 HO2
                      go_wp2_with (fail)
                      go_roundw
                      case rel => exact ⟨b + 1, _, by omega, by go_num, hne2, HYS2, HY2, HB2⟩
                      case measure => simp [intOf]; omega
                    · have hd2 : decide (o < 0) = false := by simpa using ho0
                      rw [if_neg ho0] at hu
                      subst hu
                      clear hp m1 m2 hu2 ho hdd ho0 hge j1 j2 q1 q2 hbb htt HDF
                      go_wp2_with (fail)
                      go_quiet (fail)
                      go_wp2_with (fail)
                      go_quiet (fail)
                      go_wp2_with (fail)
                      go_quiet (fail)
                      have HO2 : Hid (∀ z, ((wr.drewN z).alloc (.cells #[.int .i64 (u * bend + d * trim)] 3)).ownsRow wo.heap.size 3 1 (.slice (some ⟨gr, 0, none⟩) b capr) b (is ys)) := Lib.hid (fun z => (own_same HO1.out (W := wr.drewN z) rfl).alloc _)
                      go_wp2_with (at_builtin; refine wpList_append_own _ rfl _ _ 23 rfl wo.heap.size 3 i0 (.int .i64 0) 1 8 Try.underlying23 hi0 hz0 hz1 hz2 rfl (by decide) (Value.slice (some ⟨gr, 0, none⟩) b capr) b (is ys) rfl (HO2.out _) ⟨wr.heap.size, 0, none⟩ 1 _ [.int .i64 (u * bend + d * trim)] rfl rfl (cell_one_new _ _ _) (by simp [Value.oneCell']) hmx hby ?c6 ?_)
                      case c6 => have := HBK.out.size; simp; omega
                      intro v' w2 hown hgr hne
                      have hne2 : v' ≠ .slice none 0 0 := by simpa using hne
                      obtain ⟨hy2, hb2⟩ := HPUSH.out (wr.drewN _) w2 v' _ HP.out rfl (below_drewN (Below.refl _ _) _) hown hgr hne2
                      have HY2 := Lib.hid hy2
                      have HB2 := Lib.hid hb2
                      clear hown hgr hne hy2 hb2 HO2
                      go_wp2_with (fail)
                      go_roundw
                      case rel => exact ⟨b + 1, _, by omega, by go_num, hne2, HYS2, HY2, HB2⟩
                      case measure => simp [intOf]; omega
                  · have hd1 : decide (qb ≥ jb) = false := by simpa using hge
                    have hd1' : decide (jb ≤ qb) = false := by simpa using hge
                    have hp : (-1 : Int) = priF bend trim ⟨ja, jb⟩ ⟨qa, qb⟩ := by rw [HDF.out, if_pos (by omega)]
                    have HP := Lib.hid hp
                    clear hp hge j1 j2 q1 q2 hbb htt HDF
                    go_wp2_with (fail)
                    go_quiet (fail)
                    have HO2 : Hid (∀ z, ((wr.drewN z).alloc (.cells #[.int .i64 (-1)] 3)).ownsRow wo.heap.size 3 1 (.slice (some ⟨gr, 0, none⟩) b capr) b (is ys)) := Lib.hid (fun z => (own_same HO1.out (W := wr.drewN z) rfl).alloc _)
                    go_wp2_with (at_builtin; refine wpList_append_own _ rfl _ _ 23 rfl wo.heap.size 3 i0 (.int .i64 0) 1 8 Try.underlying23 hi0 hz0 hz1 hz2 rfl (by decide) (Value.slice (some ⟨gr, 0, none⟩) b capr) b (is ys) rfl (HO2.out _) ⟨wr.heap.size, 0, none⟩ 1 _ [.int .i64 (-1)] rfl rfl (cell_one_new _ _ _) (by simp [Value.oneCell']) hmx hby ?c6 ?_)
                    case c6 => have := HBK.out.size; simp; omega
                    intro v' w2 hown hgr hne
                    have hne2 : v' ≠ .slice none 0 0 := by simpa using hne
                    obtain ⟨hy2, hb2⟩ := HPUSH.out (wr.drewN _) w2 v' _ HP.out rfl (below_drewN (Below.refl _ _) _) hown hgr hne2
                    have HY2 := Lib.hid hy2
                    have HB2 := Lib.hid hb2
                    clear hown hgr hne hy2 hb2 HO2
                    go_wp2_with (fail)
                    go_roundw
                    case rel => exact ⟨b + 1, _, by omega, by go_num, hne2, HYS2, HY2, HB2⟩
                    case measure => simp [intOf]; omega
                · obtain rfl : b = k := by omega
                  have hyr : OwnLs wo.heap.size wr (.slice (some ⟨gr, 0, none⟩) b capr) ys := by
                    unfold OwnLs
                    have e9 : ys.length = b := by have h := HO1.out.1; rw [is_len] at h; omega
                    rw [e9]; exact HO1.out
                  have hys3 : ys = qs.map fun q => priF bend trim ⟨ja, jb⟩ q := by rw [HYS.out, HM.out, List.take_length]
                  have HYS3 := Lib.hid hys3
                  have HYR := Lib.hid hyr
                  have hB1 : w.heap.size ≤ wo.heap.size := hl.size
                  have hn100 : a ≤ 100 := by omega
                  clear hyr hys3 HYS HO1
                  go_wp2_with (at_builtin; refine wp_pushH rfl (.tmp 145) (.tmp 147) rfl w.heap.size a wo wr _ (Value.slice (some ⟨gr, 0, none⟩) b capr) 1 es ys rfl HES.out HH.out hn100 hB1 HYR.out HBK.out _ (by simp) rfl ?_)
                  intro rv' w7 hH7 hl7
                  have hv7 : rv' ≠ .slice none 0 0 := by
                    rintro rfl
                    rcases hH7.spine.2 with ⟨_, h0⟩ | ⟨g9, cap9, cur9, h9, _⟩
                    · simp at h0
                    · cases h9
                  have HN7 : Hid (∀ x, x ∈ es ++ [((Value.slice (some ⟨gr, 0, none⟩) b capr), ys)] → x.1 ≠ .slice none 0 0) := Lib.hid (fun x hx => by
                    rcases List.mem_append.1 hx with hx | hx
                    · exact HNE.out x hx
                    · have e := List.mem_singleton.1 hx
                      subst e
                      simp)
                  have HE7 : Hid ((es ++ [((Value.slice (some ⟨gr, 0, none⟩) b capr), ys)]).map (·.2) = (js.take (a + 1)).map fun j => qs.map fun q => priF bend trim j q) := Lib.hid (by
                    rw [List.map_append, HE.out, HNX.out, HYS3.out]; rfl)
                  have HLE7 : Hid ((es ++ [((Value.slice (some ⟨gr, 0, none⟩) b capr), ys)]).length = a + 1) := Lib.hid (by rw [List.length_append, HES.out]; rfl)
                  have HH7 := Lib.hid hH7
                  have hl8 := hl.trans hl7
                  clear hH7
                  go_wp2_with (fail)
                  go_roundw
                  case rel => exact ⟨a + 1, _, by omega, by go_num, HLE7, HH7, hv7, HN7, HE7, hl8⟩
                  case measure => simp [intOf]; omega
            · obtain rfl : a = i := by omega
              have hf : ∀ v', Held w.heap.size wr v' es → v' ≠ .slice none 0 0 → RTabPost w js qs bend trim (.returned (.tuple #[v', .int .i64 0])) wr := fun v' HH' hv0 => ⟨hl, .inr ⟨HOK.out, v', es, rfl, HH', hv0, HNE.out, by rw [HE.out, HN.out, List.take_length]; rfl⟩⟩
              have HF := Lib.hid hf
              clear hf
              go_wp2
              go_ret2
              exact HF.out _ HH.out hv0
theorem rtable_any (A A' : Option Addr) (c c' n m : Nat) (js qs : List J2) (bend trim : Int) (w : World) (hA : JAt w A js) (hA' : JAt w A' qs) (hn : n = js.length) (hm : m = qs.length) :
    Calls Try.prog 44 #[.slice A n c, .slice A' m c', .int .i64 bend, .int .i64 trim] w (RTabPost w js qs bend trim) := by
  by_cases h : inB (n : Int) 1 64 = true ∧ inB (m : Int) (n : Int) 64 = true ∧ inB bend 0 100 = true ∧ inB trim 0 100 = true
  · exact rtable_in A A' c c' n m js qs bend trim w hA hA' hn hm h.1 h.2.1 h.2.2.1 h.2.2.2
  · refine rtable_bad A A' c c' n m js qs bend trim w hA hA' hn hm ?_ h
    cases hk : okS js qs bend trim with
    | false => rfl
    | true =>
      exfalso
      unfold okS at hk
      rw [← hn, ← hm] at hk
      simp only [Bool.and_eq_true] at hk
      exact h ⟨hk.1, hk.2.1, hk.2.2.1, hk.2.2.2.1⟩
end Go.Proofs.Ytncmfjncdhhjoaa
