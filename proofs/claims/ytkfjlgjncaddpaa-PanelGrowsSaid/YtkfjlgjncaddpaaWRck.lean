/- Which panels are valid: the reference. -/
import Derived.Test.YtkfjlgjncaddpaaWChk
namespace Go.Proofs.Ytkfjlgjncaddpaa
open Go.RowKit

set_option maxHeartbeats 2000000 in
set_option maxRecDepth 100000 in
theorem refCheck_any (W H K : Int) (A : Option Addr) (c L : Nat) (ss : List Sh) (w : World) (hA : ShAt w A ss) (hL : L = ss.length) (hLs : L ≤ 1000000) :
    Calls Try.prog 17 #[.int .i64 W, .int .i64 H, .int .i64 K, .slice A L c] w fun e w' => e = .returned (.int .i64 (ckE W H K ss)) ∧ Below w.heap.size w w' := by
  have HL := Lib.hid hL
  have HA := Lib.hid hA
  clear hL hA
  have HCE : Hid (ckE W H K ss = if okP W H K ss = true then 0 else 1) := Lib.hid rfl
  have HCP : Hid (okP W H K ss = (inB W 1 64 && (inB H 1 64 && (inB K 0 8 && (decide (ss.length ≤ 16) && ss.all okB))))) := Lib.hid rfl
  generalize ckE W H K ss = ce at *
  generalize okP W H K ss = cp at *
  cases f1 : inB W 1 64 with
  | false =>
    have he : ce = 1 := by rw [HCE.out, HCP.out, f1]; rfl
    have HE := Lib.hid he
    clear he
    go_enter Try.func17, Try.ntmps17
    go_wp2_with (go_at_call 39; refine (in_any _ _ _ _).mono ?_; rintro e w1 ⟨rfl, rfl⟩)
    go_ret
    exact ⟨by rw [HE.out]; rfl, Below.refl _ _⟩
  | true =>
    cases f2 : inB H 1 64 with
    | false =>
      have he : ce = 1 := by rw [HCE.out, HCP.out, f1, f2]; rfl
      have HE := Lib.hid he
      clear he
      go_enter Try.func17, Try.ntmps17
      go_wp2_with (go_at_call 39; refine (in_any _ _ _ _).mono ?_; rintro e w1 ⟨rfl, rfl⟩)
      go_ret
      exact ⟨by rw [HE.out]; rfl, Below.refl _ _⟩
    | true =>
      cases f3 : inB K 0 8 with
      | false =>
        have he : ce = 1 := by rw [HCE.out, HCP.out, f1, f2, f3]; rfl
        have HE := Lib.hid he
        clear he
        go_enter Try.func17, Try.ntmps17
        go_wp2_with (go_at_call 39; refine (in_any _ _ _ _).mono ?_; rintro e w1 ⟨rfl, rfl⟩)
        go_ret
        exact ⟨by rw [HE.out]; rfl, Below.refl _ _⟩
      | true =>
        by_cases h2 : 16 < L
        · have he : ce = 1 := by
            have e : decide (ss.length ≤ 16) = false := by simp; have := HL.out; omega
            rw [HCE.out, HCP.out, f1, f2, f3, e]; rfl
          have hd : decide (16 < L) = true := by simpa using h2
          have hd2 : decide ((16 : Int) < (L : Int)) = true := by simp; omega
          have HE := Lib.hid he
          clear he h2
          go_enter Try.func17, Try.ntmps17
          go_wp2_with (go_at_call 39; refine (in_any _ _ _ _).mono ?_; rintro e w1 ⟨rfl, rfl⟩)
          go_ret
          exact ⟨by rw [HE.out]; rfl, Below.refl _ _⟩
        · have heq : cp = ss.all okB := by
            have e : decide (ss.length ≤ 16) = true := by simp; have := HL.out; omega
            rw [HCP.out, f1, f2, f3, e]; rfl
          have hd : decide (16 < L) = false := by simpa using h2
          have hd2 : decide ((16 : Int) < (L : Int)) = false := by simp; omega
          have HQ := Lib.hid heq
          clear heq h2
          have HB0 := Lib.hid (Below.refl w.heap.size w)
          obtain ⟨B, hB⟩ : ∃ B, B = w.heap.size := ⟨_, rfl⟩
          have HB := Lib.hid hB
          go_enter Try.func17, Try.ntmps17
          go_wp2_with (go_at_call 39; refine (in_any _ _ _ _).mono ?_; rintro e w1 ⟨rfl, rfl⟩)
          clear f1 f2 f3 hd hd2 hB
          go_loopw [9, 10] (fun t _ wr => ∃ i : Nat, i ≤ L ∧ t = .int .i64 (i : Int) ∧ Hid ((ss.take i).all okB = true) ∧ Below w.heap.size w wr) (fun t _ _ => L - (intOf t).toNat)
          case atStart => exact ⟨0, Nat.zero_le _, rfl, Lib.hid (by simp), HB0.out⟩
          case round =>
            obtain ⟨i, hi, rfl, HAL, hbel⟩ := hrel
            by_cases hlt : i < L
            · obtain ⟨g, off, rfl, hg, c0, c1, c2, c3⟩ := ShAt.at_ (HA.out.keep hbel) (i := i) (by have := HL.out; omega)
              have ht : ss[i]? = some (ss.getD i sh0) := by rw [List.getD_eq_getElem?_getD, List.getElem?_eq_getElem (by have := HL.out; omega)]; rfl
              generalize ss.getD i sh0 = s at *
              obtain ⟨sw, sh, sv, st⟩ := s
              simp only at c0 c1 c2 c3
              have HT := Lib.hid ht
              have hlt2 : (i : Int) < (L : Int) := by omega
              clear ht
              have hb2 := hbel.alloc hbel.size (.cells #[.int .i64 sw, .int .i64 sh, .int .i64 sv, .bool st] 65)
              have hbad : okB ⟨sw, sh, sv, st⟩ = false → ce = 1 := fun h => by rw [HCE.out, HQ.out, all_bad HT.out h]; rfl
              have hgood : okB ⟨sw, sh, sv, st⟩ = true → (ss.take (i + 1)).all okB = true := fun h => all_take_succ HAL.out HT.out h
              have hok : okB ⟨sw, sh, sv, st⟩ = (inB sw 1 64 && (inB sh 1 64 && inB sv 0 1000000)) := rfl
              have HBD := Lib.hid hbad
              have HGD := Lib.hid hgood
              have HOK := Lib.hid hok
              have HB2 := Lib.hid hb2
              clear hbad hgood hok hb2 hbel
              cases f1 : inB sw 1 64 with
              | false =>
                have HE2 := Lib.hid (HBD.out (by rw [HOK.out, f1]; rfl))
                go_wp2_with (go_at_call 39; refine (in_any _ _ _ _).mono ?_; rintro e w1 ⟨rfl, rfl⟩)
                go_ret
                exact ⟨by rw [HE2.out]; rfl, HB2.out⟩
              | true =>
                cases f2 : inB sh 1 64 with
                | false =>
                  have HE2 := Lib.hid (HBD.out (by rw [HOK.out, f1, f2]; rfl))
                  go_wp2_with (go_at_call 39; refine (in_any _ _ _ _).mono ?_; rintro e w1 ⟨rfl, rfl⟩)
                  go_ret
                  exact ⟨by rw [HE2.out]; rfl, HB2.out⟩
                | true =>
                  cases f3 : inB sv 0 1000000 with
                  | false =>
                    have HE2 := Lib.hid (HBD.out (by rw [HOK.out, f1, f2, f3]; rfl))
                    go_wp2_with (go_at_call 39; refine (in_any _ _ _ _).mono ?_; rintro e w1 ⟨rfl, rfl⟩)
                    go_ret
                    exact ⟨by rw [HE2.out]; rfl, HB2.out⟩
                  | true =>
                    have HN := Lib.hid (HGD.out (by rw [HOK.out, f1, f2, f3]; rfl))
                    go_wp2_with (go_at_call 39; refine (in_any _ _ _ _).mono ?_; rintro e w1 ⟨rfl, rfl⟩)
                    go_roundw
                    case rel => exact ⟨i + 1, by omega, by go_num, HN, HB2.out⟩
                    case measure => simp [intOf]; omega
            · obtain rfl : i = L := by omega
              have he : ce = 0 := by
                have h3 := HAL.out
                rw [HL.out, List.take_length] at h3
                rw [HCE.out, HQ.out, h3]; rfl
              have HE2 := Lib.hid he
              clear he
              go_wp2
              go_ret
              exact ⟨by rw [HE2.out]; rfl, hbel⟩
end Go.Proofs.Ytkfjlgjncaddpaa
