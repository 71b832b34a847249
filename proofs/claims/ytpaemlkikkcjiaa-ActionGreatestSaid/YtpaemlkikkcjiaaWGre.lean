/- The walk of ActionGreatest. -/
import Derived.Test.YtpaemlkikkcjiaaWLst
import Derived.Test.YtpaemlkikkcjiaaWHig
namespace Go.Proofs.Ytpaemlkikkcjiaa
open Go.RowKit

set_option maxHeartbeats 8000000 in
set_option maxRecDepth 100000 in
theorem actionGreatest_any (n : Int) (A A' : Option Addr) (c c' L L' : Nat) (ts : List T3) (l0 : List Int) (w : World) (hn : -9223372036854775808 ≤ n ∧ n ≤ 9223372036854775807) (hA : TiesAt w A ts) (hL : L = ts.length) (hc : L ≤ c) (hnil : A = none → c = 0) (hcm : c ≤ maxLen)
    (hA' : Ints w A' l0) (hL' : L' = l0.length) (hc' : L' ≤ c') (hnil' : A' = none → c' = 0) (hwf : ∀ x ∈ l0, (Lit.int .i64 x).wf = true) :
    Calls Try.prog 12 #[.int .i64 n, .slice A L c, .slice A' L' c'] w fun e w' => e = .returned (.bool true) ∧ Below w.heap.size w w' := by
  have hfe := few_any A c L ts w hA hL hc hnil hcm
  have hct := fun W (h : Below w.heap.size w W) => cut_any A' c' L' 64 l0 W (Vals.keep hA' h) hL' hc' hnil' (by omega)
  have hlen := fewL_len ts
  have hf64 : (l0.take 64).length ≤ 64 := by rw [List.length_take]; omega
  have hyb : ∀ i, (l0.take 64).getD i 0 ≤ 9223372036854775807 := by
    intro i
    rw [List.getD_eq_getElem?_getD]
    cases hx : (l0.take 64)[i]? with
    | none => simp
    | some x =>
      have := hwf x (List.mem_of_mem_take (List.mem_of_getElem? hx))
      simp only [Option.getD_some]
      exact (wf_i64 this).2
  have HFE := Lib.hid hfe
  have HCT := Lib.hid hct
  generalize fewL ts = t at *
  generalize l0.take 64 = y at *
  have HYB := Lib.hid hyb
  clear hfe hct hA hL hc hnil hcm hA' hL' hc' hnil' hwf hyb
  go_enter Try.func12, Try.ntmps12
  go_wp2_with (first
    | (go_at_call 23; refine (HFE.out).mono ?_; rintro e w1 ⟨g, cap, rfl, hcap, hg, hgw, hT, hb1⟩)
    | (go_at_call 33; refine (HCT.out _ hb1).mono ?_; rintro e w2 ⟨v2, rfl, _, ⟨g2, cap2, rfl, hI⟩, hb2⟩))
  have hbw := below_on hb1 hb1.size hb2
  have hT2 := hT.keep hb2
  have hI0 : Vals w2 (some ⟨g2, 0, none⟩) (fl (fun i => y.getD i 0) y.length) := by rw [← is_fl]; exact hI
  clear hb1 hb2 hT HFE HCT hI
  have hI := hI0
  clear hI0
  obtain ⟨f, hf⟩ : ∃ f : Nat → Int, f = fun i => y.getD i 0 := ⟨_, rfl⟩
  have HYF : Hid (∀ i, f i ≤ 9223372036854775807) := Lib.hid (by rw [hf]; exact HYB.out)
  rw [← hf] at hI
  clear hf HYB
  generalize y.length = Ly at *
  generalize hLt : t.length = Lt at *
  have HLt := Lib.hid hLt
  have hck := refCheck_any n (some ⟨g, 0, none⟩) cap Lt t w2 hT2 hLt.symm hn (by omega)
  have HT2 := Lib.hid hT2
  have HI2 := Lib.hid hI
  clear hLt hT2 hI
  cases hr : regB n t with
  | false =>
    rw [ck_bad hr] at hck
    have HCK := Lib.hid hck
    clear hck
    refine (HCK.out).mono ?_
    rintro e w3 ⟨rfl, hb3⟩
    go_wp2_with (go_at_call 26; refine (lives_any _).mono ?_; rintro e w4 ⟨rfl, hb4⟩)
    go_ret
    exact ⟨rfl, below_on (below_on hbw hbw.size hb3) (below_on hbw hbw.size hb3).size hb4⟩
  | true =>
    rw [ck_ok hr] at hck
    have HCK := Lib.hid hck
    clear hck
    refine (HCK.out).mono ?_
    rintro e w3 ⟨rfl, hb3⟩
    have HB3 := Lib.hid (below_on hbw hbw.size hb3)
    have HT3 := Lib.hid (HT2.out.keep hb3)
    have HI3 := Lib.hid (Vals.keep HI2.out hb3)
    have HR := Lib.hid hr
    clear hb3 hbw HT2 HI2 HCK hr
    go_wp2_with (fail)
    go_loopw [9, 10] (fun s t wr => ∃ i : Nat, i ≤ Ly ∧ t = .int .i64 (i : Int) ∧ (∃ tp : Int, s = .int .i64 tp ∧ 0 ≤ tp ∧ tp ≤ 1000000) ∧ wr = w3) (fun _ t _ => Ly - (intOf t).toNat)
    case atStart => exact ⟨0, Nat.zero_le _, rfl, ⟨0, rfl, by omega, by omega⟩, rfl⟩
    case round =>
      obtain ⟨i, hi, rfl, ⟨tp, rfl, tp0, tp1⟩, rfl⟩ := hrel
      by_cases hlt : i < Ly
      · obtain ⟨gy, oy, ey, _, hcy⟩ := fl_vals HI3.out hlt
        injection ey with ey
        injection ey with ey1 ey2
        subst ey1 ey2
        rw [Nat.zero_add] at hcy
        have hlt2 : (i : Int) < (Ly : Int) := by omega
        generalize f i = fi at *
        go_wp2_with (fail)
        exact ⟨⟨i + 1, by omega, by go_num, ⟨_, rfl, by (repeat' split) <;> omega, by (repeat' split) <;> omega⟩, trivial⟩, by simp [intOf]; omega⟩
      · obtain rfl : i = Ly := by omega
        have hrg := highest_any n ⟨g, 0, none⟩ cap Lt t tp wr HT3.out HLt.out.symm hn (by omega) (by omega)
        have HRG := Lib.hid hrg
        have hin : inB tp 0 1000000 = true := by unfold inB; simp; omega
        have HIN := Lib.hid hin
        clear hrg hin
        go_upto_region 10 with (go_at_call 29; refine (HRG.out).mono ?_; rintro e w4 ⟨hb4, ⟨hor, rfl⟩ | ⟨k, rfl, hr, _, hk, hok, ⟨x, gx, capx, hgr, rfl, hvx⟩ | ⟨hno, rfl⟩⟩⟩)
        · rcases hor with h | h
          · rw [HR.out] at h; cases h
          · rw [HIN.out] at h; cases h
        · have hbw4 := below_on HB3.out HB3.out.size hb4
          have hT4 := HT3.out.keep hb4
          have hxt : ∀ i, i < k → x i ≤ tp := hgr.sol.2
          have hh := holds_any (some ⟨g, 0, none⟩) (some ⟨gx, 0, none⟩) cap capx Lt k t x w4 hT4 HLt.out.symm hvx (fun i hi => by have := hxt i hi; omega) (by omega) (by omega) (okL_idx hok)
          rw [(holdB_iff k t x).2 hgr.sol.1] at hh
          have HH := Lib.hid hh
          have HGR := Lib.hid hgr
          have HOK := Lib.hid hok
          have HVX := Lib.hid hvx
          have HT4 := Lib.hid hT4
          have HI4 := Lib.hid (Vals.keep HI3.out hb4)
          have hne : ((k : Int) != (k : Int)) = false := by simp
          clear hh hgr hok hvx hT4 hb4 HT3 HI3 HRG hxt hr
          go_upto_region 12 with (first | (go_at_call 50; refine (HH.out).mono ?_; rintro e w5 ⟨rfl, hb5⟩) | (go_at_call 26; refine (lives_any _).mono ?_; rintro e w6 ⟨rfl, hb6⟩))
          have hb56 := below_on hb5 hb5.size hb6
          have hbw6 := below_on hbw4 hbw4.size hb56
          have HT6 := Lib.hid (HT4.out.keep hb56)
          have HI6 := Lib.hid (Vals.keep HI4.out hb56)
          have HX6 := Lib.hid (Vals.keep HVX.out hb56)
          have HBW6 := Lib.hid hbw6
          clear hb5 hb6 hb56 hbw4 hbw6 hne HH HT4 HI4 HVX HB3
          go_wp2_with (fail)
          go_loopw [13] (fun t wr => ∃ j : Nat, j ≤ k ∧ t = .int .i64 (j : Int) ∧ wr = w6) (fun t _ => k - (intOf t).toNat)
          case atStart => exact ⟨0, Nat.zero_le _, rfl, rfl⟩
          case round =>
            obtain ⟨j, hj, rfl, rfl⟩ := hrel
            by_cases hjk : j < k
            · obtain ⟨g', o', ex, _, hcx⟩ := fl_vals HX6.out hjk
              injection ex with ex
              injection ex with ex1 ex2
              subst ex1 ex2
              rw [Nat.zero_add] at hcx
              have hxt := HGR.out.sol.2 j hjk
              have hnt : ¬ tp < x j := by omega
              have hd : decide (tp < x j) = false := by simpa using hnt
              have hjk2 : (j : Int) < (k : Int) := by omega
              generalize x j = xj at *
              go_wp2_with (fail)
              go_roundw
              case rel => exact ⟨j + 1, by omega, by go_num, trivial⟩
              case measure => simp [intOf]; omega
            · obtain rfl : j = k := by omega
              by_cases hlk : i = j
              · subst hlk
                have hh := holds_any (some ⟨g, 0, none⟩) (some ⟨g2, 0, none⟩) cap cap2 Lt i t f wr HT6.out HLt.out.symm HI6.out (fun i _ => HYF.out i) (by omega) (by omega) (okL_idx HOK.out)
                have hne : ((i : Int) != (i : Int)) = false := by simp
                cases hb : holdB i t f with
                | false =>
                  rw [hb] at hh
                  have HH2 := Lib.hid hh
                  clear hh hb
                  go_wp2_with (go_at_call 50; refine (HH2.out).mono ?_; rintro e w7 ⟨rfl, hb7⟩)
                  go_ret
                  exact ⟨rfl, below_on HBW6.out HBW6.out.size hb7⟩
                | true =>
                  rw [hb] at hh
                  have HH2 := Lib.hid hh
                  have HSY := Lib.hid ((holdB_iff i t f).1 hb)
                  clear hh hb
                  go_wp2_with (go_at_call 50; refine (HH2.out).mono ?_; rintro e w7 ⟨rfl, hb7⟩)
                  have HBW7 := Lib.hid (below_on HBW6.out HBW6.out.size hb7)
                  have HI7 := Lib.hid (Vals.keep HI6.out hb7)
                  have HX7 := Lib.hid (Vals.keep HX6.out hb7)
                  clear hb7 HBW6 HI6 HX6 HT6 hne HH2
                  go_loopw [14] (fun t wr => ∃ j : Nat, j ≤ i ∧ t = .int .i64 (j : Int) ∧ Hid (∀ q, q < j → f q ≤ tp) ∧ wr = w7) (fun t _ => i - (intOf t).toNat)
                  case atStart => exact ⟨0, Nat.zero_le _, rfl, Lib.hid (fun q hq => by omega), rfl⟩
                  case round =>
                    obtain ⟨j, hj, rfl, HQ, rfl⟩ := hrel
                    by_cases hji : j < i
                    · obtain ⟨g', o', ex, _, hcx⟩ := fl_vals HI7.out hji
                      injection ex with ex
                      injection ex with ex1 ex2
                      subst ex1 ex2
                      rw [Nat.zero_add] at hcx
                      have hji2 : (j : Int) < (i : Int) := by omega
                      by_cases hgt : tp < f j
                      · have hd : decide (tp < f j) = true := by simpa using hgt
                        generalize f j = fj at *
                        go_wp2_with (fail)
                        go_ret
                        exact ⟨rfl, HBW7.out⟩
                      · have HQ2 : Hid (∀ q, q < j + 1 → f q ≤ tp) := Lib.hid (fun q hq => by
                          by_cases e : q = j
                          · rw [e]; omega
                          · exact HQ.out q (by omega))
                        have hd : decide (tp < f j) = false := by simpa using hgt
                        generalize f j = fj at *
                        go_wp2_with (fail)
                        go_roundw
                        case rel => exact ⟨j + 1, by omega, by go_num, HQ2, trivial⟩
                        case measure => simp [intOf]; omega
                    · obtain rfl : j = i := by omega
                      have HXY := Lib.hid (HGR.out.high f ⟨HSY.out, HQ.out⟩)
                      go_wp2_with (fail)
                      go_loopw [15] (fun t w8 => ∃ j1 z : Nat, j1 ≤ j ∧ t = .int .i64 (j1 : Int) ∧ w8 = wr.drewN z) (fun t _ => j - (intOf t).toNat)
                      case atStart => exact ⟨0, 0, Nat.zero_le _, rfl, rfl⟩
                      case round =>
                        obtain ⟨j1, z, hj1, rfl, rfl⟩ := hrel
                        by_cases hlt9 : j1 < j
                        · obtain ⟨gx', ox, ex, _, hcx⟩ := fl_vals HX7.out hlt9
                          obtain ⟨gy, oy, ey, _, hcy⟩ := fl_vals HI7.out hlt9
                          injection ex with ex
                          injection ex with ex1 ex2
                          subst ex1 ex2
                          injection ey with ey
                          injection ey with ey1 ey2
                          subst ey1 ey2
                          rw [Nat.zero_add] at hcx hcy
                          have hcmp : ¬ (x j1 < f j1) := by have := HXY.out j1 hlt9; omega
                          have hd : decide (x j1 < f j1) = false := by simpa using hcmp
                          have hlt10 : (j1 : Int) < (j : Int) := by omega
                          clear hcmp
                          generalize x j1 = xi at *
                          generalize f j1 = fi at *
                          go_wp2_with (fail)
                          go_quiet (fail)
                          go_wp2_with (fail)
                          go_roundw
                          case rel => exact ⟨j1 + 1, _, by omega, by go_num, rfl⟩
                          case measure => simp [intOf]; omega
                        · obtain rfl : j1 = j := by omega
                          go_wp2
                          go_ret
                          exact ⟨rfl, below_drewN HBW7.out _⟩
              · have hne : ((i : Int) != (j : Int)) = true := by simp; omega
                go_wp2
                go_ret
                exact ⟨rfl, HBW6.out⟩
        · have hbw4 := below_on HB3.out HB3.out.size hb4
          have HT4 := Lib.hid (HT3.out.keep hb4)
          have HI4 := Lib.hid (Vals.keep HI3.out hb4)
          have HNO := Lib.hid hno
          have HOK := Lib.hid hok
          clear hno hok hb4 HT3 HI3 HRG hr
          go_upto_region 12 with (go_at_call 26; refine (lives_any _).mono ?_; rintro e w6 ⟨rfl, hb6⟩)
          have hbw6 := below_on hbw4 hbw4.size hb6
          have HT6 := Lib.hid (HT4.out.keep hb6)
          have HI6 := Lib.hid (Vals.keep HI4.out hb6)
          have HBW6 := Lib.hid hbw6
          clear hb6 hbw4 hbw6 HT4 HI4 HB3
          go_wp2_with (fail)
          go_loopw [13] (fun t wr => t = .int .i64 0 ∧ wr = w6) (fun t _ => 0)
          case atStart => exact ⟨rfl, rfl⟩
          case round =>
            obtain ⟨rfl, rfl⟩ := hrel
            by_cases hlk : i = k
            · subst hlk
              have hh := holds_any (some ⟨g, 0, none⟩) (some ⟨g2, 0, none⟩) cap cap2 Lt i t f wr HT6.out HLt.out.symm HI6.out (fun i _ => HYF.out i) (by omega) (by omega) (okL_idx HOK.out)
              have hne : ((i : Int) != (i : Int)) = false := by simp
              cases hb : holdB i t f with
              | false =>
                rw [hb] at hh
                have HH2 := Lib.hid hh
                clear hh hb
                go_wp2_with (go_at_call 50; refine (HH2.out).mono ?_; rintro e w7 ⟨rfl, hb7⟩)
                go_ret
                exact ⟨rfl, below_on HBW6.out HBW6.out.size hb7⟩
              | true =>
                rw [hb] at hh
                have HH2 := Lib.hid hh
                have HSY := Lib.hid ((holdB_iff i t f).1 hb)
                clear hh hb
                go_wp2_with (go_at_call 50; refine (HH2.out).mono ?_; rintro e w7 ⟨rfl, hb7⟩)
                have HBW7 := Lib.hid (below_on HBW6.out HBW6.out.size hb7)
                have HI7 := Lib.hid (Vals.keep HI6.out hb7)
                clear hb7 HBW6 HI6 HT6 hne HH2
                go_loopw [14] (fun t wr => ∃ j : Nat, j ≤ i ∧ t = .int .i64 (j : Int) ∧ Hid (∀ q, q < j → f q ≤ tp) ∧ wr = w7) (fun t _ => i - (intOf t).toNat)
                case atStart => exact ⟨0, Nat.zero_le _, rfl, Lib.hid (fun q hq => by omega), rfl⟩
                case round =>
                  obtain ⟨j, hj, rfl, HQ, rfl⟩ := hrel
                  by_cases hji : j < i
                  · obtain ⟨g', o', ex, _, hcx⟩ := fl_vals HI7.out hji
                    injection ex with ex
                    injection ex with ex1 ex2
                    subst ex1 ex2
                    rw [Nat.zero_add] at hcx
                    have hji2 : (j : Int) < (i : Int) := by omega
                    by_cases hgt : tp < f j
                    · have hd : decide (tp < f j) = true := by simpa using hgt
                      generalize f j = fj at *
                      go_wp2_with (fail)
                      go_ret
                      exact ⟨rfl, HBW7.out⟩
                    · have HQ2 : Hid (∀ q, q < j + 1 → f q ≤ tp) := Lib.hid (fun q hq => by
                        by_cases e : q = j
                        · rw [e]; omega
                        · exact HQ.out q (by omega))
                      have hd : decide (tp < f j) = false := by simpa using hgt
                      generalize f j = fj at *
                      go_wp2_with (fail)
                      go_roundw
                      case rel => exact ⟨j + 1, by omega, by go_num, HQ2, trivial⟩
                      case measure => simp [intOf]; omega
                  · obtain rfl : j = i := by omega
                    exact absurd ⟨HSY.out, HQ.out⟩ (HNO.out f)
            · have hne : ((i : Int) != (k : Int)) = true := by simp; omega
              go_wp2
              go_ret
              exact ⟨rfl, HBW6.out⟩
end Go.Proofs.Ytpaemlkikkcjiaa
