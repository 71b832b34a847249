/- The walk of ActionLeast. -/
import Derived.Test.YtpaemlkikkcjiaaWLiv
import Derived.Test.YtpaemlkikkcjiaaWHld
import Derived.Test.YtpaemlkikkcjiaaWCut
namespace Go.Proofs.Ytpaemlkikkcjiaa
open Go.RowKit

theorem wf_i64 {x : Int} (h : (Lit.int .i64 x).wf = true) : -9223372036854775808 ≤ x ∧ x ≤ 9223372036854775807 := by
  have h1 : IntKind.i64.min ≤ x ∧ x ≤ IntKind.i64.max := by simpa [Lit.wf] using h
  have e1 : IntKind.i64.min = -9223372036854775808 := by rfl
  have e2 : IntKind.i64.max = 9223372036854775807 := by rfl
  rw [e1, e2] at h1
  exact h1
theorem ck_ok {n : Int} {ts : List T3} (h : regB n ts = true) : ckE n ts = 0 := by unfold ckE; rw [if_pos h]
theorem ck_bad {n : Int} {ts : List T3} (h : regB n ts = false) : ckE n ts = 1 := by unfold ckE; rw [h]; rfl
theorem okL_idx {k : Nat} {M : Int} {ts : List T3} (h : OkL k M ts) : ∀ t, t ∈ ts → -1 ≤ t.a ∧ t.a ≤ (k : Int) - 1 ∧ -1 ≤ t.b ∧ t.b ≤ (k : Int) - 1 := fun t ht => by
  obtain ⟨a1, a2, a3, a4, _, _⟩ := h t ht
  exact ⟨a1, a2, a3, a4⟩
theorem reg_x_le {k : Nat} {x : Nat → Int} {v : Value} {B : Nat} {w : World} (h : OwnR B 3 1 w v k (fl x k)) : ∃ g cap, v = .slice (some ⟨g, 0, none⟩) k cap ∧ Vals w (some ⟨g, 0, none⟩) (fl x k) ∧ k ≤ cap := by
  obtain ⟨g, cap, e, _, _, h1, h2⟩ := h.vals
  exact ⟨g, cap, e, h2, h1⟩
set_option maxHeartbeats 8000000 in
set_option maxRecDepth 100000 in
theorem actionLeast_any (n : Int) (A A' : Option Addr) (c c' L L' : Nat) (ts : List T3) (l0 : List Int) (w : World) (hn : -9223372036854775808 ≤ n ∧ n ≤ 9223372036854775807) (hA : TiesAt w A ts) (hL : L = ts.length) (hc : L ≤ c) (hnil : A = none → c = 0) (hcm : c ≤ maxLen)
    (hA' : Ints w A' l0) (hL' : L' = l0.length) (hc' : L' ≤ c') (hnil' : A' = none → c' = 0) (hwf : ∀ x ∈ l0, (Lit.int .i64 x).wf = true) :
    Calls Try.prog 11 #[.int .i64 n, .slice A L c, .slice A' L' c'] w fun e w' => e = .returned (.bool true) ∧ Below w.heap.size w w' := by
  have hfe := few_any A c L ts w hA hL hc hnil hcm
  have hct := fun W (h : Below w.heap.size w W) => cut_any A' c' L' 64 l0 W (Vals.keep hA' h) hL' hc' hnil' (by omega)
  have hlen := fewL_len ts
  have hf64 : (l0.take 64).length ≤ 64 := by rw [List.length_take]; omega
  have hyb : ∀ i, (l0.take 64).getD i 0 ≤ 9223372036854775807 := by
    intro i
    rw [List.getD_eq_getElem?_getD]
    cases hx : (l0.take 64)[i]? with
    | none => simp
    | some x =>
      have := hwf x (List.mem_of_mem_take (List.mem_of_getElem? hx))
      simp only [Option.getD_some]
      exact (wf_i64 this).2
  have HFE := Lib.hid hfe
  have HCT := Lib.hid hct
  generalize fewL ts = t at *
  generalize l0.take 64 = y at *
  have HYB := Lib.hid hyb
  clear hfe hct hA hL hc hnil hcm hA' hL' hc' hnil' hwf hyb
  go_enter Try.func11, Try.ntmps11
  go_wp2_with (first
    | (go_at_call 23; refine (HFE.out).mono ?_; rintro e w1 ⟨g, cap, rfl, hcap, hg, hgw, hT, hb1⟩)
    | (go_at_call 33; refine (HCT.out _ hb1).mono ?_; rintro e w2 ⟨v2, rfl, _, ⟨g2, cap2, rfl, hI⟩, hb2⟩))
  have hbw := below_on hb1 hb1.size hb2
  have hT2 := hT.keep hb2
  have hI0 : Vals w2 (some ⟨g2, 0, none⟩) (fl (fun i => y.getD i 0) y.length) := by rw [← is_fl]; exact hI
  clear hb1 hb2 hT HFE HCT hI
  have hI := hI0
  clear hI0
  obtain ⟨f, hf⟩ : ∃ f : Nat → Int, f = fun i => y.getD i 0 := ⟨_, rfl⟩
  have HYF : Hid (∀ i, f i ≤ 9223372036854775807) := Lib.hid (by rw [hf]; exact HYB.out)
  rw [← hf] at hI
  clear hf HYB
  generalize y.length = Ly at *
  generalize hLt : t.length = Lt at *
  have HLt := Lib.hid hLt
  have hck := refCheck_any n (some ⟨g, 0, none⟩) cap Lt t w2 hT2 hLt.symm hn (by omega)
  have HT2 := Lib.hid hT2
  have HI2 := Lib.hid hI
  clear hLt hT2 hI
  cases hr : regB n t with
  | false =>
    rw [ck_bad hr] at hck
    have HCK := Lib.hid hck
    clear hck
    refine (HCK.out).mono ?_
    rintro e w3 ⟨rfl, hb3⟩
    go_wp2_with (go_at_call 26; refine (lives_any _).mono ?_; rintro e w4 ⟨rfl, hb4⟩)
    go_ret
    exact ⟨rfl, below_on (below_on hbw hbw.size hb3) (below_on hbw hbw.size hb3).size hb4⟩
  | true =>
    rw [ck_ok hr] at hck
    have HCK := Lib.hid hck
    clear hck
    refine (HCK.out).mono ?_
    rintro e w3 ⟨rfl, hb3⟩
    have hbw3 := below_on hbw hbw.size hb3
    have HT3 := Lib.hid (HT2.out.keep hb3)
    have HI3 := Lib.hid (Vals.keep HI2.out hb3)
    have hrg := regulate_any n ⟨g, 0, none⟩ cap Lt t w3 HT3.out HLt.out.symm hn (by omega)
    have HRG := Lib.hid hrg
    have HR := Lib.hid hr
    clear hrg hb3 hbw HT2 HI2 HCK hr
    go_upto_region 5 with (go_at_call 24; refine (HRG.out).mono ?_; rintro e w4 ⟨hb4, ⟨hf, _⟩ | ⟨k, rfl, _, hk, hok, ⟨x, v, hle, hxb0, rfl, hv⟩ | ⟨hno, rfl⟩⟩⟩; focus (rw [HR.out] at hf; cases hf))
    · have hbw4 := below_on hbw3 hbw3.size hb4
      obtain ⟨g5, cap5, rfl, hvx, hcap5⟩ := reg_x_le hv
      have hT4 := HT3.out.keep hb4
      have hI4 := Vals.keep HI3.out hb4
      have hxb : ∀ i, i < k → x i ≤ 9223372036854775807 := fun i _ => by have := hxb0 i; omega
      have hh := holds_any (some ⟨g, 0, none⟩) (some ⟨g5, 0, none⟩) cap cap5 Lt k t x w4 hT4 HLt.out.symm hvx hxb (by omega) (by omega) (okL_idx hok)
      rw [(holdB_iff k t x).2 hle.sol] at hh
      have HH := Lib.hid hh
      have HLE := Lib.hid hle
      have HOK := Lib.hid hok
      have HVX := Lib.hid hvx
      have HT4 := Lib.hid hT4
      have HI4 := Lib.hid hI4
      clear hh hle hok hvx hT4 hI4 hv hb4 hbw3 HT3 HI3 HRG hxb hxb0
      go_upto_region 7 with (first
        | (go_at_call 50; refine (HH.out).mono ?_; rintro e w5 ⟨rfl, hb5⟩)
        | (go_at_call 26; refine (lives_any _).mono ?_; rintro e w6 ⟨rfl, hb6⟩))
      have hb56 := below_on hb5 hb5.size hb6
      have hbw6 := below_on hbw4 hbw4.size hb56
      have HT6 := Lib.hid (HT4.out.keep hb56)
      have HI6 := Lib.hid (Vals.keep HI4.out hb56)
      have HX6 := Lib.hid (Vals.keep HVX.out hb56)
      clear hb5 hb6 hb56 hbw4
      by_cases hlk : Ly = k
      · subst hlk
        have hh := holds_any (some ⟨g, 0, none⟩) (some ⟨g2, 0, none⟩) cap cap2 Lt Ly t f w6 HT6.out HLt.out.symm HI6.out (fun i _ => HYF.out i) (by omega) (by omega) (okL_idx HOK.out)
        have hne : ((Ly : Int) != (Ly : Int)) = false := by simp
        cases hb : holdB Ly t f with
        | false =>
          rw [hb] at hh
          have HH2 := Lib.hid hh
          clear hh
          go_wp2_with (go_at_call 50; refine (HH2.out).mono ?_; rintro e w7 ⟨rfl, hb7⟩)
          go_ret
          exact ⟨rfl, below_on hbw6 hbw6.size hb7⟩
        | true =>
          rw [hb] at hh
          have HH2 := Lib.hid hh
          have hxy := HLE.out.low f ((holdB_iff Ly t f).1 hb)
          have HXY := Lib.hid hxy
          clear hh hxy hb
          go_wp2_with (go_at_call 50; refine (HH2.out).mono ?_; rintro e w7 ⟨rfl, hb7⟩)
          have hbw7 := below_on hbw6 hbw6.size hb7
          have HI7 := Lib.hid (Vals.keep HI6.out hb7)
          have HX7 := Lib.hid (Vals.keep HX6.out hb7)
          clear hb7
          go_loopw [11] (fun t wr => ∃ i z : Nat, i ≤ Ly ∧ t = .int .i64 (i : Int) ∧ wr = w7.drewN z) (fun t _ => Ly - (intOf t).toNat)
          case atStart => exact ⟨0, 0, Nat.zero_le _, rfl, rfl⟩
          case round =>
            obtain ⟨i, z, hi, rfl, rfl⟩ := hrel
            by_cases hlt : i < Ly
            · obtain ⟨gx, ox, ex, _, hcx⟩ := fl_vals HX7.out hlt
              obtain ⟨gy, oy, ey, _, hcy⟩ := fl_vals HI7.out hlt
              injection ex with ex
              injection ex with ex1 ex2
              subst ex1 ex2
              injection ey with ey
              injection ey with ey1 ey2
              subst ey1 ey2
              rw [Nat.zero_add] at hcx hcy
              have hcmp : ¬ (f i < x i) := by have := HXY.out i hlt; omega
              have hd : decide (f i < x i) = false := by simpa using hcmp
              have hlt2 : (i : Int) < (Ly : Int) := by omega
              clear hcmp
              generalize x i = xi at *
              generalize f i = fi at *
              go_wp2_with (fail)
              go_quiet (fail)
              go_wp2_with (fail)
              go_roundw
              case rel => exact ⟨i + 1, _, by omega, by go_num, rfl⟩
              case measure => simp [intOf]; omega
            · obtain rfl : i = Ly := by omega
              go_wp2
              go_ret
              exact ⟨rfl, below_drewN hbw7 _⟩
      · have hne : ((Ly : Int) != (k : Int)) = true := by simp; omega
        go_wp2
        go_ret
        exact ⟨rfl, hbw6⟩
    · have hbw4 := below_on hbw3 hbw3.size hb4
      have HT4 := Lib.hid (HT3.out.keep hb4)
      have HI4 := Lib.hid (Vals.keep HI3.out hb4)
      have HNO := Lib.hid hno
      have HOK := Lib.hid hok
      clear hok hno hb4 hbw3 HT3 HI3 HRG
      go_upto_region 7 with (go_at_call 26; refine (lives_any _).mono ?_; rintro e w6 ⟨rfl, hb6⟩)
      have hbw6 := below_on hbw4 hbw4.size hb6
      by_cases hlk : Ly = k
      · subst hlk
        have hh := holds_any (some ⟨g, 0, none⟩) (some ⟨g2, 0, none⟩) cap cap2 Lt Ly t f w6 (HT4.out.keep hb6) HLt.out.symm (Vals.keep HI4.out hb6) (fun i _ => HYF.out i) (by omega) (by omega) (okL_idx HOK.out)
        have hne : ((Ly : Int) != (Ly : Int)) = false := by simp
        cases hb : holdB Ly t f with
        | false =>
          rw [hb] at hh
          have HH2 := Lib.hid hh
          clear hh
          go_wp2_with (go_at_call 50; refine (HH2.out).mono ?_; rintro e w7 ⟨rfl, hb7⟩)
          go_ret
          exact ⟨rfl, below_on hbw6 hbw6.size hb7⟩
        | true => exact absurd ((holdB_iff Ly t f).1 hb) (HNO.out f)
      · have hne : ((Ly : Int) != (k : Int)) = true := by simp; omega
        go_wp2
        go_ret
        exact ⟨rfl, hbw6⟩
end Go.Proofs.Ytpaemlkikkcjiaa
