/- The walk of ActionRegulates. -/
import Derived.Test.YtpaemlkikkcjiaaWLst
import Derived.Test.YtpaemlkikkcjiaaWRef
import Derived.Test.YtpaemlkikkcjiaaWSame
namespace Go.Proofs.Ytpaemlkikkcjiaa
open Go.RowKit

theorem same_fl (g1 g2 c1 c2 k : Nat) (x y : Nat → Int) (w : World) (hx : Vals w (some ⟨g1, 0, none⟩) (fl x k)) (hy : Vals w (some ⟨g2, 0, none⟩) (fl y k)) (hk : k ≤ 64) (h : ∀ i, i < k → x i = y i) :
    Calls Try.prog 28 #[.slice (some ⟨g1, 0, none⟩) k c1, .slice (some ⟨g2, 0, none⟩) k c2] w fun e w' => e = .returned (.bool true) ∧ Below w.heap.size w w' := by
  rw [← fl_congr h] at hy
  rw [fl_is] at hx hy
  have h2 := same_any (some ⟨g1, 0, none⟩) (some ⟨g2, 0, none⟩) c1 c2 k k ((List.range k).map x) ((List.range k).map x) w hx hy (by simp) (by simp) (by omega) (by omega)
  simpa using h2
theorem same_nil (w : World) : Calls Try.prog 28 #[.slice none 0 0, .slice none 0 0] w fun e w' => e = .returned (.bool true) ∧ Below w.heap.size w w' := by
  have h2 := same_any none none 0 0 0 0 [] [] w Vals.nil Vals.nil rfl rfl (by omega) (by omega)
  simpa using h2
theorem reg_len {k : Nat} {ts : List T3} (h : regB (k : Int) ts = true) : ts.length ≤ 512 := by
  obtain ⟨_, _, _, _, h3, _⟩ := regB_ok h
  exact h3
theorem refReg_least (k L c : Nat) (A : Option Addr) (ts : List T3) (x : Nat → Int) (w : World) (hA : TiesAt w A ts) (hL : L = ts.length) (hr : regB (k : Int) ts = true) (ho : OkL k 1000000 ts) (h1 : 1 ≤ k ∧ k ≤ 64) (hx : Least k ts x) :
    Calls Try.prog 27 #[.int .i64 (k : Int), .slice A L c] w fun e w' => ∃ y g cap, e = .returned (.tuple #[.slice (some ⟨g, 0, none⟩) k cap, .int .i64 0]) ∧ Vals w' (some ⟨g, 0, none⟩) (fl y k) ∧ (∀ i, i < k → x i = y i) ∧ Below w.heap.size w w' := by
  have hl := reg_len hr
  refine (refReg_any k L c A ts w hA hL ho h1.1 h1.2 (by omega) hr).mono ?_
  rintro e w' ⟨hb, ⟨hf, _⟩ | ⟨j, hj, _, _, _, ⟨y, v, hle, _, rfl, hv⟩ | ⟨hno, _⟩⟩⟩
  · rw [hr] at hf; cases hf
  · obtain rfl : j = k := by omega
    obtain ⟨g, cap, rfl, hvy, _⟩ := reg_x_le hv
    exact ⟨y, g, cap, rfl, hvy, hx.unique hle, hb⟩
  · obtain rfl : j = k := by omega
    exact absurd hx.sol (hno x)
theorem refReg_none (k L c : Nat) (A : Option Addr) (ts : List T3) (w : World) (hA : TiesAt w A ts) (hL : L = ts.length) (hr : regB (k : Int) ts = true) (ho : OkL k 1000000 ts) (h1 : 1 ≤ k ∧ k ≤ 64) (hx : ∀ x, ¬ Sol k ts x) :
    Calls Try.prog 27 #[.int .i64 (k : Int), .slice A L c] w fun e w' => e = .returned (.tuple #[.slice none 0 0, .int .i64 6]) ∧ Below w.heap.size w w' := by
  have hl := reg_len hr
  refine (refReg_any k L c A ts w hA hL ho h1.1 h1.2 (by omega) hr).mono ?_
  rintro e w' ⟨hb, ⟨hf, _⟩ | ⟨j, hj, _, _, _, ⟨y, v, hle, _, rfl, hv⟩ | ⟨hno, rfl⟩⟩⟩
  · rw [hr] at hf; cases hf
  · obtain rfl : j = k := by omega
    exact absurd hle.sol (hx y)
  · exact ⟨rfl, hb⟩
set_option maxHeartbeats 8000000 in
set_option maxRecDepth 100000 in
theorem actionRegulates_any (n : Int) (A : Option Addr) (c L : Nat) (ts : List T3) (w : World) (hn : -9223372036854775808 ≤ n ∧ n ≤ 9223372036854775807) (hA : TiesAt w A ts) (hL : L = ts.length) (hc : L ≤ c) (hnil : A = none → c = 0) (hcm : c ≤ maxLen) :
    Calls Try.prog 3 #[.int .i64 n, .slice A L c] w fun e w' => e = .returned (.bool true) ∧ Below w.heap.size w w' := by
  have hfe := few_any A c L ts w hA hL hc hnil hcm
  have hlen := fewL_len ts
  have HFE := Lib.hid hfe
  generalize fewL ts = t at *
  clear hfe hA hL hc hnil hcm
  go_enter Try.func3, Try.ntmps3
  go_wp2_with (go_at_call 23; refine (HFE.out).mono ?_; rintro e w1 ⟨g, cap, rfl, hcap, hg, hgw, hT, hb1⟩)
  generalize hLt : t.length = Lt at *
  have HLt := Lib.hid hLt
  have hrg := regulate_any n ⟨g, 0, none⟩ cap Lt t w1 hT hLt.symm hn (by omega)
  have HRG := Lib.hid hrg
  have HT1 := Lib.hid hT
  clear hrg hLt hT HFE
  go_upto_region 3 with (go_at_call 24; refine (HRG.out).mono ?_; rintro e w2 ⟨hb2, ⟨hf, rfl⟩ | ⟨k, rfl, hr, hk, hok, ⟨x, v, hle, hxb, rfl, hv⟩ | ⟨hno, rfl⟩⟩⟩)
  · have hbw := below_on hb1 hb1.size hb2
    have hck := refCheck_any n (some ⟨g, 0, none⟩) cap Lt t w2 (HT1.out.keep hb2) HLt.out.symm hn (by omega)
    rw [ck_bad hf] at hck
    have HCK := Lib.hid hck
    clear hck hf hb1 hb2
    go_wp2_with (first
      | (go_at_call 25; refine (HCK.out).mono ?_; rintro e w3 ⟨rfl, hb3⟩)
      | (go_at_call 26; refine (lives_any _).mono ?_; rintro e w4 ⟨rfl, hb4⟩))
    go_ret
    exact ⟨rfl, below_on (below_on hbw hbw.size hb3) (below_on hbw hbw.size hb3).size hb4⟩
  · have hbw := below_on hb1 hb1.size hb2
    have hck := refCheck_any (k : Int) (some ⟨g, 0, none⟩) cap Lt t w2 (HT1.out.keep hb2) HLt.out.symm hn (by omega)
    rw [ck_ok hr] at hck
    obtain ⟨g2, cap2, rfl, hvx, _⟩ := reg_x_le hv
    have hrf := fun W (hW : Below w2.heap.size w2 W) => refReg_least k Lt cap (some ⟨g, 0, none⟩) t x W ((HT1.out.keep hb2).keep hW) HLt.out.symm hr hok hk hle
    have HCK := Lib.hid hck
    have HRF := Lib.hid hrf
    have HX := Lib.hid hvx
    clear hck hrf hvx hle hr hok hb1 hb2 hv hxb HRG
    go_upto_region 7 with (first | (go_at_call 25; refine (HCK.out).mono ?_; rintro e w3 ⟨rfl, hb3⟩) | (go_at_call 27; refine (HRF.out _ hb3).mono ?_; rintro e w4 ⟨y, g4, cap4, rfl, hvy, hxy, hb4⟩))
    have hb34 := below_on hb3 hb3.size hb4
    have hbw4 := below_on hbw hbw.size hb34
    have hsm := same_fl g2 g4 cap2 cap4 k x y w4 (Vals.keep HX.out hb34) hvy hk.2 hxy
    have HSM := Lib.hid hsm
    clear hsm hb34 hb3 hb4 hbw hvy hxy
    go_wp2_with (first
      | (go_at_call 28; refine (HSM.out).mono ?_; rintro e w5 ⟨rfl, hb5⟩)
      | (go_at_call 26; refine (lives_any _).mono ?_; rintro e w6 ⟨rfl, hb6⟩))
    go_ret
    exact ⟨rfl, below_on (below_on hbw4 hbw4.size hb5) (below_on hbw4 hbw4.size hb5).size hb6⟩
  · have hbw := below_on hb1 hb1.size hb2
    have hck := refCheck_any (k : Int) (some ⟨g, 0, none⟩) cap Lt t w2 (HT1.out.keep hb2) HLt.out.symm hn (by omega)
    rw [ck_ok hr] at hck
    have hrf := fun W (hW : Below w2.heap.size w2 W) => refReg_none k Lt cap (some ⟨g, 0, none⟩) t W ((HT1.out.keep hb2).keep hW) HLt.out.symm hr hok hk hno
    have HCK := Lib.hid hck
    have HRF := Lib.hid hrf
    clear hck hrf hno hr hok hb1 hb2 HRG
    go_upto_region 7 with (first | (go_at_call 25; refine (HCK.out).mono ?_; rintro e w3 ⟨rfl, hb3⟩) | (go_at_call 27; refine (HRF.out _ hb3).mono ?_; rintro e w4 ⟨rfl, hb4⟩))
    have hb34 := below_on hb3 hb3.size hb4
    have hbw4 := below_on hbw hbw.size hb34
    clear hb34 hb3 hb4 hbw
    go_wp2_with (first
      | (go_at_call 28; refine (same_nil _).mono ?_; rintro e w5 ⟨rfl, hb5⟩)
      | (go_at_call 26; refine (lives_any _).mono ?_; rintro e w6 ⟨rfl, hb6⟩))
    go_ret
    exact ⟨rfl, below_on (below_on hbw4 hbw4.size hb5) (below_on hbw4 hbw4.size hb5).size hb6⟩
end Go.Proofs.Ytpaemlkikkcjiaa
