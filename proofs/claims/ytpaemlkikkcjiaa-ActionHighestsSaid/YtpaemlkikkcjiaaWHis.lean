/- The walk of ActionHighests. -/
import Derived.Test.YtpaemlkikkcjiaaWRgs
import Derived.Test.YtpaemlkikkcjiaaWHig
import Derived.Test.YtpaemlkikkcjiaaWRfh
namespace Go.Proofs.Ytpaemlkikkcjiaa
open Go.RowKit

theorem refHig_great (k L c : Nat) (A : Option Addr) (ts : List T3) (top : Int) (x : Nat → Int) (w : World) (hA : TiesAt w A ts) (hL : L = ts.length) (hr : regB (k : Int) ts = true) (ho : OkL k 1000000 ts) (h1 : 1 ≤ k ∧ k ≤ 64) (ht : 0 ≤ top ∧ top ≤ 1000000) (hx : Great k ts top x) :
    Calls Try.prog 30 #[.int .i64 (k : Int), .slice A L c, .int .i64 top] w fun e w' => ∃ y g cap, e = .returned (.tuple #[.slice (some ⟨g, 0, none⟩) k cap, .int .i64 0]) ∧ Vals w' (some ⟨g, 0, none⟩) (fl y k) ∧ (∀ i, i < k → x i = y i) ∧ Below w.heap.size w w' := by
  have hl := reg_len hr
  refine (refHig_any k L c A ts top w hA hL ho h1.1 h1.2 (by omega) ht.1 ht.2).mono ?_
  rintro e w' ⟨hb, ⟨y, g, cap, hg, rfl, hv⟩ | ⟨hno, _⟩⟩
  · exact ⟨y, g, cap, rfl, hv, hx.unique hg, hb⟩
  · exact absurd hx.sol (hno x)
theorem refHig_none (k L c : Nat) (A : Option Addr) (ts : List T3) (top : Int) (w : World) (hA : TiesAt w A ts) (hL : L = ts.length) (hr : regB (k : Int) ts = true) (ho : OkL k 1000000 ts) (h1 : 1 ≤ k ∧ k ≤ 64) (ht : 0 ≤ top ∧ top ≤ 1000000) (hx : ∀ x, ¬ SolT k ts top x) :
    Calls Try.prog 30 #[.int .i64 (k : Int), .slice A L c, .int .i64 top] w fun e w' => e = .returned (.tuple #[.slice none 0 0, .int .i64 6]) ∧ Below w.heap.size w w' := by
  have hl := reg_len hr
  refine (refHig_any k L c A ts top w hA hL ho h1.1 h1.2 (by omega) ht.1 ht.2).mono ?_
  rintro e w' ⟨hb, ⟨y, g, cap, hg, rfl, hv⟩ | ⟨hno, rfl⟩⟩
  · exact absurd hg.sol (hx y)
  · exact ⟨rfl, hb⟩
set_option maxHeartbeats 8000000 in
set_option maxRecDepth 100000 in
theorem actionHighests_any (n : Int) (A : Option Addr) (c L : Nat) (ts : List T3) (top : Int) (w : World) (hn : -9223372036854775808 ≤ n ∧ n ≤ 9223372036854775807) (htp : -9223372036854775808 ≤ top ∧ top ≤ 9223372036854775807) (hA : TiesAt w A ts) (hL : L = ts.length) (hc : L ≤ c) (hnil : A = none → c = 0) (hcm : c ≤ maxLen) :
    Calls Try.prog 4 #[.int .i64 n, .slice A L c, .int .i64 top] w fun e w' => e = .returned (.bool true) ∧ Below w.heap.size w w' := by
  have hfe := few_any A c L ts w hA hL hc hnil hcm
  have hlen := fewL_len ts
  have HFE := Lib.hid hfe
  generalize fewL ts = t at *
  clear hfe hA hL hc hnil hcm
  go_enter Try.func4, Try.ntmps4
  go_wp2_with (go_at_call 23; refine (HFE.out).mono ?_; rintro e w1 ⟨g, cap, rfl, hcap, hg, hgw, hT, hb1⟩)
  generalize hLt : t.length = Lt at *
  have HLt := Lib.hid hLt
  have hrg := highest_any n ⟨g, 0, none⟩ cap Lt t top w1 hT hLt.symm hn htp (by omega)
  have HRG := Lib.hid hrg
  have HT1 := Lib.hid hT
  clear hrg hLt hT HFE
  go_upto_region 3 with (go_at_call 29; refine (HRG.out).mono ?_; rintro e w2 ⟨hb2, ⟨hor, rfl⟩ | ⟨k, rfl, hr, ht, hk, hok, ⟨x, gx, capx, hgr, rfl, hvx⟩ | ⟨hno, rfl⟩⟩⟩)
  · have hbw := below_on hb1 hb1.size hb2
    have hck := refCheck_any n (some ⟨g, 0, none⟩) cap Lt t w2 (HT1.out.keep hb2) HLt.out.symm hn (by omega)
    cases hr : regB n t with
    | false =>
      rw [ck_bad hr] at hck
      have HCK := Lib.hid hck
      clear hck hr hor hb1 hb2
      go_wp2_with (first
        | (go_at_call 25; refine (HCK.out).mono ?_; rintro e w3 ⟨rfl, hb3⟩)
        | (go_at_call 26; refine (lives_any _).mono ?_; rintro e w4 ⟨rfl, hb4⟩))
      go_ret
      exact ⟨rfl, below_on (below_on hbw hbw.size hb3) (below_on hbw hbw.size hb3).size hb4⟩
    | true =>
      rw [ck_ok hr] at hck
      have hi : inB top 0 1000000 = false := by
        rcases hor with h | h
        · rw [hr] at h; cases h
        · exact h
      have HCK := Lib.hid hck
      clear hck hr hor hb1 hb2
      by_cases h0 : top < 0
      · have hd : decide (top < 0) = true := by simpa using h0
        clear hi
        go_wp2_with (first
          | (go_at_call 25; refine (HCK.out).mono ?_; rintro e w3 ⟨rfl, hb3⟩)
          | (go_at_call 26; refine (lives_any _).mono ?_; rintro e w4 ⟨rfl, hb4⟩))
        go_ret
        exact ⟨rfl, below_on (below_on hbw hbw.size hb3) (below_on hbw hbw.size hb3).size hb4⟩
      · have h5 : 1000000 < top := by
          unfold inB at hi
          simp at hi
          omega
        have hd : decide (top < 0) = false := by simpa using h0
        have hd2 : decide (1000000 < top) = true := by simpa using h5
        clear hi
        go_wp2_with (first
          | (go_at_call 25; refine (HCK.out).mono ?_; rintro e w3 ⟨rfl, hb3⟩)
          | (go_at_call 26; refine (lives_any _).mono ?_; rintro e w4 ⟨rfl, hb4⟩))
        go_ret
        exact ⟨rfl, below_on (below_on hbw hbw.size hb3) (below_on hbw hbw.size hb3).size hb4⟩
  · have hbw := below_on hb1 hb1.size hb2
    have hck := refCheck_any (k : Int) (some ⟨g, 0, none⟩) cap Lt t w2 (HT1.out.keep hb2) HLt.out.symm hn (by omega)
    rw [ck_ok hr] at hck
    have hd : decide (top < 0) = false := by simp; omega
    have hd2 : decide (1000000 < top) = false := by simp; omega
    have h0 : ¬ top < 0 := by omega
    have h5 : ¬ 1000000 < top := by omega
    have hrf := fun W (hW : Below w2.heap.size w2 W) => refHig_great k Lt cap (some ⟨g, 0, none⟩) t top x W ((HT1.out.keep hb2).keep hW) HLt.out.symm hr hok hk ht hgr
    have HCK := Lib.hid hck
    have HRF := Lib.hid hrf
    have HX := Lib.hid hvx
    clear hck hrf hvx hgr hr hok hb1 hb2 HRG
    go_upto_region 6 with (first | (go_at_call 25; refine (HCK.out).mono ?_; rintro e w3 ⟨rfl, hb3⟩) | (go_at_call 30; refine (HRF.out _ hb3).mono ?_; rintro e w4 ⟨y, g4, cap4, rfl, hvy, hxy, hb4⟩))
    have hb34 := below_on hb3 hb3.size hb4
    have hbw4 := below_on hbw hbw.size hb34
    have hsm := same_fl gx g4 capx cap4 k x y w4 (Vals.keep HX.out hb34) hvy hk.2 hxy
    have HSM := Lib.hid hsm
    clear hsm hb34 hb3 hb4 hbw hvy hxy
    go_wp2_with (first
      | (go_at_call 28; refine (HSM.out).mono ?_; rintro e w5 ⟨rfl, hb5⟩)
      | (go_at_call 26; refine (lives_any _).mono ?_; rintro e w6 ⟨rfl, hb6⟩))
    go_ret
    exact ⟨rfl, below_on (below_on hbw4 hbw4.size hb5) (below_on hbw4 hbw4.size hb5).size hb6⟩
  · have hbw := below_on hb1 hb1.size hb2
    have hck := refCheck_any (k : Int) (some ⟨g, 0, none⟩) cap Lt t w2 (HT1.out.keep hb2) HLt.out.symm hn (by omega)
    rw [ck_ok hr] at hck
    have hd : decide (top < 0) = false := by simp; omega
    have hd2 : decide (1000000 < top) = false := by simp; omega
    have h0 : ¬ top < 0 := by omega
    have h5 : ¬ 1000000 < top := by omega
    have hrf := fun W (hW : Below w2.heap.size w2 W) => refHig_none k Lt cap (some ⟨g, 0, none⟩) t top W ((HT1.out.keep hb2).keep hW) HLt.out.symm hr hok hk ht hno
    have HCK := Lib.hid hck
    have HRF := Lib.hid hrf
    clear hck hrf hno hr hok hb1 hb2 HRG
    go_upto_region 6 with (first | (go_at_call 25; refine (HCK.out).mono ?_; rintro e w3 ⟨rfl, hb3⟩) | (go_at_call 30; refine (HRF.out _ hb3).mono ?_; rintro e w4 ⟨rfl, hb4⟩))
    have hb34 := below_on hb3 hb3.size hb4
    have hbw4 := below_on hbw hbw.size hb34
    clear hb34 hb3 hb4 hbw
    go_wp2_with (first
      | (go_at_call 28; refine (same_nil _).mono ?_; rintro e w5 ⟨rfl, hb5⟩)
      | (go_at_call 26; refine (lives_any _).mono ?_; rintro e w6 ⟨rfl, hb6⟩))
    go_ret
    exact ⟨rfl, below_on (below_on hbw4 hbw4.size hb5) (below_on hbw4 hbw4.size hb5).size hb6⟩
end Go.Proofs.Ytpaemlkikkcjiaa
