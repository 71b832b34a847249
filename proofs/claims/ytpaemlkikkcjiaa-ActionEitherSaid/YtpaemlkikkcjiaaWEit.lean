/- The walk of ActionEither. -/
import Derived.Test.YtpaemlkikkcjiaaWLst
import Derived.Test.YtpaemlkikkcjiaaWCla
namespace Go.Proofs.Ytpaemlkikkcjiaa
open Go.RowKit

set_option maxHeartbeats 8000000 in
set_option maxRecDepth 100000 in
theorem actionEither_any (n : Int) (A : Option Addr) (c L : Nat) (ts : List T3) (w : World) (hn : -9223372036854775808 ≤ n ∧ n ≤ 9223372036854775807) (hA : TiesAt w A ts) (hL : L = ts.length) (hc : L ≤ c) (hnil : A = none → c = 0) (hcm : c ≤ maxLen) :
    Calls Try.prog 13 #[.int .i64 n, .slice A L c] w fun e w' => e = .returned (.bool true) ∧ Below w.heap.size w w' := by
  have hfe := few_any A c L ts w hA hL hc hnil hcm
  have hlen := fewL_len ts
  have HFE := Lib.hid hfe
  generalize fewL ts = t at *
  clear hfe hA hL hc hnil hcm
  go_enter Try.func13, Try.ntmps13
  go_wp2_with (go_at_call 23; refine (HFE.out).mono ?_; rintro e w1 ⟨g, cap, rfl, hcap, hg, hgw, hT, hb1⟩)
  generalize hLt : t.length = Lt at *
  have HLt := Lib.hid hLt
  have hrg := regulate_any n ⟨g, 0, none⟩ cap Lt t w1 hT hLt.symm hn (by omega)
  have HRG := Lib.hid hrg
  have HT1 := Lib.hid hT
  clear hrg hLt hT HFE
  go_upto_region 3 with (go_at_call 24; refine (HRG.out).mono ?_; rintro e w2 ⟨hb2, ⟨hf, rfl⟩ | ⟨k, rfl, hr, hk, hok, ⟨x, v, hle, hxb, rfl, hv⟩ | ⟨hno, rfl⟩⟩⟩)
  · have hbw := below_on hb1 hb1.size hb2
    have hcl := clash_bad n ⟨g, 0, none⟩ cap Lt t w2 (HT1.out.keep hb2) HLt.out.symm hn (by omega) hf
    have hck := fun W (hW : Below w2.heap.size w2 W) => refCheck_any n (some ⟨g, 0, none⟩) cap Lt t W ((HT1.out.keep hb2).keep hW) HLt.out.symm hn (by omega)
    rw [ck_bad hf] at hck
    have HCK := Lib.hid hck
    have HCL := Lib.hid hcl
    clear hck hcl hf hb1 hb2 HRG
    go_wp2_with (first
      | (go_at_call 31; refine (HCL.out).mono ?_; rintro e w3 ⟨rfl, hb3⟩)
      | (go_at_call 25; refine (HCK.out _ hb3).mono ?_; rintro e w4 ⟨rfl, hb4⟩)
      | (go_at_call 26; refine (lives_any _).mono ?_; rintro e w5 ⟨rfl, hb5⟩))
    have h3 := below_on hbw hbw.size hb3
    have h4 := below_on h3 h3.size hb4
    go_ret
    exact ⟨rfl, below_on h4 h4.size hb5⟩
  · have hbw := below_on hb1 hb1.size hb2
    have hcl := clash_least k ⟨g, 0, none⟩ cap Lt t x w2 (HT1.out.keep hb2) HLt.out.symm (by omega) hr hk.2 hle
    have HCL := Lib.hid hcl
    obtain ⟨g2, cap2, rfl, hvx, _⟩ := reg_x_le hv
    clear hcl hle hvx hr hok hb1 hb2 hv hxb HRG
    go_wp2_with (first
      | (go_at_call 31; refine (HCL.out).mono ?_; rintro e w3 ⟨rfl, hb3⟩)
      | (go_at_call 26; refine (lives_any _).mono ?_; rintro e w5 ⟨rfl, hb5⟩))
    have h3 := below_on hbw hbw.size hb3
    go_ret
    exact ⟨rfl, below_on h3 h3.size hb5⟩
  · have hbw := below_on hb1 hb1.size hb2
    have hcl := clash_none k ⟨g, 0, none⟩ cap Lt t w2 (HT1.out.keep hb2) HLt.out.symm (by omega) hr hk.2 hno
    have HCL := Lib.hid hcl
    clear hcl hno hr hok hb1 hb2 HRG
    go_wp2_with (first
      | (go_at_call 31; refine (HCL.out).mono ?_; rintro e w3 ⟨q, by_, m, g3, cap3, rfl, _, _, hb3⟩)
      | (go_at_call 26; refine (lives_any _).mono ?_; rintro e w5 ⟨rfl, hb5⟩))
    have h3 := below_on hbw hbw.size hb3
    go_ret
    exact ⟨rfl, below_on h3 h3.size hb5⟩
end Go.Proofs.Ytpaemlkikkcjiaa
