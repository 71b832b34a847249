/- The walk of ActionClashes. -/
import Derived.Test.YtpaemlkikkcjiaaWRgs
import Derived.Test.YtpaemlkikkcjiaaWCla
import Derived.Test.YtpaemlkikkcjiaaWClr
namespace Go.Proofs.Ytpaemlkikkcjiaa
open Go.RowKit

theorem way_loop {k q m : Nat} {ts : List T3} {by_ : Nat → Nat} (ho : OkL k 1000000 ts) (h : Way k (teL (allT k ts)) by_ q m) :
    ∃ ix V W, Loop (allT k ts) k m ix V W ∧ claF (teL (allT k ts)) by_ q k m = fun j => (ix j : Int) := by
  have hl := loop_of (okL_all ho (by omega)) h.le h.circ (fun j => by
    have hcf := cirF_of (okL_all ho (by omega)) h
    have := hcf.low (k + 1 + j)
    rwa [bck_add] at this)
  exact ⟨_, _, _, hl, rfl⟩
set_option maxHeartbeats 8000000 in
set_option maxRecDepth 100000 in
theorem actionClashes_any (n : Int) (A : Option Addr) (c L : Nat) (ts : List T3) (w : World) (hn : -9223372036854775808 ≤ n ∧ n ≤ 9223372036854775807) (hA : TiesAt w A ts) (hL : L = ts.length) (hc : L ≤ c) (hnil : A = none → c = 0) (hcm : c ≤ maxLen) :
    Calls Try.prog 5 #[.int .i64 n, .slice A L c] w fun e w' => e = .returned (.bool true) ∧ Below w.heap.size w w' := by
  have hfe := few_any A c L ts w hA hL hc hnil hcm
  have hlen := fewL_len ts
  have HFE := Lib.hid hfe
  generalize fewL ts = t at *
  clear hfe hA hL hc hnil hcm
  go_enter Try.func5, Try.ntmps5
  go_wp2_with (go_at_call 23; refine (HFE.out).mono ?_; rintro e w1 ⟨g, cap, rfl, hcap, hg, hgw, hT, hb1⟩)
  generalize hLt : t.length = Lt at *
  have HLt := Lib.hid hLt
  have hcl := clash_any n ⟨g, 0, none⟩ cap Lt t w1 hT hLt.symm hn (by omega)
  have HCL := Lib.hid hcl
  have HT1 := Lib.hid hT
  clear hcl hLt hT HFE
  go_upto_region 3 with (go_at_call 31; refine (HCL.out).mono ?_; rintro e w2 ⟨hb2, ⟨hf, rfl⟩ | ⟨k, rfl, hr, hk, hok, ⟨⟨x, hle⟩, rfl⟩ | ⟨hno, q, by_, m, g3, cap3, hway, rfl, hv⟩⟩⟩)
  · have hbw := below_on hb1 hb1.size hb2
    have hck := refCheck_any n (some ⟨g, 0, none⟩) cap Lt t w2 (HT1.out.keep hb2) HLt.out.symm hn (by omega)
    rw [ck_bad hf] at hck
    have HCK := Lib.hid hck
    clear hck hf hb1 hb2
    go_wp2_with (first
      | (go_at_call 25; refine (HCK.out).mono ?_; rintro e w3 ⟨rfl, hb3⟩)
      | (go_at_call 26; refine (lives_any _).mono ?_; rintro e w4 ⟨rfl, hb4⟩))
    go_ret
    exact ⟨rfl, below_on (below_on hbw hbw.size hb3) (below_on hbw hbw.size hb3).size hb4⟩
  · have hbw := below_on hb1 hb1.size hb2
    have hck := refCheck_any (k : Int) (some ⟨g, 0, none⟩) cap Lt t w2 (HT1.out.keep hb2) HLt.out.symm hn (by omega)
    rw [ck_ok hr] at hck
    have hrf := fun W (hW : Below w2.heap.size w2 W) => refReg_least k Lt cap (some ⟨g, 0, none⟩) t x W ((HT1.out.keep hb2).keep hW) HLt.out.symm hr hok hk hle
    have HCK := Lib.hid hck
    have HRF := Lib.hid hrf
    clear hck hrf hle hr hok hb1 hb2 HCL
    go_wp2_with (first
      | (go_at_call 25; refine (HCK.out).mono ?_; rintro e w3 ⟨rfl, hb3⟩)
      | (go_at_call 27; refine (HRF.out _ hb3).mono ?_; rintro e w4 ⟨y, g4, cap4, rfl, hvy, hxy, hb4⟩)
      | (go_at_call 26; refine (lives_any _).mono ?_; rintro e w5 ⟨rfl, hb5⟩))
    have h3 := below_on hbw hbw.size hb3
    have h4 := below_on h3 h3.size hb4
    go_ret
    exact ⟨rfl, below_on h4 h4.size hb5⟩
  · have hbw := below_on hb1 hb1.size hb2
    have hck := refCheck_any (k : Int) (some ⟨g, 0, none⟩) cap Lt t w2 (HT1.out.keep hb2) HLt.out.symm hn (by omega)
    rw [ck_ok hr] at hck
    have hrf := fun W (hW : Below w2.heap.size w2 W) => refReg_none k Lt cap (some ⟨g, 0, none⟩) t W ((HT1.out.keep hb2).keep hW) HLt.out.symm hr hok hk hno
    obtain ⟨ix, V, W0, hlp, hcf⟩ := way_loop hok hway
    rw [hcf] at hv
    have hrc := fun W (hW : Below w2.heap.size w2 W) => refClash_true k Lt cap m cap3 g3 g t ix V W0 W ((HT1.out.keep hb2).keep hW) HLt.out.symm hlp (Vals.keep hv hW) hk.2 (by have := reg_len hr; have := HLt.out; omega)
    have HCK := Lib.hid hck
    have HRF := Lib.hid hrf
    have HRC := Lib.hid hrc
    clear hck hrf hrc hno hr hok hb1 hb2 HCL hlp hcf hv hway
    go_wp2_with (first
      | (go_at_call 25; refine (HCK.out).mono ?_; rintro e w3 ⟨rfl, hb3⟩)
      | (go_at_call 27; refine (HRF.out _ hb3).mono ?_; rintro e w4 ⟨rfl, hb4⟩; have hb34 := below_on hb3 hb3.size hb4)
      | (go_at_call 32; refine (HRC.out _ hb34).mono ?_; rintro e w6 ⟨rfl, hb6⟩)
      | (go_at_call 26; refine (lives_any _).mono ?_; rintro e w5 ⟨rfl, hb5⟩))
    have h4 := below_on hbw hbw.size hb34
    have h6 := below_on h4 h4.size hb6
    go_ret
    exact ⟨rfl, below_on h6 h6.size hb5⟩
end Go.Proofs.Ytpaemlkikkcjiaa
