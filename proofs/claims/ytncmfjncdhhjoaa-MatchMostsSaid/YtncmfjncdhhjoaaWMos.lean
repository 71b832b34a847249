/- The walk of MatchMosts. -/
import Derived.Test.YtncmfjncdhhjoaaWRAl
import Derived.Test.YtncmfjncdhhjoaaWMst
import Derived.Test.YtncmfjncdhhjoaaWFor
namespace Go.Proofs.Ytncmfjncdhhjoaa
open Go.RowKit

set_option maxHeartbeats 8000000 in
set_option maxRecDepth 100000 in
theorem matchMosts_any (A : Option Addr) (c L : Nat) (ls : List (List Int)) (w : World) (T : TabIn w A ls) (hL : L = ls.length) :
    Calls Try.prog 6 #[.slice A L c] w fun e w' => e = .returned (.bool true) ∧ Below w.heap.size w w' := by
  have htb := table_any A c L 66 66 ls w T hL (by omega) (by omega)
  have HTB := Lib.hid htb
  generalize tblL ls 66 66 = ts at *
  clear htb T hL
  go_enter Try.func6, Try.ntmps6
  go_upto_region 2 with (go_at_call 21; refine (HTB.out).mono ?_; rintro e w1 ⟨v, es, rfl, hH, hv, hN, hE, hl1⟩
                         obtain ⟨g, cap, he, hT⟩ := hH.tab hv hN
                         rw [hE] at hT
                         rw [show es.length = ts.length by rw [← hE, List.length_map]] at he
                         have HTT := Lib.hid hT
                         clear hH hv hN hE hT
                         subst he)
  have hmo := most_any (some ⟨g, 0, none⟩) cap ts.length ts _ HTT.out rfl
  have HMO := Lib.hid hmo
  clear hmo
  go_upto_region 3 with (go_at_call 35; refine (HMO.out).mono ?_; intro e w2 hpm; have hl2 := hpm.1; rcases hpm.2 with ⟨hf, rfl⟩ | ⟨n, m, o, cc, hc, hn, G, h123, hM, rfl⟩)
  · have q2 := hl1.trans (hl2.mono hl1.size)
    have hT2 := (HTT.out.keep hl2).mono hl2.size
    have hck := refCheck_any w2.heap.size (some ⟨g, 0, none⟩) cap ts.length ts w2 hT2 rfl
    have hce : ckE ts = 1 := by unfold ckE; rw [hf]; rfl
    rw [hce] at hck
    have HCK := Lib.hid hck
    clear hck hce hf hpm HMO HTT
    go_wp2_with (first
      | (go_at_call 23; refine (HCK.out).mono ?_; rintro e w3 ⟨rfl, hl3⟩; have q3 := q2.trans (hl3.mono q2.size))
      | (go_at_call 26; refine (lives_any _).mono ?_; rintro e w4 ⟨rfl, hl4⟩))
    go_ret
    exact ⟨rfl, q3.trans (hl4.mono q3.size)⟩
  · have q2 := hl1.trans (hl2.mono hl1.size)
    have hT2 := (HTT.out.keep hl2).mono hl2.size
    have hck := refCheck_any w2.heap.size (some ⟨g, 0, none⟩) cap ts.length ts w2 hT2 rfl
    have hce : ckE ts = 0 := by unfold ckE; rw [hc]; rfl
    rw [hce] at hck
    have HCK := Lib.hid hck
    have HG := Lib.hid G
    have HM := Lib.hid hM
    have HT2 := Lib.hid hT2
    obtain ⟨h1, h2, h3⟩ := h123
    clear hck hce hpm HMO HTT hc hM hT2 G
    subst hn
    have hal := all_own (some ⟨g, 0, none⟩) cap ts.length (by omega)
    have HAL := Lib.hid hal
    clear hal
    go_wp2_with (first
      | (go_at_call 23; refine (HCK.out).mono ?_; rintro e w3 ⟨rfl, hl3⟩; have q3 := q2.trans (hl3.mono q2.size); have HT3 := Lib.hid ((HT2.out.keep hl3).mono hl3.size))
      | (go_at_call 37; refine (HAL.out _).mono ?_; rintro e w5 ⟨gr, cr, rfl, hv5, hl5⟩; have q5 := q3.trans (hl5.mono q3.size); have HT5 := Lib.hid ((HT3.out.keep hl5).mono hl5.size); have HV5 := Lib.hid hv5)
      | (go_at_call 36; refine (refMost_any (some ⟨g, 0, none⟩) cap ts.length m ts.length gr cr ts (fun j => j) _ HT5.out HG.out h1 h2 h3 HV5.out (fun j hj => hj) (fun a b _ _ e => e) (by omega)).mono ?_; rintro e w6 ⟨o', c', rfl, hMR, hl6⟩; have q6 := q5.trans (hl6.mono q5.size); obtain ⟨_, rfl⟩ := Mst.det HM.out (hMR.id (fun j _ => rfl)); clear hMR)
      | (go_at_call 26; refine (lives_any _).mono ?_; rintro e w4 ⟨rfl, hl4⟩))
    go_ret
    exact ⟨rfl, q6.trans (hl4.mono q6.size)⟩
end Go.Proofs.Ytncmfjncdhhjoaa
