/- The walk of MatchEither. -/
import Derived.Test.YtncmfjncdhhjoaaWMst
import Derived.Test.YtncmfjncdhhjoaaWSrA
import Derived.Test.YtncmfjncdhhjoaaWFor
namespace Go.Proofs.Ytncmfjncdhhjoaa
open Go.RowKit

set_option maxHeartbeats 8000000 in
set_option maxRecDepth 100000 in
theorem matchEither_any (A : Option Addr) (c L : Nat) (ls : List (List Int)) (w : World) (T : TabIn w A ls) (hL : L = ls.length) :
    Calls Try.prog 14 #[.slice A L c] w fun e w' => e = .returned (.bool true) ∧ Below w.heap.size w w' := by
  have htb := table_any A c L 40 44 ls w T hL (by omega) (by omega)
  have HTB := Lib.hid htb
  generalize tblL ls 40 44 = ts at *
  clear htb T hL
  go_enter Try.func14, Try.ntmps14
  go_wp2_with (first
    | (go_at_call 21; refine (HTB.out).mono ?_; rintro e w1 ⟨v, es, rfl, hH, hv, hN, hE, hl1⟩
       obtain ⟨g, cap, he, hT⟩ := hH.tab hv hN
       rw [hE] at hT
       rw [show es.length = ts.length by rw [← hE, List.length_map]] at he
       have HTT := Lib.hid hT
       clear hH hv hN hE hT
       subst he))
  have hck := refCheck_any w1.heap.size (some ⟨g, 0, none⟩) cap ts.length ts w1 HTT.out rfl
  cases hchk : chkT ts with
  | false =>
    have hce : ckE ts = 1 := by unfold ckE; rw [hchk]; rfl
    rw [hce] at hck
    have HCK := Lib.hid hck
    clear hck hce hchk
    refine (HCK.out).mono ?_
    rintro e w3 ⟨rfl, hl3⟩
    have hl13 := hl1.trans (hl3.mono hl1.size)
    go_wp2_with (go_at_call 26; refine (lives_any _).mono ?_; rintro e w4 ⟨rfl, hl4⟩)
    go_ret
    exact ⟨rfl, hl13.trans (hl4.mono hl13.size)⟩
  | true =>
    have hce : ckE ts = 0 := by unfold ckE; rw [hchk]; rfl
    rw [hce] at hck
    obtain ⟨n, m, hn, hm, h1, h2, h3, G⟩ := chkT_good hchk
    have HCK := Lib.hid hck
    have HG := Lib.hid G
    have HCH := Lib.hid hchk
    have HNN := Lib.hid hn
    clear hck hce hchk hm G hn HTB
    refine (HCK.out).mono ?_
    rintro e w3 ⟨rfl, hl3⟩
    have hl13 := hl1.trans (hl3.mono hl1.size)
    have HTT3 := Lib.hid ((HTT.out.keep hl3).mono hl3.size)
    rw [HNN.out]
    clear HCK HTT
    have hbe := best_any (some ⟨g, 0, none⟩) cap n ts w3 HTT3.out HNN.out.symm
    have HBE := Lib.hid hbe
    clear hbe
    go_wp2_with (fail)
    refine (HBE.out).mono ?_
    intro e w5 hpost
    have hl5 := hpost.1
    have hl15 := hl13.trans (hl5.mono hl13.size)
    have HTT5 := Lib.hid ((HTT3.out.keep hl5).mono hl5.size)
    clear HBE HTT3
    rcases hpost.2 with ⟨hf, _⟩ | ⟨n', m', _, _, hG', _, hno, rfl⟩ | ⟨n', m', gt, gu, gv, to, u, v, _, hn', BO, rfl⟩
    · rw [HCH.out] at hf; cases hf
    · obtain ⟨rfl, rfl⟩ := good_eq3 HG.out hG' h1
      have n1 := below_new w5 (.cells #[.slice none 0 0, .slice none 0 0, .slice none 0 0, .int .i64 0] 35)
      have q1 := hl15.trans (n1.mono hl15.size)
      have hTT6 := (HTT5.out.keep n1).mono n1.size
      have hha := hall_any 1000000 sortK_any (some ⟨g, 0, none⟩) cap n ts _ hTT6 HNN.out.symm (by omega)
      have HHA := Lib.hid hha
      have HNO := Lib.hid hno
      clear hno hG' hpost HTT5
      unfold zeroM
      go_upto_region 5 with (fail)
      generalize w5.alloc (.cells #[.slice none 0 0, .slice none 0 0, .slice none 0 0, .int .i64 0] 35) = w6 at *
      have HTT6 := Lib.hid hTT6
      clear hTT6 hha
      go_upto_region 6 with (go_at_call 38; refine (HHA.out).mono ?_; intro e w7 hph; have hl7 := hph.1; rcases hph.2 with ⟨hf, rfl⟩ | ⟨n7, m7, o7, _, _, hG7, _, hS7, rfl⟩ | ⟨n7, m7, i7, o7, s7, g7, cap7, N7, f7, _, _, hG7, _, hi7, hS7, hR7, _, _, _, _, _, rfl⟩)
      · rw [HCH.out] at hf; cases hf
      · obtain ⟨rfl, rfl⟩ := good_eq3 HG.out hG7 h1
        exfalso
        obtain ⟨τ, hτ⟩ := hS7.asg (fun i k hi hk => (HG.out.rng i k hi hk).1)
        exact HNO.out τ hτ
      · obtain ⟨rfl, rfl⟩ := good_eq3 HG.out hG7 h1
        have hTT7 := (HTT6.out.keep hl7).mono hl7.size
        have q7 := q1.trans (hl7.mono q1.size)
        have hmo := most_any (some ⟨g, 0, none⟩) cap n ts _ hTT7 HNN.out.symm
        have HMO := Lib.hid hmo
        clear hmo hph hG7 hS7 hR7 hTT7 HTT6 HHA
        go_upto_region 7 with (go_at_call 35; refine (HMO.out).mono ?_; intro e w8 hpm; have hl8 := hpm.1; rcases hpm.2 with ⟨hf, rfl⟩ | ⟨n8, m8, o8, cc, _, _, hG8, _, hM8, rfl⟩)
        · rw [HCH.out] at hf; cases hf
        · obtain ⟨rfl, rfl⟩ := good_eq3 HG.out hG8 h1
          have q8 := q7.trans (hl8.mono q7.size)
          rcases hM8.part with ⟨rfl, S⟩ | ⟨hlt, _⟩
          · exfalso
            obtain ⟨τ, hτ⟩ := S.asg (fun i k hi hk => (HG.out.rng i k hi hk).1)
            exact HNO.out τ hτ
          · have hd : decide ((cc : Int) < (n : Int)) = true := by simp; omega
            have hd2 : decide (cc < n) = true := by simp; omega
            clear hpm hM8 hG8 HMO
            go_wp2_with (go_at_call 26; refine (lives_any _).mono ?_; rintro e w9 ⟨rfl, hl9⟩)
            go_ret
            exact ⟨rfl, q8.trans (hl9.mono q8.size)⟩
    · obtain ⟨rfl, rfl⟩ := good_eq3 HG.out BO.good h1
      have HAS := Lib.hid BO.min.asg
      generalize hls : costN (cst ts) to n = cs0 at *
      clear hls
      have n1 := below_new w5 (.cells #[.slice (some ⟨gt, 0, none⟩) n n, .slice (some ⟨gu, 0, none⟩) n n, .slice (some ⟨gv, 0, none⟩) m m, .int .i64 cs0] 35)
      have q1 := hl15.trans (n1.mono hl15.size)
      have hTT6 := (HTT5.out.keep n1).mono n1.size
      have hha := hall_any 1000000 sortK_any (some ⟨g, 0, none⟩) cap n ts _ hTT6 HNN.out.symm (by omega)
      have HHA := Lib.hid hha
      clear BO hpost hn' HTT5
      go_upto_region 5 with (fail)
      generalize w5.alloc (.cells #[.slice (some ⟨gt, 0, none⟩) n n, .slice (some ⟨gu, 0, none⟩) n n, .slice (some ⟨gv, 0, none⟩) m m, .int .i64 cs0] 35) = w6 at *
      have HTT6 := Lib.hid hTT6
      clear hTT6 hha
      go_upto_region 6 with (go_at_call 38; refine (HHA.out).mono ?_; intro e w7 hph; have hl7 := hph.1; rcases hph.2 with ⟨hf, rfl⟩ | ⟨n7, m7, o7, _, _, hG7, _, hS7, rfl⟩ | ⟨n7, m7, i7, o7, s7, g7, cap7, N7, f7, _, _, hG7, _, hi7, hS7, hR7, _, _, _, _, _, rfl⟩)
      · rw [HCH.out] at hf; cases hf
      · obtain ⟨rfl, rfl⟩ := good_eq3 HG.out hG7 h1
        have hTT7 := (HTT6.out.keep hl7).mono hl7.size
        have q7 := q1.trans (hl7.mono q1.size)
        have hmo := most_any (some ⟨g, 0, none⟩) cap n ts _ hTT7 HNN.out.symm
        have HMO := Lib.hid hmo
        clear hmo hph hG7 hS7 hTT7 HTT6 HHA
        go_upto_region 7 with (go_at_call 35; refine (HMO.out).mono ?_; intro e w8 hpm; have hl8 := hpm.1; rcases hpm.2 with ⟨hf, rfl⟩ | ⟨n8, m8, o8, cc, _, _, hG8, _, hM8, rfl⟩)
        · rw [HCH.out] at hf; cases hf
        · obtain ⟨rfl, rfl⟩ := good_eq3 HG.out hG8 h1
          have q8 := q7.trans (hl8.mono q7.size)
          rcases hM8.part with ⟨rfl, S⟩ | ⟨hlt, j, hj, hst⟩
          · have hd : ((cc : Int) == (cc : Int)) = true := by simp
            clear hpm hM8 hG8 HMO S
            go_wp2_with (go_at_call 26; refine (lives_any _).mono ?_; rintro e w9 ⟨rfl, hl9⟩)
            go_ret
            exact ⟨rfl, q8.trans (hl9.mono q8.size)⟩
          · exact absurd HAS.out (hst.no hj _)
      · obtain ⟨rfl, rfl⟩ := good_eq3 HG.out hG7 h1
        exact absurd HAS.out (StuckAt.no ⟨o7, s7, hS7, hR7⟩ hi7 _)
end Go.Proofs.Ytncmfjncdhhjoaa
