/- Total; the walk of MatchChecks. -/
import Derived.Test.YtncmfjncdhhjoaaWTot
import Derived.Test.YtncmfjncdhhjoaaWLiw
import Derived.Test.YtncmfjncdhhjoaaWTbl
namespace Go.Proofs.Ytncmfjncdhhjoaa
open Go.RowKit

def TotalPost (w : World) (ls : List (List Int)) (l : List Int) (e : Ending) (w' : World) : Prop :=
  Below w.heap.size w w' ∧ ((chkT ls = false ∧ e = .returned (.tuple #[.int .i64 0, .int .i64 1])) ∨
    (∃ n m, chkT ls = true ∧ ls.length = n ∧ Good n m ls ∧ (1 ≤ n ∧ n ≤ m ∧ m ≤ 64) ∧ ((¬ IsAsg n m (cst ls) l ∧ e = .returned (.tuple #[.int .i64 0, .int .i64 2])) ∨ (IsAsg n m (cst ls) l ∧ e = .returned (.tuple #[.int .i64 (costN (cst ls) (colOf l) n), .int .i64 0])))))

set_option maxHeartbeats 4000000 in
set_option maxRecDepth 100000 in
theorem totalApi_any (cA cL S L : Nat) (A A' : Option Addr) (ls : List (List Int)) (l : List Int) (w : World) (T : Tab w.heap.size w A ls) (hS : S = ls.length) (hA' : Ints w A' l) (hL : L = l.length) :
    Calls Try.prog 24 #[.slice A S cA, .slice A' L cL] w (TotalPost w ls l) := by
  have hck := check_any w.heap.size A cA S ls w T hS
  cases hchk : chkT ls with
  | false =>
    have hce : ckE ls = 1 := by unfold ckE; rw [hchk]; rfl
    rw [hce] at hck
    have HCK := Lib.hid hck
    clear hck hce T hA' hS hL
    go_enter Try.func24, Try.ntmps24
    go_wp2_with (go_at_call 25; refine (HCK.out).mono ?_; rintro e w1 ⟨rfl, rfl⟩)
    go_ret2
    exact ⟨Below.refl _ _, .inl ⟨hchk, rfl⟩⟩
  | true =>
    have hce : ckE ls = 0 := by unfold ckE; rw [hchk]; rfl
    rw [hce] at hck
    obtain ⟨n, m, hn, hm, h1, h2, h3, G⟩ := chkT_good hchk
    have hSn : S = n := hS.trans hn
    subst hSn
    have hia := isAsg_any w.heap.size S m cA cL L A A' ls l w T (Nat.le_refl _) G hA' hL h1 h2 h3
    have htt := fun W (hW : Below w.heap.size w W) hI => total_any w.heap.size S m cA cL L A A' ls l W (T.keep hW) G (Vals.keep hA' hW) hL h1 h2 h3 hI
    have HCK := Lib.hid hck
    have HIA := Lib.hid hia
    have HTT := Lib.hid htt
    have HG := Lib.hid G
    have HN := Lib.hid hn
    have HCH := Lib.hid hchk
    clear hck hce T hA' hS hL hia htt G hn hm hchk
    go_enter Try.func24, Try.ntmps24
    go_wp2_with (first
      | (go_at_call 25; refine (HCK.out).mono ?_; rintro e w1 ⟨rfl, rfl⟩)
      | (go_at_call 48; refine (HIA.out).mono ?_; rintro e w2 ⟨hl2, ⟨hi, rfl⟩ | ⟨hni, rfl⟩⟩)
      | (go_at_call 49; refine (HTT.out _ hl2 hi).mono ?_; rintro e w3 ⟨rfl, rfl⟩))
    · go_ret2
      exact ⟨hl2, .inr ⟨S, m, HCH.out, HN.out, HG.out, ⟨h1, h2, h3⟩, .inr ⟨hi, rfl⟩⟩⟩
    · go_ret2
      exact ⟨hl2, .inr ⟨S, m, HCH.out, HN.out, HG.out, ⟨h1, h2, h3⟩, .inl ⟨hni, rfl⟩⟩⟩

theorem good_eq' {n m n' m' : Nat} {ls : List (List Int)} (h : Good n m ls) (g : Good n' m' ls) (h1 : 1 ≤ n) : n = n' ∧ m = m' := by
  refine ⟨h.rows.symm.trans g.rows, ?_⟩
  obtain ⟨l, hl, hm⟩ := h.row (i := 0) (by omega)
  exact hm.symm.trans (g.cols 0 l hl)
theorem held_len' {es : List (Value × List Int)} {ls : List (List Int)} (h : es.map (·.2) = ls) : es.length = ls.length := by rw [← h, List.length_map]

set_option maxHeartbeats 8000000 in
set_option maxRecDepth 100000 in
theorem matchChecks_any (A A' : Option Addr) (c c' L L' : Nat) (ls : List (List Int)) (l0 : List Int) (w : World) (T : TabIn w A ls) (hL : L = ls.length) (hA' : Ints w A' l0) (hL' : L' = l0.length) (hc' : L' ≤ c') (hnil : A' = none → c' = 0) :
    Calls Try.prog 3 #[.slice A L c, .slice A' L' c'] w fun e w' => e = .returned (.bool true) ∧ Below w.heap.size w w' := by
  have htb := table_any A c L 66 66 ls w T hL (by omega) (by omega)
  have hct := fun W (h : Below w.heap.size w W) => cut_any A' c' L' 66 l0 W (hA'.keep h) hL' hc' hnil (by omega)
  have HTB := Lib.hid htb
  have HCT := Lib.hid hct
  have hl66 : (l0.take 66).length ≤ 1000 := by rw [List.length_take]; omega
  generalize l0.take 66 = l at *
  generalize tblL ls 66 66 = ts at *
  clear htb hct T hA' hL hL' hc' hnil
  go_enter Try.func3, Try.ntmps3
  go_wp2_with (first
    | (go_at_call 21; refine (HTB.out).mono ?_; rintro e w1 ⟨v, es, rfl, hH, hv, hN, hE, hl1⟩
       obtain ⟨g, cap, he, hT⟩ := hH.tab hv hN
       rw [hE] at hT
       rw [held_len' hE] at he
       subst he
       have HTT := Lib.hid hT
       clear hH hv hN hE hT)
    | (go_at_call 22; refine (HCT.out _ hl1).mono ?_; rintro e w2 ⟨v2, rfl, _, ⟨g2, cap2, he2, hI2⟩, hl2⟩
       subst he2
       have HI2 := Lib.hid hI2
       have HTT2 := Lib.hid ((HTT.out).keep hl2)
       clear hI2))
  have hl12 := hl1.trans (hl2.mono hl1.size)
  have hck := refCheck_any w1.heap.size (some ⟨g, 0, none⟩) cap ts.length ts w2 HTT2.out rfl
  have HCK := Lib.hid hck
  clear hck
  refine (HCK.out).mono ?_
  rintro e w3 ⟨rfl, hl3⟩
  have hl13 := hl12.trans (hl3.mono hl12.size)
  have HTT3 := Lib.hid (((HTT2.out).keep (hl3.mono hl2.size)).mono (show w1.heap.size ≤ w3.heap.size by have := hl2.size; have := hl3.size; omega))
  have HI3 := Lib.hid (Vals.keep HI2.out hl3)
  have HTO := Lib.hid (totalApi_any cap cap2 ts.length l.length (some ⟨g, 0, none⟩) (some ⟨g2, 0, none⟩) ts l w3 HTT3.out rfl HI3.out rfl)
  go_wp2_with (fail)
  refine (HTO.out).mono ?_
  intro e w4 hp
  have hl4 := hp.1
  have hl14 := hl13.trans (hl4.mono hl13.size)
  have HTT4 := Lib.hid ((HTT3.out).keep hl4)
  have HI4 := Lib.hid (Vals.keep HI3.out hl4)
  have HC4 := Lib.hid (check_any w3.heap.size (some ⟨g, 0, none⟩) cap ts.length ts w4 HTT4.out rfl)
  rcases hp.2 with ⟨hch, rfl⟩ | ⟨n, m, hch, hn, hG, ⟨h1, h2, h3⟩, hcase⟩
  · have hce : ckE ts = 1 := by unfold ckE; rw [hch]; rfl
    rw [hce] at HC4 ⊢
    clear hp hce hch HCK HTO
    go_wp2_with (first
      | (go_at_call 25; refine (HC4.out).mono ?_; rintro e w5 ⟨rfl, rfl⟩)
      | (go_at_call 26; refine (lives_any _).mono ?_; rintro e w6 ⟨rfl, hl6⟩))
    go_ret
    exact ⟨rfl, hl14.trans (hl6.mono hl14.size)⟩
  · have hce : ckE ts = 0 := by unfold ckE; rw [hch]; rfl
    rw [hce] at HC4 ⊢
    have HRT := Lib.hid (fun W (hW : Below w4.heap.size w4 W) => refTotal_any w3.heap.size n m cap cap2 l.length (some ⟨g, 0, none⟩) (some ⟨g2, 0, none⟩) ts l W ((HTT4.out).keep (hW.mono hl4.size)) hG (Vals.keep HI4.out hW) rfl h1 h2 h3 hl66)
    have HN := Lib.hid hn
    clear hp hce hch HCK HTO hG hn
    rw [HN.out] at HC4 ⊢
    rcases hcase with ⟨hni, rfl⟩ | ⟨hi, rfl⟩
    · have HNI := Lib.hid hni
      clear hni
      go_wp2_with (first
        | (go_at_call 25; refine (HC4.out).mono ?_; rintro e w5 ⟨rfl, rfl⟩)
        | (go_at_call 26; refine (lives_any _).mono ?_; rintro e w6 ⟨rfl, hl6⟩)
        | (go_at_call 27; refine (HRT.out _ hl6).mono ?_; rintro e w7 ⟨hl7, ⟨ha, rfl⟩ | ⟨hna, rfl⟩⟩))
      all_goals first
        | exact absurd ha HNI.out
        | skip
      · have q6 := hl14.trans (hl6.mono hl14.size)
        go_ret
        exact ⟨rfl, q6.trans (hl7.mono q6.size)⟩
    · have HI := Lib.hid hi
      clear hi
      go_wp2_with (first
        | (go_at_call 25; refine (HC4.out).mono ?_; rintro e w5 ⟨rfl, rfl⟩)
        | (go_at_call 26; refine (lives_any _).mono ?_; rintro e w6 ⟨rfl, hl6⟩)
        | (go_at_call 27; refine (HRT.out _ hl6).mono ?_; rintro e w7 ⟨hl7, ⟨ha, rfl⟩ | ⟨hna, rfl⟩⟩))
      all_goals first
        | exact absurd HI.out hna
        | skip
      · have q6 := hl14.trans (hl6.mono hl14.size)
        go_ret
        exact ⟨rfl, q6.trans (hl7.mono q6.size)⟩

end Go.Proofs.Ytncmfjncdhhjoaa
