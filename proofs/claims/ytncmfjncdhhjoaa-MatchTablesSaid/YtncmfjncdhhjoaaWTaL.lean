/- The walk of MatchTables. -/
import Derived.Test.YtncmfjncdhhjoaaWShp
import Derived.Test.YtncmfjncdhhjoaaWPc2
import Derived.Test.YtncmfjncdhhjoaaWPc3
import Derived.Test.YtncmfjncdhhjoaaWPc4
import Derived.Test.YtncmfjncdhhjoaaWLiw
namespace Go.Proofs.Ytncmfjncdhhjoaa
open Go.RowKit

theorem tab_nil (w : World) : Tab w.heap.size w none [] := ⟨[], rfl, VB.of_vals Vals.nil, fun i l h => by simp at h⟩

set_option maxHeartbeats 8000000 in
set_option maxRecDepth 100000 in
theorem matchTables_any (A A' : Option Addr) (c c' n m : Nat) (js qs : List J2) (bend trim : Int) (w : World) (hA : JAt w A js) (hA' : JAt w A' qs) (hn : n = js.length) (hm : m = qs.length) (hnc : n ≤ c) (hmc : m ≤ c') (hnil : A = none → c = 0) (hnil' : A' = none → c' = 0) :
    Calls Try.prog 9 #[.agg #[.slice A n c, .slice A' m c', .int .i64 bend, .int .i64 trim]] w fun e w' => e = .returned (.bool true) ∧ Below w.heap.size w w' := by
  obtain ⟨W0, hW0⟩ : ∃ W, W = w.alloc (.cells #[.slice A n c, .slice A' m c', .int .i64 bend, .int .i64 trim] 57) := ⟨_, rfl⟩
  obtain ⟨b1, hb1⟩ : ∃ b, b = w.heap.size := ⟨_, rfl⟩
  have hbx : Blk 57 W0 b1 [.slice A n c, .slice A' m c', .int .i64 bend, .int .i64 trim] := by rw [hW0, hb1]; exact Blk.new w 57 _
  have hl0 : Below w.heap.size w W0 := by rw [hW0]; exact below_new w _
  have hsh := shop_any A A' c c' n m js qs bend trim W0 (Vals.keep hA hl0) (Vals.keep hA' hl0) hn hm hnc hmc hnil hnil'
  generalize js.take 66 = j1 at *
  generalize qs.take 66 = q1 at *
  have HSH := Lib.hid hsh
  have HL := Lib.hid hl0
  have HW0 := Lib.hid hW0
  have HB1 := Lib.hid hb1
  have x0 : W0.cell? ⟨b1, 0, none⟩ = some (.slice A n c) := hbx.cell 0
  have x1 : W0.cell? ⟨b1, 1, none⟩ = some (.slice A' m c') := hbx.cell 1
  have x2 : W0.cell? ⟨b1, 2, none⟩ = some (.int .i64 bend) := hbx.cell 2
  have x3 : W0.cell? ⟨b1, 3, none⟩ = some (.int .i64 trim) := hbx.cell 3
  clear hA hA' hn hm hnc hmc hnil hnil' hbx hl0 hsh hW0 hb1
  go_enter Try.func9, Try.ntmps9
  go_upto_region 1 with (fail)
  rw [← HW0.out, ← HB1.out]
  clear HW0 HB1
  go_wp2_with (fail)
  refine (HSH.out).mono ?_
  rintro e w1 ⟨hl1, g, k, g', k', rfl, hj, hq⟩
  obtain ⟨N, hN⟩ : ∃ N, N = j1.length := ⟨_, rfl⟩
  obtain ⟨M, hM⟩ : ∃ M, M = q1.length := ⟨_, rfl⟩
  rw [← hN, ← hM]
  obtain ⟨O, hO⟩ : ∃ O, O = Obj.cells #[.slice (some ⟨g, 0, none⟩) N k, .slice (some ⟨g', 0, none⟩) M k', .int .i64 bend, .int .i64 trim] 57 := ⟨_, rfl⟩
  have hbn : Blk 57 (w1.alloc O) w1.heap.size [.slice (some ⟨g, 0, none⟩) N k, .slice (some ⟨g', 0, none⟩) M k', .int .i64 bend, .int .i64 trim] := by rw [hO]; exact Blk.new w1 57 _
  have hl01 := HL.out.trans (hl1.mono HL.out.size)
  have HL3 := Lib.hid (hl01.alloc hl01.size O)
  have HJ := Lib.hid (Vals.alloc hj O)
  have HQ := Lib.hid (Vals.alloc hq O)
  have HBN := Lib.hid hbn
  have HO := Lib.hid hO
  have HN := Lib.hid hN
  have HM := Lib.hid hM
  clear hl1 hj hq hN hM hO hbn hl01 HSH HL x0 x1 x2 x3
  go_upto_region 2 with (fail)
  rw [← HO.out]
  obtain ⟨b3, h3⟩ : ∃ x, x = w1.heap.size := ⟨_, rfl⟩
  rw [← h3] at HBN ⊢
  clear HO h3
  generalize w1.alloc O = W3 at *
  have hmt := mtable_any (some ⟨g, 0, none⟩) (some ⟨g', 0, none⟩) k k' N M j1 q1 bend trim W3 HJ.out HQ.out HN.out HM.out
  have hkp : ∀ W, Below W3.heap.size W3 W → (W.cell? ⟨b3, 0, none⟩ = some (.slice (some ⟨g, 0, none⟩) N k) ∧ W.cell? ⟨b3, 1, none⟩ = some (.slice (some ⟨g', 0, none⟩) M k') ∧ W.cell? ⟨b3, 2, none⟩ = some (.int .i64 bend) ∧ W.cell? ⟨b3, 3, none⟩ = some (.int .i64 trim)) ∧ JAt W (some ⟨g, 0, none⟩) j1 ∧ JAt W (some ⟨g', 0, none⟩) q1 := fun W h => by
    have hb := HBN.out.keep h
    exact ⟨⟨hb.cell 0, hb.cell 1, hb.cell 2, hb.cell 3⟩, HJ.out.keep h, HQ.out.keep h⟩
  have HMT := Lib.hid hmt
  have HKP := Lib.hid hkp
  obtain ⟨⟨s0, s1, s2, s3⟩, -⟩ := hkp W3 (Below.refl _ _)
  clear hmt hkp HBN HJ HQ
  go_wp2_with (fail)
  refine (HMT.out).mono ?_
  rintro e w4 ⟨hl4, hcase⟩
  clear s0 s1 s2 s3
  obtain ⟨⟨s0, s1, s2, s3⟩, hj4, hq4⟩ := HKP.out w4 hl4
  have hrt := rtable_any (some ⟨g, 0, none⟩) (some ⟨g', 0, none⟩) k k' N M j1 q1 bend trim w4 hj4 hq4 HN.out HM.out
  have HRT := Lib.hid hrt
  have HL4 := Lib.hid (HL3.out.trans (hl4.mono HL3.out.size))
  clear hrt hj4 hq4 hl4 HKP HMT HL3
  rcases hcase with ⟨hok, rfl⟩ | ⟨hok, gm, gs, rfl, hT⟩
  · have HOK := Lib.hid hok
    clear hok
    go_wp2_with (fail)
    refine (HRT.out).mono ?_
    rintro e w5 ⟨hl5, ⟨-, rfl⟩ | ⟨hok', -⟩⟩
    · have hts := tables_same none none 0 0 0 [] w5 (tab_nil w5) (tab_nil w5) rfl (by omega) (fun l h => by simp at h)
      have HTS := Lib.hid hts
      have HL5 := Lib.hid (HL4.out.trans (hl5.mono HL4.out.size))
      clear hts hl5 s0 s1 s2 s3
      go_wp2_with (first
        | (go_at_call 45; refine (HTS.out).mono ?_; rintro e w6 ⟨rfl, hl6⟩)
        | (go_at_call 26; refine (lives_any _).mono ?_; rintro e w7 ⟨rfl, hl7⟩))
      go_ret
      have h6 := HL5.out.trans (hl6.mono HL5.out.size)
      exact ⟨rfl, h6.trans (hl7.mono h6.size)⟩
    · rw [HOK.out] at hok'; cases hok'
  · have hgd := pri_good hok
    obtain ⟨⟨d1, d2, d3⟩, -⟩ := okS_t hok
    rw [← HN.out, ← HM.out] at hgd
    have hTm := hT.tab hgd
    have HTM := Lib.hid hTm
    have HG := Lib.hid hgd
    have HOK := Lib.hid hok
    have hN64 : N ≤ 64 := by rw [HN.out]; omega
    have hM64 : M ≤ 64 := by rw [HM.out]; omega
    clear hok hgd hT hTm d1 d2 d3
    go_wp2_with (fail)
    refine (HRT.out).mono ?_
    rintro e w5 ⟨hl5, ⟨hok', -⟩ | ⟨-, v, es, rfl, hH, hv, hnn, hE⟩⟩
    · rw [HOK.out] at hok'; cases hok'
    · obtain ⟨gr, capr, rfl, hTr⟩ := hH.tab hv hnn
      have hlen : es.length = N := by
        have := congrArg List.length hE
        rw [List.length_map] at this
        rw [this]; exact HG.out.rows
      rw [hE] at hTr
      have hts := tables_same (some ⟨gm, 0, none⟩) (some ⟨gr, 0, none⟩) N capr N (priL j1 q1 bend trim) w5 ((HTM.out.keep hl5).mono hl5.size) hTr HG.out.rows.symm (by omega) (fun l h => by
        obtain ⟨i, hi⟩ := List.getElem?_of_mem h
        rw [HG.out.cols i l hi]; omega)
      have HTS := Lib.hid hts
      have HL5 := Lib.hid (HL4.out.trans (hl5.mono HL4.out.size))
      rw [hlen]
      clear hts hl5 hTr hH hv hnn hE hlen s0 s1 s2 s3
      go_wp2_with (first
        | (go_at_call 45; refine (HTS.out).mono ?_; rintro e w6 ⟨rfl, hl6⟩)
        | (go_at_call 26; refine (lives_any _).mono ?_; rintro e w7 ⟨rfl, hl7⟩))
      go_ret
      have h6 := HL5.out.trans (hl6.mono HL5.out.size)
      exact ⟨rfl, h6.trans (hl7.mono h6.size)⟩
end Go.Proofs.Ytncmfjncdhhjoaa
