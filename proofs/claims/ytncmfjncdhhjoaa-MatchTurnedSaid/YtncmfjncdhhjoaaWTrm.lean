/- The walk of MatchTurned. -/
import Derived.Test.YtncmfjncdhhjoaaWTro
import Derived.Deep.CutRange
namespace Go.Proofs.Ytncmfjncdhhjoaa
open Go.RowKit

set_option maxHeartbeats 16000000 in
set_option maxRecDepth 100000 in
theorem matchTurned_any (A : Option Addr) (c L : Nat) (ls : List (List Int)) (w : World) (T : TabIn w A ls) (hL : L = ls.length) :
    Calls Try.prog 19 #[.slice A L c] w fun e w' => e = .returned (.bool true) ∧ Below w.heap.size w w' := by
  obtain ⟨i0, hi0, hz0, hz1, hz2⟩ := info_parts infoI
  have htb := table_any A c L 20 20 ls w T hL (by omega) (by omega)
  have HTB := Lib.hid htb
  have hsz : (tblL ls 20 20).length ≤ 20 := by unfold tblL; simp; omega
  generalize tblL ls 20 20 = ts at *
  clear htb T hL
  go_enter Try.func19, Try.ntmps19
  go_upto_region 2 with (go_at_call 21; refine (HTB.out).mono ?_; rintro e w1 ⟨v, es, rfl, hH, hv, hN, hE, hl1⟩ ; obtain ⟨g, cap, he, hT⟩ := hH.tab hv hN ; obtain ⟨g', cap', he', hTI⟩ := hH.tabIn hv hN ; rw [he] at he' ; injection he' with e1 e2 e3 ; subst e3 ; injection e1 with e1 ; injection e1 with e1 ; subst e1 ; rw [hE] at hT hTI ; have HTI := Lib.hid hTI ; rw [show es.length = ts.length by rw [← hE, List.length_map]] at he ; subst he ; have HTT := Lib.hid hT ; clear hH hv hN hE hT hTI e2)
  by_cases hz : ts.length = 0
  · have hd : decide (0 < ts.length) = false := decide_eq_false (by omega)
    have hd2 : decide ((0 : Int) < (ts.length : Int)) = false := decide_eq_false (by omega)
    have hchk : chkT ts = false := by
      have : ts = [] := List.eq_nil_of_length_eq_zero hz
      rw [this]; rfl
    have hck := refCheck_any w1.heap.size (some ⟨g, 0, none⟩) cap ts.length ts w1 HTT.out rfl
    have hce : ckE ts = 1 := by unfold ckE; rw [hchk]; rfl
    rw [hce] at hck
    have HCK := Lib.hid hck
    clear hck hce hchk hz
    go_wp2_with (first
      | (go_at_call 23; refine (HCK.out).mono ?_; rintro e w3 ⟨rfl, hl3⟩; have q3 := hl1.trans (hl3.mono hl1.size))
      | (go_at_call 26; refine (lives_any _).mono ?_; rintro e w4 ⟨rfl, hl4⟩))
    go_ret
    exact ⟨rfl, q3.trans (hl4.mono q3.size)⟩
  · have hd : decide (0 < ts.length) = true := decide_eq_true (by omega)
    have hd2 : decide ((0 : Int) < (ts.length : Int)) = true := decide_eq_true (by omega)
    have htb2 := table_any (some ⟨g, 0, none⟩) cap ts.length ts.length ts.length ts w1 HTI.out rfl (by omega) (by omega)
    have hsq : ∀ n m, (tblL ts ts.length ts.length).length = n → ((tblL ts ts.length ts.length).getD 0 []).length = m → 1 ≤ n → n ≤ m → m = n := fun n m a b c d => square_of a b c d
    have hul : (tblL ts ts.length ts.length).length ≤ 20 := by unfold tblL; simp; omega
    have HTB2 := Lib.hid htb2
    have HSQ := Lib.hid hsq
    generalize hus : tblL ts ts.length ts.length = us at *
    clear htb2 hsq hz hus HTB HTI HTT
    go_upto_region 4 with (go_at_call 21; refine (HTB2.out).mono ?_; rintro e w2 ⟨v2, es2, rfl, hH2, hv2, hN2, hE2, hl2⟩ ; obtain ⟨g2, cap2, he2, hT2⟩ := hH2.tab hv2 hN2 ; rw [hE2] at hT2 ; rw [show es2.length = us.length by rw [← hE2, List.length_map]] at he2 ; have HT2 := Lib.hid hT2 ; clear hH2 hv2 hN2 hE2 hT2 ; subst he2)
    have q2 := hl1.trans (hl2.mono hl1.size)
    have hck := refCheck_any w2.heap.size (some ⟨g2, 0, none⟩) cap2 us.length us w2 HT2.out rfl
    cases hchk : chkT us with
    | false =>
      have hce : ckE us = 1 := by unfold ckE; rw [hchk]; rfl
      rw [hce] at hck
      have HCK := Lib.hid hck
      clear hck hce hchk
      go_wp2_with (first
        | (go_at_call 23; refine (HCK.out).mono ?_; rintro e w3 ⟨rfl, hl3⟩; have q3 := q2.trans (hl3.mono q2.size))
        | (go_at_call 26; refine (lives_any _).mono ?_; rintro e w4 ⟨rfl, hl4⟩))
      go_ret
      exact ⟨rfl, q3.trans (hl4.mono q3.size)⟩
    | true =>
      have hce : ckE us = 0 := by unfold ckE; rw [hchk]; rfl
      rw [hce] at hck
      obtain ⟨n, m, hn, hm, h1, h2, h3, G⟩ := chkT_good hchk
      obtain rfl := HSQ.out n m hn hm h1 h2
      have HCK := Lib.hid hck
      have HG := Lib.hid G
      have HCH := Lib.hid hchk
      have HNN := Lib.hid hn
      clear hck hce hchk hm G hn h2 hl1 hl2 HTB2 HSQ
      have hn := HNN.out
      subst hn
      clear HNN
      go_upto_region 6 with (go_at_call 23; refine (HCK.out).mono ?_; rintro e w3 ⟨rfl, hl3⟩; have q3 := q2.trans (hl3.mono q2.size); have HT3 := Lib.hid ((HT2.out.keep hl3).mono hl3.size))
      have h0 : Held w3.heap.size (w3.alloc (.cells #[] 23)) (.slice (some ⟨w3.heap.size, 0, none⟩) 0 0) [] :=
        ⟨own_empty w3 23, fun e he => by simp at he, fun i j e f g he => by simp at he, fun e he => by simp at he⟩
      have hl0 := below_new w3 (.cells #[] 23)
      have H0 := Lib.hid h0
      clear h0 HCK HT2 q2 hl3
      go_upto_region 8 with (fail)
      generalize hnn : us.length = n at *
      have HNE := Lib.hid hnn
      clear hnn
      go_loopw [4, 5, 6, 7] (fun v t _ _ wr => ∃ (k : Nat) (es : List (Value × List Int)), k ≤ n ∧ t = .int .i64 (k : Int) ∧ Hid (es.length = k) ∧ Held w3.heap.size wr v es ∧ v ≠ .slice none 0 0 ∧ Hid (∀ x, x ∈ es → x.1 ≠ .slice none 0 0) ∧ Hid (es.map (·.2) = turnL us n k) ∧ Below w3.heap.size w3 wr) (fun _ t _ _ _ => n - (intOf t).toNat)
      case atStart => exact ⟨0, [], Nat.zero_le _, rfl, Lib.hid rfl, H0.out, by simp, Lib.hid (by simp), Lib.hid (by simp [turnL]), hl0⟩
      case round =>
        clear H0 hl0
        obtain ⟨k, es, hk, rfl, HES, hH, hv0, HN, HE, hl⟩ := hrel
        have HH := Lib.hid hH
        have HV0 := Lib.hid hv0
        clear hH hv0
        by_cases hlk : k < n
        · have hlk2 : (k : Int) < (n : Int) := by omega
          go_upto_region 12 with (fail)
          have hA := below_new wr (.cells #[] 3)
          have HO := Lib.hid (own_empty wr 3)
          generalize wr.alloc (.cells #[] 3) = W1 at *
          obtain ⟨wo, hwo⟩ : ∃ wo, wo = wr := ⟨_, rfl⟩
          subst hwo
          go_loopw [6, 7] (fun r t wr2 => ∃ (i gg cp : Nat), i ≤ n ∧ wo.heap.size ≤ gg ∧ t = .int .i64 (i : Int) ∧ r = .slice (some ⟨gg, 0, none⟩) i cp ∧ Hid (wr2.ownsRow wo.heap.size 3 1 (.slice (some ⟨gg, 0, none⟩) i cp) i (is (colL us k i))) ∧ Below wo.heap.size wo wr2) (fun _ t _ => n - (intOf t).toNat)
          case atStart => exact ⟨0, wo.heap.size, 0, Nat.zero_le _, Nat.le_refl _, rfl, rfl, HO, hA⟩
          case round =>
            clear HO hA
            obtain ⟨i, gg, cp, hi, hgg, rfl, rfl, HOW, hl2⟩ := hrel
            by_cases hli : i < n
            · have hli2 : (i : Int) < (n : Int) := by omega
              have q9 := hl.trans (hl2.mono hl.size)
              obtain ⟨g9, off9, A9, c9, e9, hg9, hrow, hcell⟩ := HG.out.at_ (HT3.out.keep q9) hli
              injection e9 with e9
              injection e9 with e91 e92
              subst e91 e92
              rw [Nat.zero_add] at hrow
              obtain ⟨g8, off8, rfl, hg8, hcl⟩ := hcell (by omega)
              have hcc := hcl k hlk
              have HCO := Lib.hid (colL_succ us k i)
              generalize hx : cst us i k = x at *
              have HX := Lib.hid hx
              clear hcl hcell hx q9
              have ho2 := ownsRow_keep HOW.out (below_new wr (.cells #[.int .i64 x] 3))
              have hl5 : Below wo.heap.size wo (wr.alloc (.cells #[.int .i64 x] 3)) := bel_alloc hl2 hl2.size
              have hv2 : Vals (wr.alloc (.cells #[.int .i64 x] 3)) (some ⟨wr.heap.size, 0, none⟩) (is [x]) := (Blk.new wr 3 [.int .i64 x]).vals0
              have HO2 := Lib.hid ho2
              have HV2 := Lib.hid hv2
              have hsz := hl2.size
              clear ho2 hv2
              go_wp2_with (at_builtin
                           refine wpList_append_own _ rfl _ _ 23 rfl wo.heap.size 3 i0 (.int .i64 0) 1 8 Try.underlying23 hi0 hz0 hz1 hz2 rfl (by decide) _ _ _ rfl HO2.out ⟨wr.heap.size, 0, none⟩ 1 1 (is [x]) rfl rfl (vals_cells HV2.out) (is_one _) ?c4 ?c5 ?c6 ?_)
              case c4 => unfold maxLen; omega
              case c5 => omega
              case c6 => first | omega | (simp; omega)
              intro v' w6 hown hgr hne
              have hv : v' ≠ .slice none 0 0 := by simpa using hne
              have hl6 : Below wo.heap.size wo w6 := hl5.grown hgr hl5.size (by simp [Value.ownBlock]; omega)
              have hap : is (colL us k i) ++ is [x] = is (colL us k (i + 1)) := by rw [HCO.out, is_append]
              rw [hap] at hown
              obtain ⟨g7, cap7, he, hg7, hx1, hx2⟩ := Hd.of_owns hown hv
              rw [is_len, colL_len] at he
              subst he
              have HOW2 := Lib.hid hown
              clear hown hgr hne hv hx1 hx2 HOW HO2 HV2 hap
              go_wp2
              go_roundw
              case rel => exact ⟨i + 1, g7, cap7, by omega, hg7, by go_num, rfl, HOW2, hl6⟩
              case measure => simp [intOf]; omega
            · obtain rfl : n = i := by omega
              have hy : OwnLs wo.heap.size wr (.slice (some ⟨gg, 0, none⟩) n cp) (colL us k n) := by
                unfold OwnLs
                rw [colL_len]
                exact HOW.out
              have HY := Lib.hid hy
              have HTL := Lib.hid (turnL_succ us n k)
              clear hy HOW
              go_wp2_with (at_builtin
                           refine wp_pushH rfl (.tmp 55) (.tmp 57) rfl w3.heap.size k wo wr _ (.slice (some ⟨gg, 0, none⟩) n cp) 1 es (colL us k n) rfl HES.out HH.out (by omega) hl.size HY.out hl2 _ (by simp) rfl ?_)
              intro rv' w7 hH7 hl7
              have hv7 : rv' ≠ .slice none 0 0 := by
                rintro rfl
                rcases hH7.spine.2 with ⟨_, h0⟩ | ⟨g9, cap9, cur9, h9, _⟩
                · simp at h0
                · cases h9
              have HN7 : Hid (∀ x, x ∈ es ++ [(Value.slice (some ⟨gg, 0, none⟩) n cp, colL us k n)] → x.1 ≠ .slice none 0 0) := Lib.hid (fun x hx => by
                rcases List.mem_append.1 hx with hx | hx
                · exact HN.out x hx
                · have e := List.mem_singleton.1 hx
                  subst e; simp)
              have HE7 : Hid ((es ++ [(Value.slice (some ⟨gg, 0, none⟩) n cp, colL us k n)]).map (·.2) = turnL us n (k + 1)) := Lib.hid (by rw [List.map_append, HE.out, HTL.out]; rfl)
              have hlen7 : (es ++ [(Value.slice (some ⟨gg, 0, none⟩) n cp, colL us k n)]).length = k + 1 := by rw [List.length_append, HES.out]; rfl
              have HLE7 := Lib.hid hlen7
              have HH7 := Lib.hid hH7
              have hl8 := hl.trans hl7
              have HV7 := Lib.hid hv7
              clear hH7 hlen7 hv7
              go_wp2
              go_roundw
              case rel => exact ⟨k + 1, _, by omega, by go_num, HLE7, HH7.out, HV7.out, HN7, HE7, hl8⟩
              case measure => simp [intOf]; omega
        · obtain rfl : n = k := by omega
          obtain ⟨g4, cap4, he4, hT4⟩ := HH.out.tab HV0.out HN.out
          rw [HE.out] at hT4
          rw [HES.out] at he4
          subst he4
          have HD4 := Lib.hid (chkT_of h1 (Nat.le_refl n) h3 (turnL_good HG.out))
          have HT4 := Lib.hid hT4
          have q4 := q3.trans (hl.mono q3.size)
          have HTc := Lib.hid ((HT3.out.keep hl).mono hl.size)
          have HBE := Lib.hid (best_any (some ⟨g2, 0, none⟩) cap2 n us wr HTc.out HNE.out.symm)
          clear hT4 HT3 HH HV0 HN HE HES hl q3
          go_upto_region 17 with (go_at_call 28; refine (HBE.out).mono ?_; intro e w5 hpost; obtain ⟨hl5, A0, A1, A2, x0, y0, x1, y1, x2, y2, c1, er1, rfl, hcase1⟩ := best_sum hpost HCH.out HG.out h1; have HC1 := Lib.hid hcase1; clear hpost hcase1)
          have n1 := below_new w5 (.cells #[(.slice A0 x0 y0), (.slice A1 x1 y1), (.slice A2 x2 y2), .int .i64 c1] 35)
          have p1 : (w5.alloc (.cells #[(.slice A0 x0 y0), (.slice A1 x1 y1), (.slice A2 x2 y2), .int .i64 c1] 35)).cell? ⟨w5.heap.size, 3, none⟩ = some (.int .i64 c1) := (Blk.new w5 35 [(.slice A0 x0 y0), (.slice A1 x1 y1), (.slice A2 x2 y2), .int .i64 c1]).cell 3
          have hb1 : w5.heap.size < (w5.alloc (.cells #[(.slice A0 x0 y0), (.slice A1 x1 y1), (.slice A2 x2 y2), .int .i64 c1] 35)).heap.size := by simp
          have q5 := q4.trans (hl5.mono q4.size)
          have q6 := q5.trans (n1.mono q5.size)
          have HTd := Lib.hid ((((HT4.out.keep hl5).mono hl5.size).keep n1).mono n1.size)
          have HTe := Lib.hid ((((HTc.out.keep hl5).mono hl5.size).keep n1).mono n1.size)
          have HP1 := Lib.hid p1
          have HB1 := Lib.hid hb1
          clear n1 p1 hb1 q5 hl5 HT4 HTc HBE q4
          generalize w5.alloc (.cells #[(.slice A0 x0 y0), (.slice A1 x1 y1), (.slice A2 x2 y2), .int .i64 c1] 35) = w6 at *
          generalize w5.heap.size = b5 at *
          have HBE2 := Lib.hid (best_any (some ⟨g4, 0, none⟩) cap4 n (turnL us n n) w6 HTd.out (turnL_len us n n).symm)
          go_upto_region 18 with (go_at_call 28; refine (HBE2.out).mono ?_; intro e w7 hpost; obtain ⟨hl7, B0, B1, B2, z0, t0, z1, t1, z2, t2, c2, er2, rfl, hcase2⟩ := best_sum hpost HD4.out (turnL_good HG.out) h1; have HC2 := Lib.hid hcase2; clear hpost hcase2)
          have n2 := below_new w7 (.cells #[(.slice B0 z0 t0), (.slice B1 z1 t1), (.slice B2 z2 t2), .int .i64 c2] 35)
          have p2 : (w7.alloc (.cells #[(.slice B0 z0 t0), (.slice B1 z1 t1), (.slice B2 z2 t2), .int .i64 c2] 35)).cell? ⟨w7.heap.size, 3, none⟩ = some (.int .i64 c2) := (Blk.new w7 35 [(.slice B0 z0 t0), (.slice B1 z1 t1), (.slice B2 z2 t2), .int .i64 c2]).cell 3
          have hb2 : w7.heap.size < (w7.alloc (.cells #[(.slice B0 z0 t0), (.slice B1 z1 t1), (.slice B2 z2 t2), .int .i64 c2] 35)).heap.size := by simp
          have q7 := q6.trans (hl7.mono q6.size)
          have q8 := q7.trans (n2.mono q7.size)
          have HTf := Lib.hid ((((HTd.out.keep hl7).mono hl7.size).keep n2).mono n2.size)
          have HTg := Lib.hid ((((HTe.out.keep hl7).mono hl7.size).keep n2).mono n2.size)
          have hb17 : b5 < w7.heap.size := Nat.lt_of_lt_of_le HB1.out hl7.size
          have HP18 := Lib.hid ((n2.cell (p := ⟨b5, 3, none⟩) hb17).trans ((hl7.cell (p := ⟨b5, 3, none⟩) HB1.out).trans HP1.out))
          have HB18 := Lib.hid (Nat.lt_of_lt_of_le hb17 n2.size)
          have HP2 := Lib.hid p2
          have HB2 := Lib.hid hb2
          obtain ⟨he12, hc12⟩ := both_turn (fun i k hi hk => turnL_cst hi hk) HC1.out HC2.out
          subst he12 hc12
          clear n2 p2 hb2 q7 hl7 HTd HTe hb17 HP1 HB1 HC1 HC2 HBE2 q6
          generalize w7.alloc (.cells #[(.slice B0 z0 t0), (.slice B1 z1 t1), (.slice B2 z2 t2), .int .i64 c1] 35) = w8 at *
          generalize w7.heap.size = b7 at *
          have HMO := Lib.hid (most_any (some ⟨g2, 0, none⟩) cap2 n us w8 HTg.out HNE.out.symm)
          go_upto_region 19 with (go_at_call 35; refine (HMO.out).mono ?_; intro e w9 hpm; have hl9 := hpm.1; rcases hpm.2 with ⟨hf, rfl⟩ | ⟨n8, m8, o8, cc, _, _, hG8, _, hM8, rfl⟩)
          · rw [HCH.out] at hf; cases hf
          · obtain ⟨rfl, rfl⟩ := good_eq3 HG.out hG8 h1
            have q9 := q8.trans (hl9.mono q8.size)
            have HTh := Lib.hid ((HTf.out.keep hl9).mono hl9.size)
            have HM8 := Lib.hid hM8
            have HP19 := Lib.hid ((hl9.cell (p := ⟨b5, 3, none⟩) HB18.out).trans HP18.out)
            have HP29 := Lib.hid ((hl9.cell (p := ⟨b7, 3, none⟩) HB2.out).trans HP2.out)
            have HB19 := Lib.hid (Nat.lt_of_lt_of_le HB18.out hl9.size)
            have HB29 := Lib.hid (Nat.lt_of_lt_of_le HB2.out hl9.size)
            have HMO2 := Lib.hid (most_any (some ⟨g4, 0, none⟩) cap4 n (turnL us n n) w9 HTh.out (turnL_len us n n).symm)
            clear hpm hG8 hM8 HMO hl9 q8
            go_upto_region 20 with (go_at_call 35; refine (HMO2.out).mono ?_; intro e w10 hpm; have hl10 := hpm.1; rcases hpm.2 with ⟨hf, rfl⟩ | ⟨n9, m9, o9, cd, _, _, hG9, _, hM9, rfl⟩)
            · rw [HD4.out] at hf; cases hf
            · obtain ⟨rfl, rfl⟩ := good_eq3 (turnL_good HG.out) hG9 h1
              have q10 := q9.trans (hl10.mono q9.size)
              have X1 := (hl10.cell (p := ⟨b5, 3, none⟩) HB19.out).trans HP19.out
              have X2 := (hl10.cell (p := ⟨b7, 3, none⟩) HB29.out).trans HP29.out
              obtain rfl := turned_most (fun i k hi hk => by unfold mayC; rw [turnL_cst hi hk]) HM8.out hM9
              clear hpm hG9 hM9 HMO2 hl10 q9
              go_wp2_with (go_at_call 26; refine (lives_any _).mono ?_; rintro e w11 ⟨rfl, hl11⟩)
              go_ret
              exact ⟨rfl, q10.trans (hl11.mono q10.size)⟩
end Go.Proofs.Ytncmfjncdhhjoaa
