/- The walk of MatchColumns. -/
import Derived.Test.YtncmfjncdhhjoaaWClM
import Derived.Deep.Cut
import Derived.Deep.CutRange
import Derived.BigQuiet
namespace Go.Proofs.Ytncmfjncdhhjoaa
open Go.RowKit

theorem good_eqC {n m n' m' : Nat} {ls : List (List Int)} (h : Good n m ls) (g : Good n' m' ls) (h1 : 1 ≤ n) : n = n' ∧ m = m' := by
  refine ⟨h.rows.symm.trans g.rows, ?_⟩
  obtain ⟨l, hl, hm⟩ := h.row (i := 0) (by omega)
  exact hm.symm.trans (g.cols 0 l hl)

theorem ownsRow_keep' {B T s : Nat} {w w' : World} {v : Value} {n : Nat} {xs : List Value} (h : w.ownsRow B T s v n xs) (hb : Below w.heap.size w w') : w'.ownsRow B T s v n xs :=
  ownsRow_of h fun g hg => hb.block g (h.lt g hg).2
/-- A table that allows more is never dearer. -/
theorem best_le {n m m' : Nat} {A : Option Addr} {c : Nat} {us : List (List Int)} {cc : Nat → Nat → Int} {tu : Nat → Nat} {w : World} (T : Tab w.heap.size w A us) (G : Good n m' us) (h1 : 1 ≤ n) (h2 : n ≤ m') (h3 : m' ≤ 64) (hmm : m ≤ m') (H : LexMin n m cc tu)
    (he : ∀ i k, i < n → k < m → cc i k ≠ -1 → cst us i k = cc i k) :
    Calls Try.prog 28 #[.slice A n c] w fun e w' => ∃ gt gu gv y, e = .returned (.tuple #[.agg #[.slice (some ⟨gt, 0, none⟩) n n, .slice (some ⟨gu, 0, none⟩) n n, .slice (some ⟨gv, 0, none⟩) m' m', .int .i64 y], .int .i64 0]) ∧ y ≤ costN cc tu n ∧ Below w.heap.size w w' := by
  refine (best_any A c n us w T G.rows.symm).mono ?_
  rintro e w' ⟨hb, ⟨hf, _⟩ | ⟨n', m2, _, _, hG', _, hno, rfl⟩ | ⟨n', m2, gt, gu, gv, tw, u, v, _, hn', BO, rfl⟩⟩
  · rw [chkT_of h1 h2 h3 G] at hf; cases hf
  · obtain ⟨rfl, rfl⟩ := good_eqC G hG' h1
    exact absurd (asg_wide H.asg hmm he).1 (hno _)
  · obtain ⟨rfl, rfl⟩ := good_eqC G BO.good h1
    exact ⟨gt, gu, gv, _, rfl, least_wide H hmm he BO.min, hb⟩
theorem tbl_cols {ts : List (List Int)} {R C : Nat} (h : tblL ts R C = ts) {l : List Int} (hl : ts[0]? = some l) : l.length ≤ C := by
  rw [← h] at hl
  unfold tblL at hl
  rw [List.getElem?_map] at hl
  obtain ⟨x, _, rfl⟩ := Option.map_eq_some_iff.1 hl
  rw [List.length_take]; omega
set_option maxHeartbeats 8000000 in
set_option maxRecDepth 100000 in
theorem matchColumns_any (A A' : Option Addr) (c c' L L' : Nat) (ls : List (List Int)) (vs : List Int) (s0 s1 s2 : Int) (w : World) (T : TabIn w A ls) (hL : L = ls.length) (hA' : Ints w A' vs) (hL' : L' = vs.length) :
    Calls Try.prog 16 #[.slice A L c, .slice A' L' c', .agg #[.int .i64 s0, .int .i64 s1, .int .i64 s2]] w fun e w' => e = .returned (.bool true) ∧ Below w.heap.size w w' := by
  obtain ⟨W0, hW0⟩ : ∃ W, W = w.alloc (.cells #[.int .i64 s0, .int .i64 s1, .int .i64 s2] 69) := ⟨_, rfl⟩
  obtain ⟨b5, hb5⟩ : ∃ b, b = w.heap.size := ⟨_, rfl⟩
  have hbx : Blk 69 W0 b5 [.int .i64 s0, .int .i64 s1, .int .i64 s2] := by rw [hW0, hb5]; exact Blk.new w 69 _
  have hl0 : Below w.heap.size w W0 := by rw [hW0]; exact below_new w _
  have htb := table_any A c L 30 33 ls W0 (T.keep hl0) hL (by omega) (by omega)
  have hsm := tbl_same ls 30 33
  generalize tblL ls 30 33 = ts at *
  have hvk := fun W (h : Below w.heap.size w W) => Vals.keep hA' h
  have HTB := Lib.hid htb
  have HSM := Lib.hid hsm
  have HVK := Lib.hid hvk
  have HLV := Lib.hid hL'
  have HB := Lib.hid hbx
  have HL := Lib.hid hl0
  have HW0 := Lib.hid hW0
  have HB5 := Lib.hid hb5
  clear htb hsm hvk hL' hbx hl0 hW0 hb5 T hL hA'
  go_enter Try.func16, Try.ntmps16
  go_upto_region 1 with (fail)
  rw [← HW0.out, ← HB5.out]
  clear HW0 HB5
  go_wp2_with (fail)
  refine (HTB.out).mono ?_
  rintro e w1 ⟨v, es, rfl, hH, hv, hN, hE, hl1⟩
  obtain ⟨g, cap, rfl, hT⟩ := ownT_of hH hv hN hE
  have hl01 := HL.out.trans (hl1.mono HL.out.size)
  have HB1 := Lib.hid (HB.out.keep hl1)
  have hck := refCheck_any w1.heap.size (some ⟨g, 0, none⟩) cap ts.length ts w1 hT.tab rfl
  have HL1 := Lib.hid hl01
  have HT := Lib.hid hT
  clear hH hv hN hE hT hl1 hl01 HTB HL HB
  cases hchk : chkT ts with
  | false =>
    have hce : ckE ts = 1 := by unfold ckE; rw [hchk]; rfl
    rw [hce] at hck
    have HCK := Lib.hid hck
    clear hck hce hchk
    go_wp2_with (fail)
    refine (HCK.out).mono ?_
    rintro e w3 ⟨rfl, hl3⟩
    have hl13 := HL1.out.trans (hl3.mono HL1.out.size)
    go_wp2_with (go_at_call 26; refine (lives_any _).mono ?_; rintro e w4 ⟨rfl, hl4⟩)
    go_ret
    exact ⟨rfl, hl13.trans (hl4.mono hl13.size)⟩
  | true =>
    have hce : ckE ts = 0 := by unfold ckE; rw [hchk]; rfl
    rw [hce] at hck
    obtain ⟨n, m, hn, hm, h1, h2, h3, G⟩ := chkT_good hchk
    have HCK := Lib.hid hck
    have HG := Lib.hid G
    have HCH := Lib.hid hchk
    rw [hn]
    rw [hn] at HCK
    clear hck hce hchk hm G hn
    go_wp2_with (fail)
    refine (HCK.out).mono ?_
    rintro e w3 ⟨rfl, hl3⟩
    have hl13 := HL1.out.trans (hl3.mono HL1.out.size)
    have HT3 := Lib.hid (HT.out.keep hl3)
    have HB3 := Lib.hid (HB1.out.keep hl3)
    have hbe := best_any (some ⟨g, 0, none⟩) cap n ts w3 HT3.out.tab HG.out.rows.symm
    have HBE := Lib.hid hbe
    clear hbe HCK HT HB1 HL1 hl3
    go_wp2_with (fail)
    refine (HBE.out).mono ?_
    intro e w4 hpost
    have hl4 := hpost.1
    have hl14 := hl13.trans (hl4.mono hl13.size)
    have HT4 := Lib.hid (HT3.out.keep hl4)
    have HB4 := Lib.hid (HB3.out.keep hl4)
    clear HBE HT3 HB3 hl13
    rcases hpost.2 with ⟨hf, _⟩ | ⟨n', m', _, _, hG', _, hno, rfl⟩ | ⟨n', m', gt, gu, gv, tw, u, v, _, hn', BO, rfl⟩
    · rw [HCH.out] at hf; cases hf
    · have q1 := hl14.trans ((below_new w4 (.cells #[.slice none 0 0, .slice none 0 0, .slice none 0 0, .int .i64 0] 35)).mono hl14.size)
      clear hno hG' hpost
      unfold zeroM
      go_wp2_with (go_at_call 26; refine (lives_any _).mono ?_; rintro e w8 ⟨rfl, hl8⟩)
      go_ret
      exact ⟨rfl, q1.trans (hl8.mono q1.size)⟩
    · obtain ⟨rfl, rfl⟩ := good_eqC HG.out BO.good h1
      have HMIN := Lib.hid BO.min
      obtain ⟨Q, hQ⟩ : ∃ Q, Q = costN (cst ts) tw n := ⟨_, rfl⟩
      rw [← hQ]
      obtain ⟨O, hO⟩ : ∃ O, O = Obj.cells #[.slice (some ⟨gt, 0, none⟩) n n, .slice (some ⟨gu, 0, none⟩) n n, .slice (some ⟨gv, 0, none⟩) m m, .int .i64 Q] 35 := ⟨_, rfl⟩
      have n1 := below_new w4 O
      have HL5 := Lib.hid (hl14.trans (n1.mono hl14.size))
      have hbn : Blk 35 (w4.alloc O) w4.heap.size [.slice (some ⟨gt, 0, none⟩) n n, .slice (some ⟨gu, 0, none⟩) n n, .slice (some ⟨gv, 0, none⟩) m m, .int .i64 Q] := by rw [hO]; exact Blk.new w4 35 _
      have HBN := Lib.hid hbn
      have HT5 := Lib.hid (HT4.out.keep n1)
      have HB5 := Lib.hid (HB4.out.keep n1)
      have HQ := Lib.hid hQ
      have HO := Lib.hid hO
      clear hpost hn' BO hQ hO hbn n1 hl14 hl4 HT4 HB4
      go_upto_region 7 with (fail)
      rw [← HO.out]
      obtain ⟨b8, h8⟩ : ∃ x, x = w4.heap.size := ⟨_, rfl⟩
      rw [← h8] at HBN ⊢
      clear HO h8
      generalize w4.alloc O = w5 at *
      have htw := table_any (some ⟨g, 0, none⟩) cap n 30 33 ts w5 HT5.out.inn HG.out.rows.symm (by omega) (by omega)
      rw [HSM.out] at htw
      have HTW := Lib.hid htw
      clear htw
      go_wp2_with (fail)
      refine (HTW.out).mono ?_
      rintro e w6 ⟨vw, ew, rfl, hHw, hvw, hNw, hEw, hl6⟩
      have hT6 := HT5.out.keep hl6
      have htl := table_any (some ⟨g, 0, none⟩) cap n 30 33 ts w6 hT6.inn HG.out.rows.symm (by omega) (by omega)
      rw [HSM.out] at htl
      have HTL := Lib.hid htl
      obtain ⟨gw, capw, rfl, hgw, _, hnw, hdw⟩ := own_hd1 hHw.spine hvw
      have hewn : ew.length = n := by
        have := congrArg List.length hEw
        rw [List.length_map] at this
        rw [this]; exact HG.out.rows
      have HHW := Lib.hid hHw
      have HEW := Lib.hid hEw
      have HNW := Lib.hid hNw
      have HL6 := Lib.hid hl6
      have hgwl : gw < w6.heap.size := hdw.lt
      rw [hewn]
      rw [hewn] at HHW
      clear htl HTW hT6 hHw hvw hNw hEw hl6 hnw hdw hewn
      go_wp2_with (fail)
      refine (HTL.out).mono ?_
      rintro e w7 ⟨vl, el, rfl, hHl, hvl, hNl, hEl, hl7⟩
      obtain ⟨gl, capl, gs, cs, rfl, hTW⟩ := tw_of hHl hvl hNl hEl HG.out
      have hM0 : ClM w5.heap.size w6.heap.size w5 w7 gw capw n m gl capl ew ew ts (clF vs) 0 (el.map (·.1)) gs cs (cst ts) :=
        ⟨HHW.out.keep hl7, HNW.out, by rw [HEW.out]; exact WdL.start _ _, fun _ _ => rfl, hTW, HL6.out.trans (hl7.mono HL6.out.size), ⟨hgw, hgwl⟩, fun e he b hb => HHW.out.lt he hb, fun e he b hb r hr => by have h5 := (HHW.out.lt he hb).2; have h6 := (hTW.far.2 r hr).1; omega⟩
      have HM0 := Lib.hid hM0
      generalize el.map (·.1) = rows at *
      obtain ⟨Bl, hBl⟩ : ∃ b, b = w6.heap.size := ⟨_, rfl⟩
      rw [← hBl] at HM0
      clear hM0 hTW hHl hvl hNl hEl hl7 HTL HHW HNW HEW HL6 hBl hgw hgwl
      go_wp2_with (fail)
      go_loopw [12, 13] (fun t _ wr => ∃ (i : Nat) (es' : List (Value × List Int)), i ≤ n ∧ t = .int .i64 (i : Int) ∧ Hid (ClM w5.heap.size Bl w5 wr gw capw n m gl capl ew es' ts (clF vs) i rows gs cs (cst ts))) (fun t _ _ => n - (intOf t).toNat)
      case atStart => exact ⟨0, ew, Nat.zero_le _, rfl, HM0⟩
      case round =>
        clear HM0
        obtain ⟨i, es', hin, rfl, HM⟩ := hrel
        by_cases hlt : i < n
        · have hlt2 : (i : Int) < (n : Int) := by omega
          go_upto_if 51 with (fail)
          obtain ⟨fv, hfv⟩ : ∃ x, x = clF vs i := ⟨_, rfl⟩
          go_cut [13] from 42 to 67 (fun a ww => a = .int .i64 fv ∧ ww = wr)
          case first =>
            by_cases hlv : i < L'
            · have hlv2 : (i : Int) < (L' : Int) := by omega
              obtain ⟨ga, oa, x, rfl, _, hx, hcx⟩ := Vals.at_ (HVK.out wr (HL5.out.trans (HM.out.bel.mono HL5.out.size))) (i := i) (by rw [is_len]; have := HLV.out; omega)
              have hx2 : x = .int .i64 (vs.getD i 0) := by
                rw [is_cell (by have := HLV.out; omega)] at hx
                injection hx with hx
                exact hx.symm
              rw [hx2] at hcx
              obtain ⟨k, hk, hke⟩ := and1023_ex (vs.getD i 0)
              have hfe : fv = (k : Int) - 1 := by rw [hfv]; unfold clF; rw [if_pos (by have := HLV.out; omega), hke]
              have wk : IntKind.i64.wrap ((k : Int) - 1) = fv := by rw [wrapI (by omega) (by omega)]; exact hfe.symm
              generalize vs.getD i 0 = z at *
              have hd : decide ((i : Int) < (L' : Int)) = true := by simpa using hlv
              have hdN : decide (i < L') = true := by simpa using hlv
              clear hfe hfv hx hx2
              first | rw [hd] | rw [hdN]
              go_wp2_with (fail)
              go_meet
              case rel => exact ⟨rfl, rfl⟩
            · have hd : decide ((i : Int) < (L' : Int)) = false := by simpa using hlv
              have hdN : decide (i < L') = false := by simpa using hlv
              have hfe : fv = -1 := by rw [hfv]; unfold clF; rw [if_neg (by have := HLV.out; omega)]
              have HFE := Lib.hid hfe
              clear hfv hfe
              first | rw [hd] | rw [hdN]
              go_wp2_with (fail)
              go_meet
              case rel => exact ⟨by rw [HFE.out], rfl⟩
          case rest =>
            obtain ⟨rfl, hww⟩ := hcut
            subst hww
            obtain ⟨e, be, ce, he, e1, hl, hlm, hcc, hfz, hol, hgl⟩ := HM.out.row HG.out hlt
            have HFV := Lib.hid hfv
            have HE := Lib.hid he
            have HE1 := Lib.hid e1
            have HLE := Lib.hid hl
            have HLM := Lib.hid hlm
            have hown : (wc.alloc (.cells #[.int .i64 fv] 3)).ownsRow w5.heap.size 3 1 (.slice (some ⟨be, 0, none⟩) m ce) m (is e.2) := by
              have := hol
              unfold OwnLs at this
              rw [hlm] at this
              exact ownsRow_keep' this (below_new wc _)
            have hV2 : Vals (wc.alloc (.cells #[.int .i64 fv] 3)) (some ⟨wc.heap.size, 0, none⟩) (is [fv]) := (Blk.new wc 3 [.int .i64 fv]).vals0
            have HOW := Lib.hid hown
            have HV2 := Lib.hid hV2
            have hsz : w5.heap.size ≤ wc.heap.size := HM.out.bel.size
            have hml : m ≤ 64 := h3
            obtain ⟨i0, hi0, hz0, hz1, hz2⟩ := info_parts infoI
            clear hfv he e1 hl hlm hown hol hV2
            go_wp2_with (at_builtin
                         refine wpList_append_own_at _ rfl (.tmp 63) (.tmp 65) 23 rfl w5.heap.size 3 i0 (.int .i64 0) 1 8 Try.underlying23 hi0 hz0 hz1 hz2 rfl (by decide) _ _ _ rfl HOW.out ⟨wc.heap.size, 0, none⟩ 1 1 (is [fv]) rfl rfl (vals_cells HV2.out) (is_one _) ?c4 ?c5 ?c6 ?_)
            case c4 => unfold maxLen; omega
            case c5 => omega
            case c6 => simp; omega
            intro v' w9 hown9 hgr9 hne9 hat9
            have hnn9 : v' ≠ .slice none 0 0 := by simpa using hne9
            obtain ⟨es9, hM9⟩ := HM.out.next HE.out HE1.out HLE.out (by rw [← HFV.out]; simpa [is] using hown9) (by simpa [Value.ownBlock] using hgr9) (by simpa [Value.ownBlock] using hat9) HLM.out hnn9
            obtain ⟨cc9, fz9, gl9⟩ := HM.out.still HE.out HE1.out (by simpa [Value.ownBlock] using hgr9 : (wc.alloc (.cells #[.int .i64 fv] 3)).grownBy w9 (some be))
            have HM9 := Lib.hid hM9
            obtain ⟨g9, cap9, rfl, -⟩ := own_hd1 hown9 hnn9
            clear hM9 hown9 hgr9 hne9 hat9 hcc hfz HM HOW HV2 HE HE1 HLE HLM HFV hgl
            go_wp2_with (fail)
            go_roundw
            case rel => exact ⟨i + 1, es9, by omega, by go_num, HM9⟩
            case measure => simp [intOf]; omega
        · obtain rfl : i = n := by omega
          obtain ⟨r, hr, ht1, ht2, ht3⟩ := range_ex s0 h1 (by omega : i ≤ 1000000000)
          obtain ⟨k, hk, hu1, hu2, hu3⟩ := range_ex s1 (by omega : 1 ≤ m) (by omega : m ≤ 1000000000)
          generalize htq : s0.tmod (i : Int) = q at *
          generalize huq : s1.tmod (m : Int) = p at *
          have w1' : IntKind.i64.wrap (q + (i : Int)) = q + (i : Int) := wrapI (by omega) (by omega)
          have w2' : IntKind.i64.wrap (p + (m : Int)) = p + (m : Int) := wrapI (by omega) (by omega)
          have hz : ¬ (i : Int) = 0 := by omega
          have hz2 : ¬ i = 0 := by omega
          have hz3 : ¬ (m : Int) = 0 := by omega
          have hz4 : ¬ m = 0 := by omega
          have hrI : (r : Int) < (i : Int) := by omega
          have hkI : (k : Int) < (m : Int) := by omega
          have hr0 : (0 : Int) ≤ (r : Int) := by omega
          have hk0 : (0 : Int) ≤ (k : Int) := by omega
          have hi0' : (0 : Int) < (i : Int) := by omega
          have h0i : 0 < i := by omega
          obtain ⟨g', off', A0, c0, eA, hg0, hc0, _⟩ := HG.out.at_ HT5.out.tab (i := 0) (by omega)
          injection eA with eA
          injection eA with e1 e2
          subst e1 e2
          have y7 : wr.cell? ⟨g, 0, none⟩ = some (.slice A0 m c0) := (HM.out.bel.cell (p := ⟨g, 0, none⟩) hg0).trans hc0
          have hbb := HB5.out.below HM.out.bel HB5.out.lt
          have y0 : wr.cell? ⟨b5, 0, none⟩ = some (.int .i64 s0) := hbb.cell 0
          have y1 : wr.cell? ⟨b5, 1, none⟩ = some (.int .i64 s1) := hbb.cell 1
          have y2 : wr.cell? ⟨b5, 2, none⟩ = some (.int .i64 s2) := hbb.cell 2
          have HMZ : ∀ z, Hid (ClM w5.heap.size Bl w5 (wr.drewN z) gw capw i m gl capl ew es' ts (clF vs) i rows gs cs (cst ts)) := fun z => Lib.hid (HM.out.drewN z)
          clear hc0 hg0 hbb
          go_upto_region 15 with (fail)
          go_cut [14, 15] from 20 (fun a b ww => a = .int .i64 (r : Int) ∧ b = .int .i64 (k : Int) ∧ Hid (ClM w5.heap.size Bl w5 ww gw capw i m gl capl ew es' ts (clF vs) i rows gs cs (cst ts)))
          case first =>
            go_quiet (fail)
            go_wp2_with (fail)
            go_meet
            case rel => exact ⟨rfl, rfl, HMZ _⟩
          case rest =>
          clear HM HMZ y7 y0 y1 y2 htq huq w1' w2' ht1 ht2 ht3 hu1 hu2 hu3
          obtain ⟨rfl, rfl, HM⟩ := hcut
          obtain ⟨W8, hW8⟩ : ∃ W, W = wc := ⟨_, rfl⟩
          subst hW8
          have hbb := HB5.out.below HM.out.bel HB5.out.lt
          have y2 : W8.cell? ⟨b5, 2, none⟩ = some (.int .i64 s2) := hbb.cell 2
          have yr : W8.cell? ⟨gl, r, none⟩ = some (.slice (some ⟨gs r, 0, none⟩) m (cs r)) := HM.out.tw.rowCell hr
          have yk : W8.cell? ⟨gs r, k, none⟩ = some (.int .i64 (cst ts r k)) := HM.out.tw.cell hr hk
          have yf : W8.frozen? ⟨gs r, k, none⟩ = false := HM.out.tw.frozen hr k
          clear hbb
          go_upto_if 103 with (fail)
          go_cut [] from 20 (fun ww => ∃ C', Hid (ClR w5.heap.size Bl w5 ww gw capw i m gl capl es' ts rows gs cs C'))
          case first =>
            by_cases hneg : cst ts r k < 0
            · have d : decide (cst ts r k < 0) = true := by simpa using hneg
              obtain ⟨x, hx, hxe⟩ := and1023_ex s2
              have HST : Hid (ClR w5.heap.size Bl w5 (W8.setCell ⟨gs r, k, none⟩ (.int .i64 (x : Int))).drew gw capw i m gl capl es' ts rows gs cs (upd (cst ts) r (upd (cst ts r) k (x : Int)))) :=
                Lib.hid (HM.out.setR HG.out hr hk hx hneg).drew
              rw [d]
              clear hneg
              go_wp2_with (fail)
              go_still_tail 9, (by kernel_rfl)
              change wpList _ _ _ _ _ W8.drew
              go_wp2_with (fail)
              go_meet
              case rel => exact ⟨_, HST⟩
            · have d : decide (cst ts r k < 0) = false := by simpa using hneg
              have HSF : Hid (ClR w5.heap.size Bl w5 W8 gw capw i m gl capl es' ts rows gs cs (cst ts)) := Lib.hid (HM.out.keepR HG.out)
              rw [d]
              clear hneg
              go_wp2_with (fail)
              go_meet
              case rel => exact ⟨_, HSF⟩
          case rest =>
            obtain ⟨C', HR⟩ := hcut
            obtain ⟨GU, hcu⟩ := HM.out.wd.good HG.out (fun r _ => clF_rng vs r)
            obtain ⟨g2, cap2, e2, hTU⟩ := HR.out.held.tab (by simp) HM.out.nn
            injection e2 with e2 e3 e4
            injection e2 with e2
            injection e2 with e2
            subst e2
            have hm33 : m ≤ 33 := by
              obtain ⟨l, hl, hlm⟩ := HG.out.row (i := 0) (by omega)
              rw [← hlm]; exact tbl_cols HSM.out hl
            have hb1 := best_le (c := capw) hTU GU h1 (by omega) (by omega) (Nat.le_succ m) HMIN.out (fun a b ha hb _ => hcu a b ha hb)
            have HB1 := Lib.hid hb1
            have hbl5 := HR.out.bel
            have HLC := Lib.hid (HL5.out.trans (hbl5.mono HL5.out.size))
            have HN5 := Lib.hid (HBN.out.below hbl5 HBN.out.lt)
            have HTW := Lib.hid HR.out.tw
            have GT := tbF_good HR.out.rng
            have hct : ∀ a b, a < i → b < m → cst ts a b ≠ -1 → cst (tbF i m C') a b = cst ts a b := fun a b ha hb hne => by rw [tbF_cst ha hb]; exact HR.out.eq_ a b ha hb hne
            have HGT := Lib.hid GT
            have HCT := Lib.hid hct
            clear hb1 GU hcu hTU e3 e4 hbl5 GT hct HM HB5 HBN HL5 HT5 HR yr yk yf y2
            go_wp2_with (fail)
            refine (HB1.out).mono ?_
            rintro e w9 ⟨gt9, gu9, gv9, y9, rfl, hy9, hl9⟩
            have hl9' := HLC.out.trans (hl9.mono HLC.out.size)
            obtain ⟨O9, hO9⟩ : ∃ O, O = Obj.cells #[.slice (some ⟨gt9, 0, none⟩) i i, .slice (some ⟨gu9, 0, none⟩) i i, .slice (some ⟨gv9, 0, none⟩) (m + 1) (m + 1), .int .i64 y9] 35 := ⟨_, rfl⟩
            have hbn9 : Blk 35 (w9.alloc O9) w9.heap.size [.slice (some ⟨gt9, 0, none⟩) i i, .slice (some ⟨gu9, 0, none⟩) i i, .slice (some ⟨gv9, 0, none⟩) (m + 1) (m + 1), .int .i64 y9] := by rw [hO9]; exact Blk.new w9 35 _
            have HBN9 := Lib.hid hbn9
            have HL9 := Lib.hid (hl9'.alloc hl9'.size O9)
            have HN9 := Lib.hid ((HN5.out.keep hl9).alloc O9)
            have HTW9 := Lib.hid ((HTW.out.keep hl9).keep (below_new w9 O9))
            have HO9 := Lib.hid hO9
            clear hl9 hl9' hO9 hbn9 HTW HN5 HLC HB1
            go_upto_region 19 with (fail)
            rw [← HO9.out]
            obtain ⟨b9, h9⟩ : ∃ x, x = w9.heap.size := ⟨_, rfl⟩
            rw [← h9] at HBN9 ⊢
            clear HO9 h9
            generalize w9.alloc O9 = W9 at *
            have hb2 := best_le (c := capl) HTW9.out.tab HGT.out h1 h2 h3 (Nat.le_refl m) HMIN.out HCT.out
            have HB2 := Lib.hid hb2
            clear hb2 HTW9 HGT HCT
            go_wp2_with (fail)
            refine (HB2.out).mono ?_
            rintro e w10 ⟨gt10, gu10, gv10, y10, rfl, hy10, hl10⟩
            obtain ⟨O10, hO10⟩ : ∃ O, O = Obj.cells #[.slice (some ⟨gt10, 0, none⟩) i i, .slice (some ⟨gu10, 0, none⟩) i i, .slice (some ⟨gv10, 0, none⟩) m m, .int .i64 y10] 35 := ⟨_, rfl⟩
            have hbn10 : Blk 35 (w10.alloc O10) w10.heap.size [.slice (some ⟨gt10, 0, none⟩) i i, .slice (some ⟨gu10, 0, none⟩) i i, .slice (some ⟨gv10, 0, none⟩) m m, .int .i64 y10] := by rw [hO10]; exact Blk.new w10 35 _
            have hl10' := HL9.out.trans (hl10.mono HL9.out.size)
            have HL10 := Lib.hid (hl10'.alloc hl10'.size O10)
            have HN10 := Lib.hid ((HN9.out.keep hl10).alloc O10)
            have HM10 := Lib.hid ((HBN9.out.keep hl10).alloc O10)
            have HBN10 := Lib.hid hbn10
            have HO10 := Lib.hid hO10
            clear hl10 hl10' hO10 hbn10 HN9 HBN9 HL9 HB2
            go_upto_region 20 with (fail)
            rw [← HO10.out]
            obtain ⟨b10, h10⟩ : ∃ x, x = w10.heap.size := ⟨_, rfl⟩
            rw [← h10] at HBN10 ⊢
            clear HO10 h10
            generalize w10.alloc O10 = W10 at *
            have z8 : W10.cell? ⟨b8, 3, none⟩ = some (.int .i64 Q) := HN10.out.cell 3
            have z9 : W10.cell? ⟨b9, 3, none⟩ = some (.int .i64 y9) := HM10.out.cell 3
            have z10 : W10.cell? ⟨b10, 3, none⟩ = some (.int .i64 y10) := HBN10.out.cell 3
            rw [← HQ.out] at hy9 hy10
            have d9 : decide (y9 ≤ Q) = true := by simpa using hy9
            have d10 : decide (y10 ≤ Q) = true := by simpa using hy10
            clear HN10 HM10 HBN10
            go_wp2_with (go_at_call 26; refine (lives_any _).mono ?_; rintro e w11 ⟨rfl, hl11⟩)
            go_ret
            exact ⟨rfl, HL10.out.trans (hl11.mono HL10.out.size)⟩
end Go.Proofs.Ytncmfjncdhhjoaa
