/- The walk of MatchShifts. -/
import Derived.Test.YtncmfjncdhhjoaaWLiw
import Derived.Test.YtncmfjncdhhjoaaWTbl
import Derived.Test.YtncmfjncdhhjoaaWSame
import Derived.Test.YtncmfjncdhhjoaaMShi
namespace Go.Proofs.Ytncmfjncdhhjoaa
open Go.RowKit

/-- A table of the call's own, one row of which may be written. -/
structure ShM (B : Nat) (w : World) (g cap r gr cr m : Nat) (ls : List (List Int)) (l : List Int) (rows : List Value) : Prop where
  spine : Hd 23 w g cap rows
  row : Hd 3 w gr cr (is l)
  at_ : rows[r]? = some (.slice (some ⟨gr, 0, none⟩) m cr)
  len : l.length = m
  num : rows.length = ls.length
  others : ∀ (i : Nat) (x : List Int), i ≠ r → ls[i]? = some x → ∃ gi ci, rows[i]? = some (.slice (some ⟨gi, 0, none⟩) x.length ci) ∧ gi ≠ gr ∧ Hd 3 w gi ci (is x)
  far : B ≤ g ∧ B ≤ gr ∧ g ≠ gr
theorem ShM.set {B : Nat} {w : World} {g cap r gr cr m : Nat} {ls : List (List Int)} {l : List Int} {rows : List Value} (h : ShM B w g cap r gr cr m ls l rows) {k : Nat} (hk : k < m) (x : Int) :
    ShM B (w.setCell ⟨gr, k, none⟩ (.int .i64 x)) g cap r gr cr m ls (l.set k x) rows := by
  refine ⟨h.spine.setOther (a := ⟨gr, k, none⟩) h.far.2.2 _, ?_, h.at_, by rw [List.length_set]; exact h.len, h.num, fun i y hi hy => ?_, h.far⟩
  · have := h.row.set (i := k) (by rw [is_len, h.len]; exact hk) (.int .i64 x)
    have e : (is l).set k (.int .i64 x) = is (l.set k x) := by simp [is, List.map_set]
    rwa [e] at this
  · obtain ⟨gi, ci, e, hne, hH⟩ := h.others i y hi hy
    exact ⟨gi, ci, e, hne, hH.setOther (a := ⟨gr, k, none⟩) hne _⟩
theorem ShM.drewN {B : Nat} {w : World} {g cap r gr cr m : Nat} {ls : List (List Int)} {l : List Int} {rows : List Value} (h : ShM B w g cap r gr cr m ls l rows) (n : Nat) : ShM B (w.drewN n) g cap r gr cr m ls l rows :=
  ⟨h.spine.drewN n, h.row.drewN n, h.at_, h.len, h.num, fun i x hi hx => by obtain ⟨gi, ci, e, hne, hH⟩ := h.others i x hi hx; exact ⟨gi, ci, e, hne, hH.drewN n⟩, h.far⟩
theorem ShM.drew {B : Nat} {w : World} {g cap r gr cr m : Nat} {ls : List (List Int)} {l : List Int} {rows : List Value} (h : ShM B w g cap r gr cr m ls l rows) : ShM B w.drew g cap r gr cr m ls l rows :=
  ⟨h.spine.drew, h.row.drew, h.at_, h.len, h.num, fun i x hi hx => by obtain ⟨gi, ci, e, hne, hH⟩ := h.others i x hi hx; exact ⟨gi, ci, e, hne, hH.drew⟩, h.far⟩
theorem ShM.tab {B : Nat} {w : World} {g cap r gr cr m : Nat} {ls : List (List Int)} {l : List Int} {rows : List Value} (h : ShM B w g cap r gr cr m ls l rows) :
    Tab w.heap.size w (some ⟨g, 0, none⟩) (ls.set r l) := by
  refine ⟨rows, by rw [List.length_set]; exact h.num, VB.of_vals h.spine.vals, fun i x hx => ?_⟩
  rw [List.getElem?_set] at hx
  by_cases e : r = i
  · subst e
    rw [if_pos rfl] at hx
    split at hx
    · injection hx with hx
      subst hx
      exact ⟨_, cr, by rw [h.len]; exact h.at_, VB.of_vals h.row.vals⟩
    · cases hx
  · rw [if_neg e] at hx
    obtain ⟨gi, ci, e, _, hH⟩ := h.others i x (fun h' => e h'.symm) hx
    exact ⟨_, ci, e, VB.of_vals hH.vals⟩
theorem good_eq2 {n m n' m' : Nat} {ls : List (List Int)} (h : Good n m ls) (g : Good n' m' ls) (h1 : 1 ≤ n) : n = n' ∧ m = m' := by
  refine ⟨h.rows.symm.trans g.rows, ?_⟩
  obtain ⟨l, hl, hm⟩ := h.row (i := 0) (by omega)
  exact hm.symm.trans (g.cols 0 l hl)
theorem own_row {B : Nat} {w : World} {e : Value × List Int} (h : OwnLs B w e.1 e.2) (hv : e.1 ≠ .slice none 0 0) :
    ∃ g cap, e.1 = .slice (some ⟨g, 0, none⟩) e.2.length cap ∧ B ≤ g ∧ Hd 3 w g cap (is e.2) := by
  obtain ⟨g, cap, e1, h1, _, h3⟩ := Hd.of_owns h hv
  rw [is_len] at e1
  exact ⟨g, cap, e1, h1, h3⟩
theorem shM_of {B : Nat} {w : World} {v : Value} {es : List (Value × List Int)} (h : Held B w v es) (hv : v ≠ .slice none 0 0) (hn : ∀ x, x ∈ es → x.1 ≠ .slice none 0 0) {r : Nat} {l : List Int} {ls : List (List Int)} (he : es.map (·.2) = ls) (hl : ls[r]? = some l) :
    ∃ g cap gr cr rows, v = .slice (some ⟨g, 0, none⟩) ls.length cap ∧ ShM B w g cap r gr cr l.length ls l rows := by
  subst he
  obtain ⟨g, cap, e1, hg, _, hH⟩ := Hd.of_owns h.spine hv
  rw [List.length_map] at e1
  rw [List.getElem?_map] at hl
  obtain ⟨x, hx, rfl⟩ := Option.map_eq_some_iff.1 hl
  have hm := List.mem_of_getElem? hx
  obtain ⟨gr, cr, e2, h2, h3⟩ := own_row (h.each x hm) (hn x hm)
  refine ⟨g, cap, gr, cr, es.map (·.1), by rw [List.length_map]; exact e1, hH, h3, by rw [List.getElem?_map, hx, Option.map_some, e2], rfl, by simp, fun i y hi hy => ?_, hg, h2, fun e => ?_⟩
  · rw [List.getElem?_map] at hy
    obtain ⟨z, hz, rfl⟩ := Option.map_eq_some_iff.1 hy
    have hmz := List.mem_of_getElem? hz
    obtain ⟨gi, ci, e3, h4, h5⟩ := own_row (h.each z hmz) (hn z hmz)
    refine ⟨gi, ci, by rw [List.getElem?_map, hz, Option.map_some, e3], fun e => hi ?_, h5⟩
    subst e
    exact h.apart i r z x gi hz hx (by rw [e3]; rfl) (by rw [e2]; rfl)
  · subst e
    exact h.off x hm g (by rw [e2]; rfl) (by rw [e1]; rfl)

theorem Held.tabIn {B : Nat} {w : World} {v : Value} {es : List (Value × List Int)} (h : Held B w v es) (hv : v ≠ .slice none 0 0) (hn : ∀ x, x ∈ es → x.1 ≠ .slice none 0 0) :
    ∃ g cap, v = .slice (some ⟨g, 0, none⟩) es.length cap ∧ TabIn w (some ⟨g, 0, none⟩) (es.map (·.2)) := by
  obtain ⟨g, cap, e1, hg, _, hH⟩ := Hd.of_owns h.spine hv
  rw [List.length_map] at e1
  refine ⟨g, cap, e1, es.map (·.1), by simp, hH.vals, fun i l hl => ?_⟩
  rw [List.getElem?_map] at hl
  obtain ⟨x, hx, rfl⟩ := Option.map_eq_some_iff.1 hl
  have hm := List.mem_of_getElem? hx
  obtain ⟨gr, cr, e2, h2, h3⟩ := own_row (h.each x hm) (hn x hm)
  refine ⟨some ⟨gr, 0, none⟩, cr, by rw [List.getElem?_map, hx, Option.map_some, e2], by have := h3.cap_le; rw [is_len] at this; exact this, (fun e => nomatch e), h3.vals⟩
theorem tblL_same (ls : List (List Int)) (R C : Nat) : tblL (tblL ls R C) R C = tblL ls R C := by
  unfold tblL
  apply List.ext_getElem?
  intro i
  simp only [List.getElem?_map, List.getElem?_take]
  split
  · cases ls[i]? with
    | none => rfl
    | some l => simp [List.take_take]
  · rfl
theorem and1023_ex (x : Int) : ∃ n : Nat, n ≤ 1023 ∧ bits .and .i64 x 1023 = (n : Int) := by
  have h : (BitVec.ofInt 64 x &&& BitVec.ofInt 64 1023).toNat < 1024 := by
    rw [BitVec.toNat_and, show (BitVec.ofInt 64 1023).toNat = 1023 from rfl]
    exact Nat.lt_of_le_of_lt Nat.and_le_right (by omega)
  refine ⟨_, Nat.le_of_lt_succ h, ?_⟩
  show IntKind.i64.wrap ((BitVec.ofInt 64 x &&& BitVec.ofInt 64 1023).toNat : Int) = _
  generalize (BitVec.ofInt 64 x &&& BitVec.ofInt 64 1023).toNat = n at *
  rw [IntKind.wrap_i64]
  omega
/-- A number brought into a range, as the laws do it. -/
theorem range_ex (v : Int) {n : Nat} (h0 : 1 ≤ n) (hm : n ≤ 1000000000) : ∃ r : Nat, r < n ∧ -(n : Int) < v.tmod (n : Int) ∧ v.tmod (n : Int) < (n : Int) ∧ (v.tmod (n : Int) + (n : Int)).tmod (n : Int) = (r : Int) := by
  have h2 := Int.emod_nonneg v (show (n : Int) ≠ 0 by omega)
  have h3 := Int.emod_lt_of_pos v (show (0 : Int) < n by omega)
  have h1 : v.tmod (n : Int) = if 0 ≤ v ∨ (n : Int) ∣ v then v % (n : Int) else v % (n : Int) - (n : Int) := by
    rw [Int.tmod_eq_emod]
    split
    · simp
    · rw [Int.natAbs_of_nonneg (by omega)]
  have hb : -(n : Int) < v.tmod (n : Int) ∧ v.tmod (n : Int) < (n : Int) := by
    rw [h1]
    split <;> omega
  refine ⟨(v % (n : Int)).toNat, by omega, hb.1, hb.2, ?_⟩
  rw [Int.toNat_of_nonneg h2, Int.tmod_eq_emod_of_nonneg (by omega), h1]
  split
  · rw [Int.add_emod_right, Int.emod_emod_of_dvd _ (Int.dvd_refl (n : Int))]
  · rw [Int.sub_add_cancel, Int.emod_emod_of_dvd _ (Int.dvd_refl (n : Int))]

set_option maxHeartbeats 8000000 in
set_option maxRecDepth 100000 in
theorem matchShifts_any (A : Option Addr) (c L : Nat) (row by' : Int) (ls : List (List Int)) (w : World) (T : TabIn w A ls) (hL : L = ls.length) :
    Calls Try.prog 18 #[.slice A L c, .int .i64 row, .int .i64 by'] w fun e w' => e = .returned (.bool true) ∧ Below w.heap.size w w' := by
  have htb := fun W (h : Below w.heap.size w W) => table_any A c L 30 33 ls W (T.keep h) hL (by omega) (by omega)
  have HTB := Lib.hid htb
  have HSA := Lib.hid (tblL_same ls 30 33)
  generalize tblL ls 30 33 = ts at *
  clear htb T hL
  go_enter Try.func18, Try.ntmps18
  go_wp2_with (first
    | (go_at_call 21; refine (HTB.out _ (Below.refl _ _)).mono ?_; rintro e w1 ⟨v, es, rfl, hH, hv, hN, hE, hl1⟩
       obtain ⟨g, cap, he, hT⟩ := hH.tab hv hN
       obtain ⟨g', cap', he', hTI⟩ := hH.tabIn hv hN
       rw [he] at he'
       injection he' with e1 e2 e3
       subst e3
       injection e1 with e1
       injection e1 with e1
       subst e1
       rw [hE] at hT hTI
       have HTI := Lib.hid hTI
       rw [show es.length = ts.length by rw [← hE, List.length_map]] at he
       subst he
       have HTT := Lib.hid hT
       clear hH hv hN hE hT hTI e2))
  have hck := refCheck_any w1.heap.size (some ⟨g, 0, none⟩) cap ts.length ts w1 HTT.out rfl
  cases hchk : chkT ts with
  | false =>
    have hce : ckE ts = 1 := by unfold ckE; rw [hchk]; rfl
    rw [hce] at hck
    have HCK := Lib.hid hck
    clear hck hce hchk
    refine (HCK.out).mono ?_
    rintro e w3 ⟨rfl, hl3⟩
    have hl13 := hl1.trans (hl3.mono hl1.size)
    go_wp2_with (go_at_call 26; refine (lives_any _).mono ?_; rintro e w4 ⟨rfl, hl4⟩)
    go_ret
    exact ⟨rfl, hl13.trans (hl4.mono hl13.size)⟩
  | true =>
    have hce : ckE ts = 0 := by unfold ckE; rw [hchk]; rfl
    rw [hce] at hck
    obtain ⟨n, m, hn, hm, h1, h2, h3, G⟩ := chkT_good hchk
    have HCK := Lib.hid hck
    have HG := Lib.hid G
    have HCH := Lib.hid hchk
    have HNN := Lib.hid hn
    clear hck hce hchk hm G hn
    refine (HCK.out).mono ?_
    rintro e w3 ⟨rfl, hl3⟩
    have hl13 := hl1.trans (hl3.mono hl1.size)
    have HTT3 := Lib.hid ((HTT.out.keep hl3).mono hl3.size)
    rw [HNN.out]
    clear HCK HTT
    obtain ⟨r, hr, ht1, ht2, ht3⟩ := range_ex row h1 (by omega : n ≤ 1000000000)
    obtain ⟨b, hb, hab⟩ := and1023_ex by'
    generalize htq : row.tmod (n : Int) = q at *
    have HTQ := Lib.hid htq
    have w1' : IntKind.i64.wrap (q + (n : Int)) = q + (n : Int) := wrapI (by omega) (by omega)
    have hz : ¬ (n : Int) = 0 := by omega
    have hz2 : ¬ n = 0 := by omega
    go_wp2_with (fail)
    have htb2 := table_any (some ⟨g, 0, none⟩) cap n 30 33 ts w3 (HTI.out.keep hl3) HNN.out.symm (by omega) (by omega)
    rw [HSA.out] at htb2
    refine htb2.mono ?_
    rintro e w4 ⟨v2, es2, rfl, hH, hv, hN, hE, hl4⟩
    obtain ⟨l0, hl0, hm0⟩ := HG.out.row hr
    obtain ⟨g2, cap2, gr, cr, rows, e2, hS⟩ := shM_of hH hv hN hE hl0
    rw [HNN.out] at e2
    subst e2
    rw [hm0] at hS
    have HS := Lib.hid hS
    have HL0 := Lib.hid hl0
    have HM0 := Lib.hid hm0
    have hl14 := hl13.trans (hl4.mono hl13.size)
    have HTT4 := Lib.hid (HTT3.out.keep hl4)
    clear htb2 hH hv hN hE hS hl0 hm0 htq ht1 ht2
    have hbw : IntKind.i64.wrap (b : Int) = (b : Int) := wrapI (by omega) (by omega)
    have hlt : (r : Int) < (n : Int) := by omega
    go_wp2_with (fail)
    go_loopw [9] (fun t wr => ∃ k : Nat, k ≤ m ∧ t = .int .i64 (k : Int) ∧ Hid (ShM w3.heap.size wr g2 cap2 r gr cr m ts (shL (b : Int) k l0) rows) ∧ Below w3.heap.size w3 wr ∧ Hid (∀ j, j < k → cst ts r j ≤ 999998976)) (fun t _ => m - (intOf t).toNat)
    case atStart => exact ⟨0, Nat.zero_le _, rfl, Lib.hid (by rw [shL_zero]; exact HS.out), hl4, Lib.hid (fun j hj => by omega)⟩
    case round =>
      clear hl4 hl14 HTT4 HS
      obtain ⟨k, hk, rfl, HS, hl4, HB⟩ := hrel
      have cs := HS.out.spine.cell HS.out.at_
      have hl14 := hl13.trans (hl4.mono hl13.size)
      by_cases hlk : k < m
      · have hlk2 : (k : Int) < (m : Int) := by omega
        obtain ⟨x, hx⟩ : ∃ x, l0[k]? = some x := ⟨l0[k]'(by have := HM0.out; omega), List.getElem?_eq_getElem _⟩
        have hcx : cst ts r k = x := by rw [cst_of HL0.out, List.getD_eq_getElem?_getD, hx]; rfl
        have hrng := HG.out.rng r k hr hlk
        rw [hcx] at hrng
        have cx : wr.cell? ⟨gr, k, none⟩ = some (.int .i64 x) := HS.out.row.cell (by
          have := shL_at (by' := (b : Int)) hx
          simp [is, this])
        have hfz := HS.out.row.frozen k
        have HX := Lib.hid hx
        have HCX := Lib.hid hcx
        clear hx hcx
        by_cases hbig : 999998976 < x
        · have hbb : decide (x > 999998976) = true := by simpa using hbig
          have hbc : decide (999998976 < x) = true := by simpa using hbig
          clear hbig
          go_wp2_with (go_at_call 26; refine (lives_any _).mono ?_; rintro e w6 ⟨rfl, hl6⟩)
          go_ret
          exact ⟨rfl, hl14.trans (hl6.mono hl14.size)⟩
        · have hbb : decide (x > 999998976) = false := by simpa using hbig
          have hbc : decide (999998976 < x) = false := by simpa using hbig
          have HB2 : Hid (∀ j, j < k + 1 → cst ts r j ≤ 999998976) := Lib.hid (fun j hj => by
            by_cases e : j = k
            · subst e; rw [HCX.out]; omega
            · exact HB.out j (by omega))
          by_cases h0 : 0 ≤ x
          · have h0b : decide (x ≥ 0) = true := by simpa using h0
            have h0c : decide (0 ≤ x) = true := by simpa using h0
            have hwx : IntKind.i64.wrap (x + (b : Int)) = x + (b : Int) := wrapI (by omega) (by omega)
            have hS2 : ShM w3.heap.size (wr.setCell ⟨gr, k, none⟩ (.int .i64 (x + (b : Int)))) g2 cap2 r gr cr m ts (shL (b : Int) (k + 1) l0) rows := by
              have h := HS.out.set hlk (x + (b : Int))
              have e : shF (b : Int) x = x + (b : Int) := by unfold shF; rw [if_pos h0]
              rw [← e, shL_set HX.out] at h
              rw [← e]
              exact h
            have HS2 := Lib.hid hS2
            have hlN : Below w3.heap.size w3 (wr.setCell ⟨gr, k, none⟩ (.int .i64 (x + (b : Int)))) := below_set hl4 HS.out.far.2.1 _
            clear hS2 hbig h0
            go_wp2_with (fail)
            go_roundw
            case rel => exact ⟨k + 1, by omega, by go_num, HS2, hlN, HB2⟩
            case measure => simp [intOf]; omega
          · have h0b : decide (x ≥ 0) = false := by simpa using h0
            have h0c : decide (0 ≤ x) = false := by simpa using h0
            have HS2 : Hid (ShM w3.heap.size wr g2 cap2 r gr cr m ts (shL (b : Int) (k + 1) l0) rows) := Lib.hid (by rw [shL_skip HX.out (by omega)]; exact HS.out)
            clear hbig h0
            go_wp2_with (fail)
            go_roundw
            case rel => exact ⟨k + 1, by omega, by go_num, HS2, hl4, HB2⟩
            case measure => simp [intOf]; omega
      · obtain rfl : k = m := by omega
        have GT' : Good n k (shT (b : Int) r ts) := shT_good HG.out (by omega) (fun j hj => by have := HB.out j hj; omega)
        have hck' := chkT_of h1 h2 h3 GT'
        have hT' : Tab wr.heap.size wr (some ⟨g2, 0, none⟩) (shT (b : Int) r ts) := by
          have h := HS.out.tab
          rw [shL_full (by rw [HM0.out]; exact Nat.le_refl _)] at h
          have e : ts.getD r [] = l0 := by rw [List.getD_eq_getElem?_getD, HL0.out]; rfl
          unfold shT
          rw [e]; exact h
        obtain ⟨ha1, ha2, ha3⟩ := lexmin_sh (m := k) (c := cst ts) (c' := cst (shT (b : Int) r ts)) (by' := (b : Int)) hr (fun i j hi hj => ⟨(HG.out.rng i j hi hj).1, shT_cst HG.out hi hj⟩) (by omega)
        have hn' : n = (shT (b : Int) r ts).length := by rw [shT_len, HNN.out]
        have HGT := Lib.hid GT'
        have HCH' := Lib.hid hck'
        have HT' := Lib.hid hT'
        have HA1 := Lib.hid ha1
        have HA2 := Lib.hid ha2
        have HA3 := Lib.hid ha3
        have HN' := Lib.hid hn'
        have HTT5 : Hid (Tab wr.heap.size wr (some ⟨g, 0, none⟩) ts) := Lib.hid ((HTT3.out.keep hl4).mono hl4.size)
        clear GT' hck' hT' ha1 ha2 ha3 hn' HB HS HTT3 HTI HSA HTB
        generalize shT (b : Int) r ts = us at *
        have hbe := best_any (some ⟨g, 0, none⟩) cap n ts wr HTT5.out HNN.out.symm
        have HBE := Lib.hid hbe
        clear hbe
        go_wp2_with (fail)
        refine (HBE.out).mono ?_
        intro e w5 hpost
        clear cs
        have hl5 := hpost.1
        have hl15 := hl14.trans (hl5.mono hl14.size)
        have hbd := fun (W : World) (h : Below wr.heap.size wr W) => best_any (some ⟨g2, 0, none⟩) cap2 n us W ((HT'.out.keep h).mono h.size) HN'.out
        have HBD := Lib.hid hbd
        clear hbd HBE HTT5 HT'
        rcases hpost.2 with ⟨hf, _⟩ | ⟨n', m', _, _, hG', _, hno, rfl⟩ | ⟨n', m', gt, gu, gv, to, u, v, _, hn', BO, rfl⟩
        · rw [HCH.out] at hf; cases hf
        · obtain ⟨rfl, rfl⟩ := good_eq2 HG.out hG' h1
          have HNO := Lib.hid hno
          clear hno hG' hpost
          unfold zeroM
          go_wp2_with (fail)
          refine (HBD.out _ ((hl5).trans ((below_new w5 _).mono hl5.size))).mono ?_
          intro e w7 hp7
          have q1 := hl15.trans ((below_new w5 (.cells #[.slice none 0 0, .slice none 0 0, .slice none 0 0, .int .i64 0] 35)).mono hl15.size)
          have q2 := q1.trans (hp7.1.mono q1.size)
          have q3 := q2.trans ((below_new w7 (.cells #[.slice none 0 0, .slice none 0 0, .slice none 0 0, .int .i64 0] 35)).mono q2.size)
          rcases hp7.2 with ⟨hf, _⟩ | ⟨n', m', _, _, hG2, _, hno2, rfl⟩ | ⟨n', m', gt, gu, gv, to, u, v, _, hn', BO, rfl⟩
          · rw [HCH'.out] at hf; cases hf
          · clear hno2 hG2 hp7 HBD
            unfold zeroM
            go_wp2_with (go_at_call 26; refine (lives_any _).mono ?_; rintro e w8 ⟨rfl, hl8⟩)
            go_ret
            exact ⟨rfl, q3.trans (hl8.mono q3.size)⟩
          · obtain ⟨rfl, rfl⟩ := good_eq2 HGT.out BO.good h1
            exact absurd ((HA1.out to).1 BO.min.asg) (HNO.out to)
        · obtain ⟨rfl, rfl⟩ := good_eq2 HG.out BO.good h1
          have HBO := Lib.hid BO
          clear BO hpost hn'
          go_wp2_with (fail)
          have n1 := below_new w5 (.cells #[.slice (some ⟨gt, 0, none⟩) n n, .slice (some ⟨gu, 0, none⟩) n n, .slice (some ⟨gv, 0, none⟩) k k, .int .i64 (costN (cst ts) to n)] 35)
          refine (HBD.out _ (hl5.trans (n1.mono hl5.size))).mono ?_
          intro e w7 hp7
          have hl7 := hp7.1
          have q1 := hl15.trans (n1.mono hl15.size)
          have q2 := q1.trans (hl7.mono q1.size)
          rcases hp7.2 with ⟨hf, _⟩ | ⟨n', m', _, _, hG2, _, hno2, rfl⟩ | ⟨n', m', gt', gu', gv', to', u', v', _, hn', BO, rfl⟩
          · rw [HCH'.out] at hf; cases hf
          · obtain ⟨rfl, rfl⟩ := good_eq2 HGT.out hG2 h1
            exact absurd ((HA1.out to).2 HBO.out.min.asg) (hno2 to)
          · obtain ⟨rfl, rfl⟩ := good_eq2 HGT.out BO.good h1
            have hbnd := sumN_bound (f := fun i => cst ts i (to i)) (K := 1000000000) (n := n) (fun i hi => by
              have := HG.out.rng i (to i) hi (HBO.out.min.asg.ok i hi).1
              omega)
            obtain ⟨hu1, hu2⟩ := (HA3.out to HBO.out.min).unique BO.min
            have hu3 := HA2.out to HBO.out.min.asg
            rw [hu1] at hu3
            have r1 : Blk 35 w7 w5.heap.size [.slice (some ⟨gt, 0, none⟩) n n, .slice (some ⟨gu, 0, none⟩) n n, .slice (some ⟨gv, 0, none⟩) k k, .int .i64 (costN (cst ts) to n)] := (Blk.new w5 35 _).keep hl7
            have t1 : Blk 3 w7 gt (fl (fun i => (to i : Int)) n) := (HBO.out.res.alloc _).keep hl7
            have t2 := BO.res
            have e12 : (List.range n).map (fun i => (to i : Int)) = (List.range n).map (fun i => (to' i : Int)) := List.map_congr_left fun i hi => by rw [hu2 i (List.mem_range.1 hi)]
            have hbnd2 : -64000000000 ≤ costN (cst ts) to n ∧ costN (cst ts) to n ≤ 64000000000 := by
              unfold costN
              constructor
              · have := hbnd.1; omega
              · have := hbnd.2; omega
            clear hbnd hu1 hu2 BO hp7 hn' HBD
            generalize costN (cst ts) to n = cs at *
            rw [hu3]
            clear hu3
            have hww : IntKind.i64.wrap (cs + (b : Int)) = cs + (b : Int) := wrapI (by omega) (by omega)
            obtain ⟨O2, hO2⟩ : ∃ O, O = Obj.cells #[.slice (some ⟨gt', 0, none⟩) n n, .slice (some ⟨gu', 0, none⟩) n n, .slice (some ⟨gv', 0, none⟩) k k, .int .i64 (cs + (b : Int))] 35 := ⟨_, rfl⟩
            have n2 := below_new w7 O2
            have q3 := q2.trans (n2.mono q2.size)
            have c13 : (w7.alloc O2).cell? ⟨w5.heap.size, 3, none⟩ = some (.int .i64 cs) := (r1.alloc O2).cell 3
            have c10 : (w7.alloc O2).cell? ⟨w5.heap.size, 0, none⟩ = some (.slice (some ⟨gt, 0, none⟩) n n) := (r1.alloc O2).cell 0
            have bn : Blk 35 (w7.alloc O2) w7.heap.size [.slice (some ⟨gt', 0, none⟩) n n, .slice (some ⟨gu', 0, none⟩) n n, .slice (some ⟨gv', 0, none⟩) k k, .int .i64 (cs + (b : Int))] := by rw [hO2]; exact Blk.new w7 35 _
            have c23 : (w7.alloc O2).cell? ⟨w7.heap.size, 3, none⟩ = some (.int .i64 (cs + (b : Int))) := bn.cell 3
            have c20 : (w7.alloc O2).cell? ⟨w7.heap.size, 0, none⟩ = some (.slice (some ⟨gt', 0, none⟩) n n) := bn.cell 0
            have hsm := same_any (some ⟨gt, 0, none⟩) (some ⟨gt', 0, none⟩) n n n n ((List.range n).map (fun i => (to i : Int))) ((List.range n).map (fun i => (to' i : Int))) (w7.alloc O2)
              (by have := (Hd.of_blk (t1.alloc O2)).vals; rwa [fl_is] at this) (by have := (Hd.of_blk (t2.alloc O2)).vals; rwa [fl_is] at this) (by simp) (by simp) (by omega) (by omega)
            rw [decide_eq_true e12] at hsm
            have HSM := Lib.hid hsm
            clear hsm e12 t1 t2 r1 bn
            subst hO2
            go_wp2_with (first
              | (go_at_call 31; refine (HSM.out).mono ?_; rintro e w8 ⟨rfl, hl8⟩)
              | (go_at_call 26; refine (lives_any _).mono ?_; rintro e w9 ⟨rfl, hl9⟩))
            have q4 := q3.trans (hl8.mono q3.size)
            go_ret
            exact ⟨rfl, q4.trans (hl9.mono q4.size)⟩

end Go.Proofs.Ytncmfjncdhhjoaa
