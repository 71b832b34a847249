/- PanelBounds. -/
import Derived.Test.YtkfjlgjncaddpaaPn
import Derived.Test.YtkfjlgjncaddpaaWBn4
import Derived.Test.YtkfjlgjncaddpaaWRck
import Derived.Deep.Cut
import Derived.Deep.CutRange
import Derived.Deep.RegionHeld3
namespace Go.Proofs.Ytkfjlgjncaddpaa
open Go.RowKit

theorem cut20_or (x : Int) : cut20 x ≤ 20 ∨ 64 < cut20 x := by unfold cut20; split <;> omega
theorem own_empI (W : World) (B : Nat) (hB : B ≤ W.heap.size) : (W.alloc (.cells #[] 3)).ownsRow B 3 1 (.slice (some ⟨W.heap.size, 0, none⟩) 0 0) 0 [] :=
  ⟨by simp, .inr ⟨W.heap.size, 0, #[], rfl, hB, heap_alloc_new _ _, Nat.le_refl _, by unfold maxLen; omega, by simp, by simp⟩⟩
theorem is_oneI (l : List Int) : ∀ v ∈ is l, v.oneCell' = true := by
  intro v hv
  simp only [is, List.mem_map] at hv
  obtain ⟨x, _, rfl⟩ := hv
  rfl
set_option maxHeartbeats 1000000 in
set_option maxRecDepth 100000 in
theorem sheets_bad (W H K : Int) (A A' : Option Addr) (c L c' M : Nat) (ss : List Sh) (w : World) (hA : ShAt w A ss) (hL : L = ss.length) (hLs : L ≤ 1000000) (hok : okP W H K ss = false) :
    Calls Try.prog 36 #[.int .i64 W, .int .i64 H, .int .i64 K, .slice A L c, .slice A' M c'] w fun e w' => e = .returned (.tuple #[.int .i64 0, .int .i64 1]) ∧ Below w.heap.size w w' := by
  have hck := check_any W H K A c L ss w hA hL hLs
  have e1 : ckE W H K ss = 1 := by unfold ckE; rw [hok]; rfl
  rw [e1] at hck
  have HCK := Lib.hid hck
  clear hck e1 hok hA hL
  have hw : Calls Try.prog 51 #[.int .i64 W, .int .i64 H, .int .i64 K, .slice A L c, .slice A' M c'] w fun e w' => e = .returned (.int .i64 1) ∧ Below w.heap.size w w' := by
    go_enter Try.func51, Try.ntmps51
    go_wp2_with (go_at_call 19; refine (HCK.out).mono ?_; rintro e w1 ⟨rfl, hb1⟩)
    go_ret
    exact ⟨rfl, hb1⟩
  have HW := Lib.hid hw
  clear hw
  go_enter Try.func36, Try.ntmps36
  go_wp2_with (go_at_call 51; refine (HW.out).mono ?_; rintro e w1 ⟨rfl, hb1⟩)
  go_ret2
  exact ⟨rfl, hb1⟩
set_option maxHeartbeats 4000000 in
set_option maxRecDepth 100000 in
theorem bounds_law (W H K : Int) (A : Option Addr) (c L : Nat) (ss : List Sh) (A' : Option Addr) (c' M : Nat) (w0s : List Int) (w : World) (hA : ShAt w A ss) (hL : L = ss.length) (hc : L ≤ c) (hnil : A = none → c = 0) (hW : -9223372036854775808 ≤ W ∧ W ≤ 9223372036854775807) (hH : -9223372036854775808 ≤ H ∧ H ≤ 9223372036854775807) (hA' : Ints w A' w0s) (hM : M = w0s.length) (hc' : M ≤ c') (hnil' : A' = none → c' = 0) :
    Calls Try.prog 6 #[.agg #[.int .i64 W, .int .i64 H, .int .i64 K, .slice A L c], .slice A' M c'] w fun e w' => e = .returned (.bool true) ∧ Below w.heap.size w w' := by
  have hb0 : Below w.heap.size w (w.alloc (.cells #[.int .i64 W, .int .i64 H, .int .i64 K, .slice A L c] 24)) := below_new w (.cells #[.int .i64 W, .int .i64 H, .int .i64 K, .slice A L c] 24)
  have hfw := few_any W H K A c L ss (w.alloc (.cells #[.int .i64 W, .int .i64 H, .int .i64 K, .slice A L c] 24)) (hA.keep hb0) hL hc hnil hW hH
  have HFW := Lib.hid hfw
  have HB0 := Lib.hid hb0
  have HAI := Lib.hid hA'
  have HMI := Lib.hid hM
  have HNI := Lib.hid hnil'
  clear hA' hM hnil'
  clear hfw hb0 hA hL hW hH hc hnil
  go_enter Try.func6, Try.ntmps6
  go_upto_region 2 with (go_at_call 16; refine (HFW.out).mono ?_; rintro e w1 ⟨g, cap, rfl, hwg, hnc, hcm, hH, hb1⟩)
  have hpn := @pn_new w _ w1 g cap (cut20 W) (cut20 H) K ss HB0.out hwg hnc hcm hH hb1
  have hX := cut20_or W
  have hY := cut20_or H
  obtain ⟨q, hq⟩ : ∃ q, q = w1.heap.size := ⟨_, rfl⟩
  rw [← hq] at hpn ⊢
  generalize (w1.alloc (.cells #[.int .i64 (cut20 W), .int .i64 (cut20 H), .int .i64 K, .slice (some ⟨g, 0, none⟩) (fewL ss).length cap] 24)) = W1 at *
  generalize cut20 W = X at *
  generalize cut20 H = Y at *
  generalize fewL ss = zs at *
  obtain ⟨n, hn⟩ : ∃ n, n = zs.length := ⟨_, rfl⟩
  rw [← hn] at hpn ⊢
  have HP := Lib.hid hpn
  have HX := Lib.hid hX
  have HY := Lib.hid hY
  clear hX hY
  clear HFW HB0 hq hpn hH hwg hnc hcm hb1 hn
  have hn17 : n ≤ 17 := HP.out.len.2.1
  have HAI2 : Hid (Ints W1 A' w0s) := Lib.hid (HAI.out.keep HP.out.bel)
  obtain ⟨ws, hws⟩ : ∃ ws, ws = w0s.take 20 := ⟨_, rfl⟩
  obtain ⟨m, hm⟩ : ∃ m, m = ws.length := ⟨_, rfl⟩
  have hmM : m = if 20 < M then 20 else M := by rw [hm, hws, HMI.out, List.length_take]; split <;> omega
  have HAT : Hid (Ints W1 A' ws) := Lib.hid (by
    have := Vals.take HAI2.out 20
    rw [is_take] at this
    rw [hws]; exact this)
  have hpos : 0 < M → ∃ ad, A' = some ad := fun h => by
    obtain ⟨g', off, e, _⟩ := HAI.out (by rw [is_len, ← HMI.out]; exact h)
    exact ⟨_, e⟩
  have HPO := Lib.hid hpos
  have HMM := Lib.hid hmM
  have HLM := Lib.hid hm
  have hm20 : m ≤ 20 := by split at hmM <;> omega
  clear hws hm hmM hpos HAI HAI2 HMI
  obtain ⟨i0, hi0, hz0, hz1, hz2⟩ := info_parts infoInt
  obtain ⟨p0, p1, p2, p3⟩ := HP.out.cells
  go_upto_if 18 with (fail)
  go_cut [1] from 14 (fun s ww => s = .slice A' m c' ∧ ww = W1)
  case first =>
    by_cases h20 : 20 < M
    · have hmM := HMM.out
      rw [if_pos h20] at hmM
      subst hmM
      have d1 : decide ((20 : Int) < (M : Int)) = true := by simp; omega
      have d1' : decide (20 < M) = true := by simp; omega
      have s1 : (20 : Nat) ≤ c' := by omega
      have s2 : ¬ c' < 20 := by omega
      have s3 : ¬ (c' : Int) < 20 := by omega
      obtain ⟨ad, rfl⟩ := HPO.out (by omega)
      go_wp2_with (fail)
      go_meet
      case rel => exact ⟨rfl, rfl⟩
    · have hmM := HMM.out
      rw [if_neg h20] at hmM
      subst hmM
      have d1 : decide ((20 : Int) < (m : Int)) = false := by simp; omega
      have d1' : decide (20 < m) = false := by simp; omega
      go_wp2_with (fail)
      go_meet
      case rel => exact ⟨rfl, rfl⟩
  case rest =>
  obtain ⟨rfl, rfl⟩ := hcut
  go_upto_region 4 with (fail)
  have hbA := below_new wc (.cells #[] 3)
  have HO := Lib.hid (own_empI wc wc.heap.size (Nat.le_refl _))
  have HA1 := Lib.hid (HAT.out.keep hbA)
  have HBA := Lib.hid hbA
  have hlen : (is ws).length = m * 1 := by rw [is_len, HLM.out, Nat.mul_one]
  have HLE := Lib.hid hlen
  have hm63 : 0 + m ≤ maxLen := by unfold maxLen; omega
  have hm64 : (0 + m) * 8 ≤ 140737488355328 := by omega
  clear hbA hlen
  go_cut [6] from 14 (fun s ww => ∃ g6 c6, s = .slice (some ⟨g6, 0, none⟩) m c6 ∧ Ints ww (some ⟨g6, 0, none⟩) ws ∧ Below wc.heap.size wc ww)
  case first =>
    rcases A' with _ | ad
    · have h0 : m = 0 := by
        rcases Nat.eq_zero_or_pos m with h | h
        · exact h
        · have := HMM.out
          obtain ⟨ad, e⟩ := HPO.out (by split at this <;> omega)
          cases e
      have hc0 := HNI.out rfl
      subst h0
      subst hc0
      have he : ws = [] := List.eq_nil_of_length_eq_zero HLM.out.symm
      have HE := Lib.hid he
      clear he
      go_wp2_with (at_builtin; refine wpList_append_own_none rfl _ _ 34 rfl wc.heap.size 3 i0 1 Try.underlying34 hi0 _ _ _ rfl HO.out rfl ?_)
      go_meet
      case rel => exact ⟨wc.heap.size, 0, rfl, by rw [HE.out]; exact Vals.nil, HBA.out⟩
    · go_wp2_with (at_builtin; refine unhideF ?_)
      refine Lib.hid ?_
      refine wpList_append_own _ rfl _ _ 34 rfl wc.heap.size 3 i0 zInt 1 8 Try.underlying34 hi0 hz0 hz1 hz2 rfl (by decide) (.slice (some ⟨wc.heap.size, 0, none⟩) 0 0) 0 [] rfl HO.out ad m _ (is ws) rfl HLE.out (vals_cells HA1.out) (is_oneI _) hm63 hm64 HBA.out.size ?_
      intro v' w7 hown hgr hne
      have hb7 := HBA.out.grown hgr HBA.out.size (by simp [Value.ownBlock])
      have hown2 : w7.ownsRow wc.heap.size 3 1 v' m (is ws) := by simpa using hown
      have hne2 : v' ≠ .slice none 0 0 := by simpa using hne
      obtain ⟨g6, c6, rfl, h1, h2, h3, h4, h5⟩ := own_hd hown2 hne2
      have HV := Lib.hid h5.vals
      clear hown hown2 hgr hne hne2 h4 h5
      go_wp2_with (fail)
      go_meet
      case rel => exact ⟨g6, c6, rfl, HV.out, hb7⟩
  case rest =>
  obtain ⟨g6, c6, rfl, hI6, hb6⟩ := hcut
  have HP2 := Lib.hid (HP.out.keep hb6)
  have HI6 := Lib.hid hI6
  clear HP HO HA1 HBA HLE HAT HPO HMM HNI hI6 hb6 p0 p1 p2 p3 hi0 hz0 hz1 hz2
  obtain ⟨p0, p1, p2, p3⟩ := HP2.out.cells
  have hck := fun V (h : PnM w V q g n cap X Y K zs) => refCheck_any X Y K (some ⟨g, 0, none⟩) cap n zs V h.sh.vals h.len.1 (by omega)
  have hce := fun V (h : PnM w V q g n cap X Y K zs) => ceil_any X Y K (some ⟨g, 0, none⟩) cap n zs V h.sh.vals h.len.1 (by omega)
  unfold CeiPost at hce
  cases hok : okP X Y K zs with
  | false =>
    have e1 : ckE X Y K zs = 1 := by unfold ckE; rw [hok]; rfl
    rw [e1] at hck
    have HCK := Lib.hid hck
    have HCE : Hid (∀ V, PnM w V q g n cap X Y K zs → Calls Try.prog 35 #[.int .i64 X, .int .i64 Y, .int .i64 K, .slice (some ⟨g, 0, none⟩) n cap] V fun e w' => e = .returned (.tuple #[.int .i64 0, .int .i64 1]) ∧ Below V.heap.size V w') := Lib.hid fun V h => (hce V h).mono fun e w' ⟨hb, h1⟩ => by
      rcases h1 with ⟨_, h2⟩ | ⟨h2, _⟩
      · exact ⟨h2, hb⟩
      · rw [hok] at h2; cases h2
    have HSH := Lib.hid (fun V (h : PnM w V q g n cap X Y K zs) => sheets_bad X Y K (some ⟨g, 0, none⟩) (some ⟨g6, 0, none⟩) cap n c6 m zs V h.sh.vals h.len.1 (by omega) hok)
    clear hck hce hok e1
    go_upto_region 6 with (go_at_call 35; refine (HCE.out _ HP2.out).mono ?_; rintro e w3 ⟨rfl, hb3⟩)
    have HP3 := Lib.hid (HP2.out.keep hb3)
    clear p0 p1 p2 p3 hb3 HP2
    obtain ⟨p0, p1, p2, p3⟩ := HP3.out.cells
    go_upto_region 7 with (go_at_call 36; (with_reducible refine (HSH.out _ HP3.out).mono ?_); rintro e w4 ⟨rfl, hb4⟩)
    have HP4 := Lib.hid (HP3.out.keep hb4)
    clear p0 p1 p2 p3 hb4 HP3
    obtain ⟨p0, p1, p2, p3⟩ := HP4.out.cells
    go_wp2_with (first | (go_at_call 17; refine (HCK.out _ HP4.out).mono ?_; rintro e w5 ⟨rfl, hb5⟩) | (go_at_call 20; refine (lives_any _).mono ?_; rintro e w6 ⟨rfl, hb6⟩))
    go_ret
    exact ⟨rfl, below2 (below2 HP4.out.bel hb5) hb6⟩
  | true =>
    have e1 : ckE X Y K zs = 0 := by unfold ckE; rw [hok]; rfl
    obtain ⟨i, j, k, rfl, rfl, rfl, hi1, hi, hj1, hj, hk, hlen, hoks⟩ := okP_ok hok
    rw [e1] at hck
    have HCK := Lib.hid hck
    have HCE : Hid (∀ V, PnM w V q g n cap i j k zs → Calls Try.prog 35 #[.int .i64 (i : Int), .int .i64 (j : Int), .int .i64 (k : Int), .slice (some ⟨g, 0, none⟩) n cap] V fun e w' => e = .returned (.tuple #[.int .i64 (ceilF i j zs), .int .i64 0]) ∧ Below V.heap.size V w') := Lib.hid fun V h => (hce V h).mono fun e w' ⟨hb, h1⟩ => by
      rcases h1 with ⟨h2, _⟩ | ⟨_, h2⟩
      · rw [hok] at h2; cases h2
      · exact ⟨h2, hb⟩
    have HSH := Lib.hid (fun V (h : PnM w V q g n cap i j k zs) (h' : Ints V (some ⟨g6, 0, none⟩) ws) => sheets_any i j k (some ⟨g, 0, none⟩) (some ⟨g6, 0, none⟩) cap n c6 m zs ws V h.sh.vals h.len.1 h' HLM.out hok (by omega))
    have HRS := Lib.hid (fun V (h : PnM w V q g n cap i j k zs) (h' : Ints V (some ⟨g6, 0, none⟩) ws) => refSheets_any i j k (some ⟨g, 0, none⟩) (some ⟨g6, 0, none⟩) cap n c6 m zs ws V h.sh.vals h.len.1 h' HLM.out hok (by omega))
    have HRC := Lib.hid (fun V (h : PnM w V q g n cap i j k zs) => refCeil_any i j (some ⟨g, 0, none⟩) cap n zs V h.sh.vals h.len.1 hi1 hi hj1 hj hoks (by omega))
    generalize ceilF i j zs = cv at *
    generalize sheetN i j zs ws = sn at *
    generalize sheetE i j zs ws = se at *
    clear hck hce hok e1 hlen hoks
    go_upto_region 6 with (go_at_call 35; refine (HCE.out _ HP2.out).mono ?_; rintro e w3 ⟨rfl, hb3⟩)
    have HP3 := Lib.hid (HP2.out.keep hb3)
    have HI3 := Lib.hid (HI6.out.keep hb3)
    clear p0 p1 p2 p3 hb3 HP2 HI6 HCE
    obtain ⟨p0, p1, p2, p3⟩ := HP3.out.cells
    go_upto_region 7 with (go_at_call 36; (with_reducible refine (HSH.out _ HP3.out HI3.out).mono ?_); rintro e w4 ⟨rfl, hb4⟩)
    have HP4 := Lib.hid (HP3.out.keep hb4)
    have HI4 := Lib.hid (HI3.out.keep hb4)
    clear p0 p1 p2 p3 hb4 HP3 HI3 HSH
    obtain ⟨p0, p1, p2, p3⟩ := HP4.out.cells
    go_upto_region 10 with (go_at_call 17; (with_reducible refine (HCK.out _ HP4.out).mono ?_); rintro e w5 ⟨rfl, hb5⟩)
    have HP5 := Lib.hid (HP4.out.keep hb5)
    have HI5 := Lib.hid (HI4.out.keep hb5)
    clear p0 p1 p2 p3 hb5 HP4 HI4 HCK
    obtain ⟨p0, p1, p2, p3⟩ := HP5.out.cells
    go_upto_region 11 with (go_at_call 37; (with_reducible refine (HRS.out _ HP5.out HI5.out).mono ?_); rintro e w6 ⟨rfl, hb6⟩)
    have HP6 := Lib.hid (HP5.out.keep hb6)
    clear p0 p1 p2 p3 hb6 HP5 HI5 HRS
    obtain ⟨p0, p1, p2, p3⟩ := HP6.out.cells
    go_wp2_with (first | (go_at_call 38; (with_reducible refine (HRC.out _ HP6.out).mono ?_); rintro e w7 ⟨rfl, hb7⟩) | (go_at_call 20; refine (lives_any _).mono ?_; rintro e w8 ⟨rfl, hb8⟩))
    go_ret
    exact ⟨rfl, below2 (below2 HP6.out.bel hb7) hb8⟩
end Go.Proofs.Ytkfjlgjncaddpaa
