/- few; the reference's Check. -/
import Derived.Test.YtpaemlkikkcjiaaWChk
import Derived.Test.YtpaemlkikkcjiaaWFlo
namespace Go.Proofs.Ytpaemlkikkcjiaa
open Go.RowKit

/-- The first ties that a law keeps. -/
def fewL (ts : List T3) : List T3 := if ts.length > 512 then ts.take 513 else ts.take 90
theorem fewL_len (ts : List T3) : (fewL ts).length ≤ 513 := by unfold fewL; split <;> simp <;> omega
theorem tc_take (ts : List T3) (n : Nat) : tc (ts.take n) = (tc ts).take (n * 3) := by
  induction ts generalizing n with
  | nil => simp [tc]
  | cons t ts ih =>
    cases n with
    | zero => simp [tc]
    | succ n =>
      rw [List.take_succ_cons]
      show tieC t ++ tc (ts.take n) = (tieC t ++ tc ts).take _
      have e : (n + 1) * 3 = (tieC t).length + n * 3 := by rw [tieC_len]; omega
      rw [ih, e, List.take_length_add_append]
def OwnT (w : World) (ts : List T3) (e : Ending) (w' : World) : Prop := ∃ g cap, e = .returned (.slice (some ⟨g, 0, none⟩) ts.length cap) ∧ ts.length ≤ cap ∧ w.heap.size ≤ g ∧ g < w'.heap.size ∧ TiesAt w' (some ⟨g, 0, none⟩) ts ∧ Below w.heap.size w w'
theorem app_ties (w : World) (A : Option Addr) (n : Nat) (ts : List T3) (hA : TiesAt w A ts) (hn : n ≤ ts.length) : Vals (w.alloc (.cells #[] 39)) A (tc (ts.take n)) := by
  rw [tc_take]
  exact (Vals.take hA (n * 3)).alloc _
set_option maxHeartbeats 2000000 in
set_option maxRecDepth 100000 in
theorem few_any (A : Option Addr) (c L : Nat) (ts : List T3) (w : World) (hA : TiesAt w A ts) (hL : L = ts.length) (hc : L ≤ c) (hnil : A = none → c = 0) (hcm : c ≤ maxLen) :
    Calls Try.prog 23 #[.slice A L c] w (OwnT w (fewL ts)) := by
  obtain ⟨m, hm⟩ : ∃ m, (fewL ts).length = m := ⟨_, rfl⟩
  have hA1 : Vals (w.alloc (.cells #[] 39)) A (tc (fewL ts)) := by
    unfold fewL
    split
    · rw [tc_take]; exact (Vals.take hA _).alloc _
    · rw [tc_take]; exact (Vals.take hA _).alloc _
  have hmL : m = if L > 512 then 513 else if 90 < L then 90 else L := by
    rw [← hm, hL]; unfold fewL
    split
    · rw [List.length_take]; omega
    · rw [List.length_take]; split <;> omega
  have hm5 : m ≤ 513 := by rw [← hm]; exact fewL_len ts
  have hbA := below_new w (.cells #[] 39)
  have ho := own_new w 39 3
  obtain ⟨i0, hi, hz0, hz1, hz2⟩ := info_parts infoTie
  have hpos : 0 < L → ∃ ad, A = some ad := fun h => by
    obtain ⟨g, off, e, _⟩ := hA (by rw [tc_len]; omega)
    exact ⟨_, e⟩
  have hfin : ∀ (v' : Value) (w1 : World), w1.ownsRow w.heap.size 39 3 v' m (tc (fewL ts)) → v' ≠ .slice none 0 0 → Below w.heap.size w w1 → OwnT w (fewL ts) (.returned v') w1 := by
    intro v' w1 h hv hb
    obtain ⟨g, cap, e, h1, h3, _, _, hh⟩ := own_hd h hv
    rw [← hm] at e h3
    exact ⟨g, cap, by rw [e], h3, h1, hh.lt, hh.vals, hb⟩
  have hlen : (tc (fewL ts)).length = m * 3 := by rw [tc_len, hm]
  have hone := tc_one (fewL ts)
  generalize hfe : tc (fewL ts) = cs at *
  have HA := Lib.hid hA1
  have HO := Lib.hid ho
  have HF := Lib.hid hfin
  have HLE := Lib.hid hlen
  have HON := Lib.hid hone
  clear hA hA1 hL hfin hlen hfe hm ho hone
  have hm63 : 0 + m ≤ maxLen := by unfold maxLen; omega
  have hm64 : (0 + m) * 24 ≤ 140737488355328 := by omega
  by_cases h5 : 512 < L
  · rw [if_pos h5] at hmL
    subst hmL
    obtain ⟨ad, rfl⟩ := hpos (by omega)
    have d1 : decide ((90 : Int) < (L : Int)) = true := by simp; omega
    have d1' : decide (90 < L) = true := by simp; omega
    have d2 : decide ((L : Int) ≤ 512) = false := by simp; omega
    have d2' : decide (L ≤ 512) = false := by simp; omega
    have d3 : decide ((512 : Int) < (L : Int)) = true := by simp; omega
    have d3' : decide (512 < L) = true := by simp; omega
    have s1 : (513 : Nat) ≤ c := by omega
    have s2 : ¬ c < 513 := by omega
    have s3 : ¬ (c : Int) < 513 := by omega
    go_enter Try.func23, Try.ntmps23
    go_wp2_with (at_builtin; refine wpList_append_own _ rfl _ _ 22 rfl w.heap.size 39 i0 zTie 3 24 Try.underlying22 hi hz0 hz1 hz2 rfl (by decide) _ _ _ rfl HO.out ad 513 _ cs rfl HLE.out (vals_cells HA.out) HON.out hm63 hm64 hbA.size ?_)
    intro v' w1 hown hgr hne
    have hb1 := hbA.grown hgr hbA.size (by simp [Value.ownBlock])
    have hr := HF.out v' w1 (by simpa using hown) (by simpa using hne) hb1
    have HR := Lib.hid hr
    clear hown hgr hne hr
    go_wp2
    go_ret
    exact HR.out
  · rw [if_neg h5] at hmL
    have d3 : decide ((512 : Int) < (L : Int)) = false := by simp; omega
    have d3' : decide (512 < L) = false := by simp; omega
    by_cases h9 : 90 < L
    · rw [if_pos h9] at hmL
      subst hmL
      obtain ⟨ad, rfl⟩ := hpos (by omega)
      have d1 : decide ((90 : Int) < (L : Int)) = true := by simp; omega
      have d1' : decide (90 < L) = true := by simp; omega
      have d2 : decide ((L : Int) ≤ 512) = true := by simp; omega
      have d2' : decide (L ≤ 512) = true := by simp; omega
      have s1 : (90 : Nat) ≤ c := by omega
      have s2 : ¬ c < 90 := by omega
      have s3 : ¬ (c : Int) < 90 := by omega
      go_enter Try.func23, Try.ntmps23
      go_wp2_with (at_builtin; refine wpList_append_own _ rfl _ _ 22 rfl w.heap.size 39 i0 zTie 3 24 Try.underlying22 hi hz0 hz1 hz2 rfl (by decide) _ _ _ rfl HO.out ad 90 _ cs rfl HLE.out (vals_cells HA.out) HON.out hm63 hm64 hbA.size ?_)
      intro v' w1 hown hgr hne
      have hb1 := hbA.grown hgr hbA.size (by simp [Value.ownBlock])
      have hr := HF.out v' w1 (by simpa using hown) (by simpa using hne) hb1
      have HR := Lib.hid hr
      clear hown hgr hne hr
      go_wp2
      go_ret
      exact HR.out
    · rw [if_neg h9] at hmL
      subst hmL
      have d1 : decide ((90 : Int) < (m : Int)) = false := by simp; omega
      have d1' : decide (90 < m) = false := by simp; omega
      rcases A with _ | ad
      · have h0 : m = 0 := by
          rcases Nat.eq_zero_or_pos m with h | h
          · exact h
          · obtain ⟨ad, e⟩ := hpos h; cases e
        have hc0 := hnil rfl
        subst h0
        subst hc0
        have he : cs = [] := List.eq_nil_of_length_eq_zero (by have := HLE.out; omega)
        have hr := HF.out (.slice (some ⟨w.heap.size, 0, none⟩) 0 0) _ (by rw [he]; exact HO.out) (by intro e; injection e with e; cases e) hbA
        have HR := Lib.hid hr
        clear hr he hnil hpos
        go_enter Try.func23, Try.ntmps23
        go_wp2_with (at_builtin; refine wpList_append_own_none rfl _ _ 22 rfl w.heap.size 39 i0 3 Try.underlying22 hi _ _ _ rfl HO.out rfl ?_)
        go_ret
        exact HR.out
      · clear hnil hpos
        go_enter Try.func23, Try.ntmps23
        go_wp2_with (at_builtin; refine wpList_append_own _ rfl _ _ 22 rfl w.heap.size 39 i0 zTie 3 24 Try.underlying22 hi hz0 hz1 hz2 rfl (by decide) _ _ _ rfl HO.out ad m _ cs rfl HLE.out (vals_cells HA.out) HON.out hm63 hm64 hbA.size ?_)
        intro v' w1 hown hgr hne
        have hb1 := hbA.grown hgr hbA.size (by simp [Value.ownBlock])
        have hr := HF.out v' w1 (by simpa using hown) (by simpa using hne) hb1
        have HR := Lib.hid hr
        clear hown hgr hne hr
        go_wp2
        go_ret
        exact HR.out

/-- What Check answers. -/
def ckE (n : Int) (ts : List T3) : Int := if regB n ts = true then 0 else 1
set_option maxHeartbeats 1000000 in
set_option maxRecDepth 100000 in
theorem refCheck_any (n : Int) (A : Option Addr) (c L : Nat) (ts : List T3) (w : World) (hA : TiesAt w A ts) (hL : L = ts.length) (hn : -9223372036854775808 ≤ n ∧ n ≤ 9223372036854775807) (hLs : L ≤ 1000000) :
    Calls Try.prog 25 #[.int .i64 n, .slice A L c] w fun e w' => e = .returned (.int .i64 (ckE n ts)) ∧ Below w.heap.size w w' := by
  cases h1 : inB n 1 64 with
  | false =>
    have he : ckE n ts = 1 := by unfold ckE regB; rw [h1]; rfl
    rw [he]
    clear hL he hA
    go_enter Try.func25, Try.ntmps25
    go_wp2_with (go_at_call 59; refine (in_any _ _ _ _).mono ?_; rintro e w1 ⟨rfl, rfl⟩)
    go_ret
    exact ⟨rfl, Below.refl _ _⟩
  | true =>
    have hn2 := inB_t h1
    by_cases h2 : 512 < L
    · have he : ckE n ts = 1 := by unfold ckE regB; rw [h1, ← hL]; simp; omega
      have hd : decide (512 < L) = true := by simpa using h2
      have hd2 : decide ((512 : Int) < (L : Int)) = true := by simp; omega
      rw [he]
      clear hL he hA h2
      go_enter Try.func25, Try.ntmps25
      go_wp2_with (go_at_call 59; refine (in_any _ _ _ _).mono ?_; rintro e w1 ⟨rfl, rfl⟩)
      go_ret
      exact ⟨rfl, Below.refl _ _⟩
    · have heq : regB n ts = ts.all (okB n) := by unfold regB; rw [h1, ← hL]; simp; omega
      have hd : decide (512 < L) = false := by simpa using h2
      have hd2 : decide ((512 : Int) < (L : Int)) = false := by simp; omega
      have hwn : IntKind.i64.wrap (n - 1) = n - 1 := wrapI (by omega) (by omega)
      have HE := Lib.hid heq
      have HL := Lib.hid hL
      have HA := Lib.hid hA
      clear heq hL hA h2
      go_enter Try.func25, Try.ntmps25
      go_wp2_with (go_at_call 59; refine (in_any _ _ _ _).mono ?_; rintro e w1 ⟨rfl, rfl⟩)
      clear h1 hd hd2
      go_loop [5] (fun t => ∃ i : Nat, i ≤ L ∧ t = .int .i64 (i : Int) ∧ Hid ((ts.take i).all (okB n) = true)) (fun t => L - (intOf t).toNat)
      case atStart => exact ⟨0, Nat.zero_le _, rfl, Lib.hid (by simp)⟩
      case round =>
        obtain ⟨i, hi, rfl, HAL⟩ := hrel
        by_cases hlt : i < L
        · obtain ⟨t, ht⟩ : ∃ t, ts[i]? = some t := ⟨ts[i]'(by have := HL.out; omega), List.getElem?_eq_getElem _⟩
          obtain ⟨g, off, rfl, hg, c0, c1, c2⟩ := (HA.out).at_ ht
          have HT := Lib.hid ht
          have hlt2 : (i : Int) < (L : Int) := by omega
          clear ht
          obtain ⟨ta, tb, tl⟩ := t
          simp only at c0 c1 c2
          have hbad : okB n ⟨ta, tb, tl⟩ = false → ckE n ts = 1 := fun h => by unfold ckE; rw [HE.out, all_bad HT.out h]; rfl
          have hgood : okB n ⟨ta, tb, tl⟩ = true → (ts.take (i + 1)).all (okB n) = true := fun h => all_take_succ HAL.out HT.out h
          have hok : okB n ⟨ta, tb, tl⟩ = (inB ta (-1) (n - 1) && (inB tb (-1) (n - 1) && inB tl (-1000000) 1000000)) := rfl
          have HBD := Lib.hid hbad
          have HGD := Lib.hid hgood
          have HOK := Lib.hid hok
          clear hbad hgood hok
          cases f1 : inB ta (-1) (n - 1) with
          | false =>
            have he : ckE n ts = 1 := HBD.out (by rw [HOK.out, f1]; rfl)
            have HE2 := Lib.hid he
            clear he
            go_wp2_with (go_at_call 59; refine (in_any _ _ _ _).mono ?_; rintro e w1 ⟨rfl, rfl⟩)
            go_ret
            exact ⟨by rw [HE2.out]; rfl, Below.refl _ _⟩
          | true =>
            cases f2 : inB tb (-1) (n - 1) with
            | false =>
              have he : ckE n ts = 1 := HBD.out (by rw [HOK.out, f1, f2]; rfl)
              have HE2 := Lib.hid he
              clear he
              go_wp2_with (go_at_call 59; refine (in_any _ _ _ _).mono ?_; rintro e w1 ⟨rfl, rfl⟩)
              go_ret
              exact ⟨by rw [HE2.out]; rfl, Below.refl _ _⟩
            | true =>
              cases f3 : inB tl (-1000000) 1000000 with
              | false =>
                have he : ckE n ts = 1 := HBD.out (by rw [HOK.out, f1, f2, f3]; rfl)
                have HE2 := Lib.hid he
                clear he
                go_wp2_with (go_at_call 59; refine (in_any _ _ _ _).mono ?_; rintro e w1 ⟨rfl, rfl⟩)
                go_ret
                exact ⟨by rw [HE2.out]; rfl, Below.refl _ _⟩
              | true =>
                have HN := Lib.hid (HGD.out (by rw [HOK.out, f1, f2, f3]; rfl))
                go_wp2_with (go_at_call 59; refine (in_any _ _ _ _).mono ?_; rintro e w1 ⟨rfl, rfl⟩)
                go_round
                case rel => exact ⟨i + 1, by omega, by go_num, HN⟩
                case measure => simp [intOf]; omega
        · obtain rfl : i = L := by omega
          have he : ckE n ts = 0 := by
            have h3 := HAL.out
            rw [HL.out, List.take_length] at h3
            unfold ckE
            rw [HE.out, h3]; rfl
          have HE2 := Lib.hid he
          clear he
          go_wp2
          go_ret
          exact ⟨by rw [HE2.out]; rfl, Below.refl _ _⟩
end Go.Proofs.Ytpaemlkikkcjiaa
