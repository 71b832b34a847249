/- As many panels as often as a plan is cut are enough, plain. -/
import Derived.Test.YtkfjlgjncaddpaaRda
import Derived.Test.YtkfjlgjncaddpaaWBn3
import Derived.Laws.BitsLemmas
namespace Go.Proofs.Ytkfjlgjncaddpaa

theorem and_15 (n : Int) : bits .and .i64 n 15 = n % 16 := by
  have h15 : (BitVec.ofInt 64 15).toNat = 2 ^ 4 - 1 := by decide
  have key : (BitVec.ofInt 64 n &&& BitVec.ofInt 64 15).toNat = (n % ((2 ^ 64 : Nat) : Int)).toNat % 2 ^ 4 := by
    rw [BitVec.toNat_and, BitVec.toNat_ofInt, h15, Nat.and_two_pow_sub_one_eq_mod]
  show IntKind.i64.wrap ((BitVec.ofInt 64 n &&& BitVec.ofInt 64 15).toNat : Nat) = n % 16
  rw [key, IntKind.wrap_i64]
  omega
def wsL (ps : List Pc) (tm : Int) (n : Nat) : List Int := (List.range n).map fun q => cntN ps q * tm
theorem wsL_len (ps : List Pc) (tm : Int) (n : Nat) : (wsL ps tm n).length = n := by simp [wsL]
theorem wsL_at (ps : List Pc) (tm : Int) {n q : Nat} (h : q < n) : (wsL ps tm n).getD q 0 = cntN ps q * tm := by
  unfold wsL
  rw [List.getD_eq_getElem?_getD, List.getElem?_map, List.getElem?_range h]
  rfl
def someW (ps : List Pc) (tm : Int) (m : Nat) : Bool := (List.range m).any fun q => decide (0 < cntN ps q * tm)
theorem someW_succ (ps : List Pc) (tm : Int) (m : Nat) : someW ps tm (m + 1) = (someW ps tm m || decide (0 < cntN ps m * tm)) := by
  unfold someW; rw [List.range_succ, List.any_append]; simp
theorem areaW_eq (ss : List Sh) (ps : List Pc) (tm : Int) (n : Nat) : ∀ m, m ≤ n → areaW ss (wsL ps tm n) m = sq (fun q => cntN ps q * (ss.getD q sh0).w * (ss.getD q sh0).h) m * tm := by
  intro m
  induction m with
  | zero => intro _; simp [areaW, sq]
  | succ m ih =>
    intro h
    simp only [areaW, sq]
    rw [ih (by omega), wsL_at _ _ (by omega), Int.add_mul]
    congr 1
    rw [← Int.mul_assoc, Int.mul_comm ((ss.getD m sh0).w * (ss.getD m sh0).h) (cntN ps m)]
    simp only [Int.mul_assoc]
theorem cnt_mem {ps : List Pc} {q : Nat} (h : 0 < cntN ps q) : ∃ t ∈ ps, t.s = (q : Int) := by
  induction ps with
  | nil => simp [cntN, sumP] at h
  | cons t ps ih =>
    by_cases e : t.s = (q : Int)
    · exact ⟨t, List.mem_cons_self .., e⟩
    · have h2 : cntN (t :: ps) q = cntN ps q := by unfold cntN; simp only [sumP]; rw [if_neg e]; omega
      rw [h2] at h
      obtain ⟨s, hs, e2⟩ := ih h
      exact ⟨s, List.mem_cons_of_mem _ hs, e2⟩
theorem sheets_enough {k : Nat} {zs : List Sh} {i j : Nat} {l : List Cu} {ps : List Pc} (hok : okP i j k zs = true) (h : lay k zs i j l = some ps) (hl : l.length ≤ 300) {tm : Int} (h0 : 0 ≤ tm) (h15 : tm ≤ 15) :
    sheetE i j zs (wsL ps tm zs.length) = 0 ∧ sheetN i j zs (wsL ps tm zs.length) ≤ tm ∧ decide (0 < sheetN i j zs (wsL ps tm zs.length)) = someW ps tm zs.length := by
  obtain ⟨_, hpo, hpl⟩ := lay_known h
  have har := area_upper h
  have hex := area_exch hpo
  have hoks := ok_shapes hok
  obtain ⟨hi1, hi, hj1, hj⟩ := ok_sides hok
  have hcb : ∀ q, 0 ≤ cntN ps q * tm ∧ cntN ps q * tm ≤ 4500 := fun q => by
    have h1 := cntN_le ps q
    have h2 : cntN ps q * tm ≤ 300 * 15 := Int.mul_le_mul (by omega) h15 h0 (by omega)
    have h3 : 0 ≤ cntN ps q * tm := Int.mul_nonneg (by omega) h0
    omega
  have hw : wantsOk (wsL ps tm zs.length) = true := by
    unfold wantsOk wsL
    rw [List.all_map, List.all_eq_true]
    intro q _
    have := hcb q
    simp [inB, Function.comp]
    omega
  have hb : badW i j zs (wsL ps tm zs.length) zs.length = false := by
    cases hb : badW i j zs (wsL ps tm zs.length) zs.length with
    | false => rfl
    | true =>
      unfold badW at hb
      obtain ⟨r, hr, hb⟩ := List.any_eq_true.1 hb
      have hr := List.mem_range.1 hr
      rw [wsL_at _ _ hr] at hb
      simp only [Bool.and_eq_true, decide_eq_true_eq, Bool.not_eq_true'] at hb
      have hc : 0 < cntN ps r := by
        rcases Int.lt_or_le 0 (cntN ps r) with h | h
        · exact h
        · have h1 := cntN_le ps r
          have : cntN ps r = 0 := by omega
          rw [this] at hb
          simp at hb
      obtain ⟨t, ht, e⟩ := cnt_mem hc
      obtain ⟨⟨q, h1, h2, h3⟩, h4, h5⟩ := hpo t ht
      have hqr : q = r := by omega
      subst hqr
      have : fitB (zs.getD q sh0) i j = true := by
        unfold fitB
        rcases h3 with h3 | h3
        · unfold isS at h3
          simp only [Bool.and_eq_true, decide_eq_true_eq] at h3
          simp only [Bool.or_eq_true, Bool.and_eq_true, decide_eq_true_eq]
          left; omega
        · unfold isT at h3
          simp only [Bool.and_eq_true, decide_eq_true_eq] at h3
          simp only [Bool.or_eq_true, Bool.and_eq_true, decide_eq_true_eq]
          right; exact ⟨h3.1, by omega, by omega⟩
      rw [this] at hb
      cases hb.2
  have hc : (wsL ps tm zs.length).length = zs.length ∧ wantsOk (wsL ps tm zs.length) = true := ⟨wsL_len _ _ _, hw⟩
  have hN : sheetN i j zs (wsL ps tm zs.length) = (sumP aOf ps * tm + i * j - 1) / (i * j) := by
    unfold sheetN
    rw [if_pos ⟨hc.1, hc.2, hb⟩, areaW_eq _ _ _ _ _ (Nat.le_refl _), hex]
  have hij : 1 ≤ (i : Int) * j := by
    have : 1 * 1 ≤ (i : Int) * j := Int.mul_le_mul (by omega) (by omega) (by omega) (by omega)
    omega
  have hSt : 0 ≤ sumP aOf ps * tm := Int.mul_nonneg har.1 h0
  have hSu : sumP aOf ps * tm ≤ (i : Int) * j * tm := Int.mul_le_mul_of_nonneg_right har.2 h0
  refine ⟨?_, ?_, ?_⟩
  · unfold sheetE
    rw [if_pos hc, hb]
    rfl
  · rw [hN]
    have : (sumP aOf ps * tm + i * j - 1) / (i * j) < tm + 1 := by
      apply Int.ediv_lt_of_lt_mul (by omega)
      rw [Int.add_mul, Int.mul_comm tm]
      omega
    omega
  · rw [hN]
    have hsum : decide (0 < (sumP aOf ps * tm + (i : Int) * j - 1) / ((i : Int) * j)) = decide (0 < sumP aOf ps * tm) := by
      by_cases hz : 0 < sumP aOf ps * tm
      · have : 1 ≤ (sumP aOf ps * tm + (i : Int) * j - 1) / ((i : Int) * j) := Int.le_ediv_of_mul_le (by omega) (by omega)
        first | (simp [hz]; done) | (simp [hz]; omega)
      · have e : sumP aOf ps * tm = 0 := by omega
        rw [e]
        have : (0 + (i : Int) * j - 1) / ((i : Int) * j) = 0 := Int.ediv_eq_zero_of_lt (by omega) (by omega)
        rw [this]
    rw [hsum, ← hex]
    have key : ∀ m, m ≤ zs.length → (0 ≤ sq (fun q => cntN ps q * (zs.getD q sh0).w * (zs.getD q sh0).h) m * tm) ∧ decide (0 < sq (fun q => cntN ps q * (zs.getD q sh0).w * (zs.getD q sh0).h) m * tm) = someW ps tm m := by
      intro m
      induction m with
      | zero => intro _; simp [sq, someW]
      | succ m ih =>
        intro hm
        obtain ⟨i1, i2⟩ := ih (by omega)
        obtain ⟨w1, w2, w3, w4, _⟩ := hoks _ (getD_mem (by omega : m < zs.length))
        rw [someW_succ, ← i2]
        have hs : sq (fun q => cntN ps q * (zs.getD q sh0).w * (zs.getD q sh0).h) (m + 1) = sq (fun q => cntN ps q * (zs.getD q sh0).w * (zs.getD q sh0).h) m + cntN ps m * (zs.getD m sh0).w * (zs.getD m sh0).h := rfl
        have hcm := hcb m
        have e1 : cntN ps m * (zs.getD m sh0).w * (zs.getD m sh0).h * tm = (cntN ps m * tm) * ((zs.getD m sh0).w * (zs.getD m sh0).h) := by
          rw [Int.mul_assoc (cntN ps m), Int.mul_assoc (cntN ps m), Int.mul_comm _ tm, ← Int.mul_assoc]
        have e4 : sq (fun q => cntN ps q * (zs.getD q sh0).w * (zs.getD q sh0).h) (m + 1) * tm = sq (fun q => cntN ps q * (zs.getD q sh0).w * (zs.getD q sh0).h) m * tm + (cntN ps m * tm) * ((zs.getD m sh0).w * (zs.getD m sh0).h) := by rw [hs, Int.add_mul, e1]
        have e2 : 1 ≤ (zs.getD m sh0).w * (zs.getD m sh0).h := by
          have : 1 * 1 ≤ (zs.getD m sh0).w * (zs.getD m sh0).h := Int.mul_le_mul w1 w3 (by omega) (by omega)
          omega
        have e3 : cntN ps m * tm * 1 ≤ cntN ps m * tm * ((zs.getD m sh0).w * (zs.getD m sh0).h) := Int.mul_le_mul_of_nonneg_left e2 hcm.1
        generalize sq (fun q => cntN ps q * (zs.getD q sh0).w * (zs.getD q sh0).h) (m + 1) * tm = Z at *
        generalize sq (fun q => cntN ps q * (zs.getD q sh0).w * (zs.getD q sh0).h) m * tm = X at *
        refine ⟨by omega, ?_⟩
        by_cases hz : 0 < cntN ps m * tm
        · have hd : decide (0 < Z) = true := decide_eq_true (by omega)
          have hd2 : decide (0 < cntN ps m * tm) = true := decide_eq_true hz
          rw [hd, hd2, Bool.or_true]
        · have e0 : cntN ps m * tm = 0 := by omega
          rw [e0, Int.zero_mul, Int.add_zero] at e4
          subst e4
          rw [e0]
          simp
    exact (key zs.length (Nat.le_refl _)).2
end Go.Proofs.Ytkfjlgjncaddpaa
