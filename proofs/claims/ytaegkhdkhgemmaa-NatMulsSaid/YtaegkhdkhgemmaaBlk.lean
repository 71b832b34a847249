import Derived.Test.YtaegkhdkhgemmaaKarQ
namespace Go.Proofs.Ytaegkhdkhgemmaa
open Go.RowKit Num

/-- One block of a number. -/
theorem block_is (ga oa c m i j : Nat) (w : World) (hA : Nums .u64 w (some ⟨ga, oa, none⟩) (dig B64 m)) (hc : (dig B64 m).length ≤ c) (hij : i + j ≤ (dig B64 m).length) (hbig : (dig B64 m).length ≤ 1000000000) :
    (Calls Try.prog 78 #[.slice (some ⟨ga, oa + i, none⟩) j (c - i)] w fun e w' => e = .returned (.slice (some ⟨ga, oa + i, none⟩) (dig B64 (m / B64 ^ i % B64 ^ j)).length (c - i)) ∧ w = w')
    ∧ W64 w (.slice (some ⟨ga, oa + i, none⟩) (dig B64 (m / B64 ^ i % B64 ^ j)).length (c - i)) (m / B64 ^ i % B64 ^ j) := by
  obtain ⟨A, d, e, _, hN⟩ := high_is ga oa c m i w hA hc
  injection e with e1 e2 e3
  subst e1 e3
  have hl := dig_len_div b64_two m i
  exact ⟨low_half _ _ _ j w hN (by omega) (by omega) (by omega), low_is _ _ _ j w hN (by omega) (by omega)⟩
theorem mod_block (b m i j : Nat) : m % b ^ i + b ^ i * (m / b ^ i % b ^ j) = m % b ^ (i + j) := by
  rw [Nat.pow_add, Nat.mod_mul]

set_option maxHeartbeats 4000000 in
set_option maxRecDepth 100000 in
theorem blocks_any {K : Nat} (HM : MulSpec K) (ga oa c gb ob c' La Lb m n : Nat) (w : World) (hA : Nums .u64 w (some ⟨ga, oa, none⟩) (dig B64 m)) (hB : Nums .u64 w (some ⟨gb, ob, none⟩) (dig B64 n))
    (hLa : La = (dig B64 m).length) (hLb : Lb = (dig B64 n).length) (h80 : 80 ≤ Lb) (h2 : 2 * Lb ≤ La) (hc : La ≤ c) (hc' : Lb ≤ c') (hbig : La ≤ 1000000000) (hK : Lb ≤ K) :
    Calls Try.prog 129 #[.slice (some ⟨ga, oa, none⟩) La c, .slice (some ⟨gb, ob, none⟩) Lb c'] w (SumPost w (m * n)) := by
  have hmk := make64 (La + Lb) (by omega)
  push_cast at hmk
  have hr0 := Row.made w .u64 (La + Lb) 24
  have hbA : Below w.heap.size w (w.alloc (.cells (madeCells #[.int .u64 0] (La + Lb)) 24)) := (Below.refl _ _).alloc (Nat.le_refl _) _
  have hv0 : val B64 (List.replicate (La + Lb) 0) = m % B64 ^ 0 * n := by rw [val_replicate, Nat.pow_zero, Nat.mod_one, Nat.zero_mul]
  have hlt := Nat.mul_lt_mul_of_lt_of_lt (dig_len_lt b64_two (n := m)) (dig_len_lt b64_two (n := n))
  rw [← hLa, ← hLb, ← Nat.pow_add] at hlt
  have HLT := Lib.hid hlt
  have HV0 := Lib.hid hv0
  have HR0 := Lib.hid hr0
  have HA := Lib.hid hA
  have HB := Lib.hid hB
  have HLA := Lib.hid hLa
  have HLB := Lib.hid hLb
  have HMM := Lib.hid HM
  clear hA hB hLa hLb HM hr0 hv0 hlt
  go_enter Try.func129, Try.ntmps129
  go_wp2
  go_loopw [6] (fun t wr => ∃ (i : Nat) (zs : List Nat), i ≤ La + Lb ∧ t = .int .i64 (i : Int) ∧ zs.length = La + Lb ∧ Low B64 zs ∧ val B64 zs = m % B64 ^ i * n ∧ Row .u64 24 wr w.heap.size zs ∧ Below w.heap.size w wr) (fun t _ => La + Lb - (intOf t).toNat)
  case atStart => exact ⟨0, _, Nat.zero_le _, rfl, by simp, Low.replicate b64_pos _, HV0.out, HR0.out, hbA⟩
  case round =>
    clear HR0 HV0 hbA hmk
    obtain ⟨i, zs, hi, rfl, hzl, hzlow, hzv, hrow, hbl⟩ := hrel
    have HZL := Lib.hid hzl
    have HZV := Lib.hid hzv
    clear hzl hzv
    by_cases hlt : i < La
    · have hci : ¬ c = i := by omega
      have ev : (i : Int) ≤ (La : Int) + (Lb : Int) := by omega
      have nv : ¬ La + Lb = i := by omega
      obtain ⟨j, hj⟩ : ∃ j, (min ((i : Int) + (Lb : Int)) (La : Int)).toNat - i = j := ⟨_, rfl⟩
      have j1 : j ≤ Lb := by omega
      have j2 : i + j ≤ La := by omega
      have j3 : i + j = La ∨ j = Lb := by omega
      have HJ := Lib.hid hj
      have J3 := Lib.hid j3
      have bc := fun w (hA : Nums .u64 w (some ⟨ga, oa, none⟩) (dig B64 m)) => block_is ga oa c m i j w hA (by rw [← HLA.out]; exact hc) (by rw [← HLA.out]; exact j2) (by rw [← HLA.out]; exact hbig)
      have bl : (dig B64 (m / B64 ^ i % B64 ^ j)).length ≤ j := dig_len_mod b64_two _ _
      have bm := mod_block B64 m i j
      obtain ⟨mb, hmb⟩ : ∃ mb, m / B64 ^ i % B64 ^ j = mb := ⟨_, rfl⟩
      rw [hmb] at bc bl bm
      have BC := Lib.hid bc
      have BM := Lib.hid bm
      have hpl : (dig B64 (mb * n)).length ≤ La + Lb - i := by
        refine dig_len_le b64_two ?_
        have h1 := Nat.mul_lt_mul_of_lt_of_lt (lt_of_wlen bl) (dig_len_lt b64_two (n := n))
        rw [← HLB.out, ← Nat.pow_add] at h1
        exact Nat.lt_of_lt_of_le h1 (Nat.pow_le_pow_right b64_pos (by omega))
      clear hj j3 bc bm hmb
      go_wp2_with (go_at_call 78; rw [HJ.out]; refine ((BC.out _ (HA.out.keep hbl)).1).mono ?_; rintro e w1 ⟨rfl, rfl⟩)
      have hrow1 := hrow.drew
      have hbl1 : Below w.heap.size w wr.drew := hbl.drew
      have hgz : w.heap.size < wr.drew.heap.size := hrow1.lt
      clear hrow hbl
      have hmul := HMM.out _ _ mb n wr.drew ((BC.out _ (HA.out.keep hbl1)).2) ⟨_, _, by rw [← HLB.out], by rw [← HLB.out]; exact hc', HB.out.keep hbl1⟩ (by omega) (by rw [← HLB.out]; exact hK)
      have HMUL := Lib.hid hmul
      clear hmul
      go_region_with (first
        | (go_at_call 111
           refine HMUL.out.mono ?_
           rintro e w2 ⟨v2, rfl, ⟨g2, c2, zs2, rfl, hc2, hcz2, hg2, hr2, hl2, ht2⟩, hb2⟩
           have hrow2 := hrow1.below hb2 hgz
           have hn2 : Nums .u64 w2 (some ⟨g2, 0, none⟩) (dig B64 (mb * n)) := by have := hr2.nums0 (dig B64 (mb * n)).length; rwa [ht2] at this
           have hbl2 : Below w.heap.size w w2 := below_at hbl1 (Nat.le_refl _) hb2
           have HC2 := Lib.hid hcz2
           clear hcz2 ht2 hr2)
        | (go_at_call 106
           refine (addTo_any w.heap.size i (La + Lb - i) (La + Lb - i) _ _ zs _ _ _ hrow2 hzlow (by rw [HZL.out]; omega) hn2 (dig_low64 _) (fun _ a ha => by injection ha with ha; subst ha; exact Nat.ne_of_gt (Nat.lt_of_lt_of_le hgz hg2)) rfl hpl (by omega)).mono ?_
           rintro e w3 ⟨zs', cy, rfl, hst, hr3, hg3⟩
           have hbl3 : Below w.heap.size w w3 := hbl2.grown hg3 hbl2.size (fun k hk => by injection hk with hk; omega)))
      go_wp2_with (fail)
      go_roundw
      case rel =>
        refine ⟨i + Lb, zs', by omega, by go_num, hst.len.trans HZL.out, hst.low, ?_, hr3, hbl3⟩
        have e1 : m % B64 ^ (i + Lb) = m % B64 ^ (i + j) := by
          rcases J3.out with h | h
          · have hm : m < B64 ^ La := lt_of_wlen (by rw [← HLA.out]; exact Nat.le_refl _)
            rw [h, Nat.mod_eq_of_lt hm, Nat.mod_eq_of_lt (Nat.lt_of_lt_of_le hm (Nat.pow_le_pow_right b64_pos (by omega)))]
          · rw [h]
        refine hst.whole (by rw [HZL.out]; omega) hpl ?_ ?_
        · rw [HZV.out, val_dig b64_two, e1, ← BM.out, Nat.add_mul, Nat.mul_assoc]
        · rw [HZL.out]
          exact Nat.lt_of_le_of_lt (Nat.mul_le_mul_right _ (Nat.mod_le _ _)) HLT.out
      case measure => simp [intOf]; omega
    · have hm : m < B64 ^ La := lt_of_wlen (by rw [← HLA.out]; exact Nat.le_refl _)
      have hv : val B64 zs = m * n := by rw [HZV.out, Nat.mod_eq_of_lt (Nat.lt_of_lt_of_le hm (Nat.pow_le_pow_right b64_pos (by omega)))]
      have hn := hrow.nums0 zs.length
      rw [List.take_length] at hn
      have HV := Lib.hid hv
      clear hv
      go_wp2_with (go_at_call 78
                   refine (trim_any _ (La + Lb) (La + Lb) zs _ hn hzlow HZL.out.symm (Nat.le_refl _) (by omega)).mono ?_
                   rintro e w1 ⟨rfl, rfl⟩)
      go_ret
      rw [← HV.out]
      refine ⟨_, rfl, ?_, hbl⟩
      have := own_of_trim b64_two hrow hzlow (Nat.le_refl w.heap.size)
      rw [HZL.out] at this
      exact this
end Go.Proofs.Ytaegkhdkhgemmaa
