/- Part of the proof of WireCertain: KarQ, Blk, MulAll, RefMul, MulsW, RefPow, PowersW, RootLaws, DivLaws, Div64, SubSc, Est. -/
import Derived.Test.YthgekjkgfccnaaaPartE
import Derived.Test.YthgekjkgfccnaaaPartD
import Derived.Test.YthgekjkgfccnaaaPartB
namespace Go.Proofs.Ythgekjkgfccnaaa
open Go.RowKit Num
theorem high_none (A : Option Addr) (n h : Nat) (w : World) (hl : (dig B64 n).length ≤ h) : W64 w (.slice A 0 0) (n / B64 ^ h) := by
  have e : n / B64 ^ h = 0 := Nat.div_eq_of_lt (lt_of_wlen hl)
  rw [e]
  refine ⟨A, 0, ?_, ?_, ?_⟩
  all_goals rw [dig_zero]
  all_goals first | rfl | exact Nats.nil | exact Nums.nil | exact Nat.le_refl _
set_option maxHeartbeats 4000000 in
set_option maxRecDepth 100000 in
theorem kara_eq {K : Nat} (HM : MulSpec K) (ga oa c gb ob c' La Lb m n : Nat) (w : World) (hA : Nums .u64 w (some ⟨ga, oa, none⟩) (dig B64 m)) (hB : Nums .u64 w (some ⟨gb, ob, none⟩) (dig B64 n))
    (hLa : La = (dig B64 m).length) (hLb : Lb = (dig B64 n).length) (h80 : 80 ≤ Lb) (_hle : Lb ≤ La) (h2 : La < 2 * Lb) (hc : La ≤ c) (hc' : Lb ≤ c') (hbig : La ≤ 1000000000) (hK : (La + 1) / 2 + 1 ≤ K) (hcb : c' = (La + 1) / 2) :
    Calls Try.prog 110 #[.slice (some ⟨ga, oa, none⟩) La c, .slice (some ⟨gb, ob, none⟩) Lb c'] w (SumPost w (m * n)) := by
  obtain ⟨h, hh⟩ : ∃ h, (La + 1) / 2 = h := ⟨_, rfl⟩
  have hhi : ((La : Int) + 1) / 2 = (h : Int) := by omega
  have hca : ¬ c = h := by omega
  rw [hh] at hcb hK
  subst c'
  have b1 : h ≤ Lb := by omega
  have b2 : h < La := by omega
  have b3 : 40 ≤ h := by omega
  have b4 : La - h ≤ h := by omega
  have b5 : Lb - h ≤ h := by omega
  have ha0 := fun w (hA : Nums .u64 w (some ⟨ga, oa, none⟩) (dig B64 m)) => low_half _ c m h w hA (by omega) (by omega) (by omega)
  have hb0 := fun w (hB : Nums .u64 w (some ⟨gb, ob, none⟩) (dig B64 n)) => low_half _ h n h w hB (by omega) (by omega) (by omega)
  have ia0 := fun w (hA : Nums .u64 w (some ⟨ga, oa, none⟩) (dig B64 m)) => low_is _ c m h w hA (by omega) (by omega)
  have ib0 := fun w (hB : Nums .u64 w (some ⟨gb, ob, none⟩) (dig B64 n)) => low_is _ h n h w hB (by omega) (by omega)
  have ia1 := fun w (hA : Nums .u64 w (some ⟨ga, oa, none⟩) (dig B64 m)) => high_is ga oa c m h w hA (by omega)
  have ib1 := fun (w : World) (_ : Nums .u64 w (some ⟨gb, ob, none⟩) (dig B64 n)) => high_none (some ⟨gb, ob, none⟩) n h w (by omega)
  rw [← hLa] at ia1
  have lm0 := dig_len_mod b64_two m h
  have ln0 := dig_len_mod b64_two n h
  have lm1 := dig_len_div b64_two m h
  have ln1 := dig_len_div b64_two n h
  rw [← hLa] at lm1
  rw [← hLb] at ln1
  have em := Nat.mod_add_div m (B64 ^ h)
  have en := Nat.mod_add_div n (B64 ^ h)
  have hlt := Nat.mul_lt_mul_of_lt_of_lt (dig_len_lt b64_two (n := m)) (dig_len_lt b64_two (n := n))
  rw [← hLa, ← hLb, ← Nat.pow_add] at hlt
  generalize m % B64 ^ h = m0 at *
  generalize n % B64 ^ h = n0 at *
  generalize m / B64 ^ h = m1 at *
  generalize n / B64 ^ h = n1 at *
  have ls1 : (dig B64 (m0 + m1)).length ≤ h + 1 := wlen_add lm0 (by omega)
  have ls2 : (dig B64 (n0 + n1)).length ≤ h + 1 := wlen_add ln0 (by omega)
  have M1 : ∀ a b w, W64 w a m0 → W64 w b n0 → Calls Try.prog 99 #[a, b] w (SumPost w (m0 * n0)) := fun a b w h k => HM a b m0 n0 w h k (by omega) (by omega)
  have M2 : ∀ a b w, W64 w a m1 → W64 w b n1 → Calls Try.prog 99 #[a, b] w (SumPost w (m1 * n1)) := fun a b w h k => HM a b m1 n1 w h k (by omega) (by omega)
  have M3 : ∀ a b w, W64 w a (m0 + m1) → W64 w b (n0 + n1) → Calls Try.prog 99 #[a, b] w (SumPost w ((m0 + m1) * (n0 + n1))) := fun a b w h k => HM a b _ _ w h k (by omega) (by omega)
  have S1 : ∀ a b w, W64 w a m0 → W64 w b m1 → Calls Try.prog 77 #[a, b] w (SumPost w (m0 + m1)) := fun a b w h k => sum_any a b m0 m1 w h k (by omega) (by omega)
  have S2 : ∀ a b w, W64 w a n0 → W64 w b n1 → Calls Try.prog 77 #[a, b] w (SumPost w (n0 + n1)) := fun a b w h k => sum_any a b n0 n1 w h k (by omega) (by omega)
  have hmk := make64 (La + Lb) (by omega)
  push_cast at hmk
  have hbits : m0 * n0 < B64 ^ (2 * h) ∧ m1 * n1 < B64 ^ (La + Lb - 2 * h) ∧ (m0 + m1) * (n0 + n1) < B64 ^ (2 * h + 2) := by
    refine ⟨?_, ?_, ?_⟩
    · rw [show 2 * h = h + h by omega, Nat.pow_add]
      exact Nat.mul_lt_mul_of_lt_of_lt (lt_of_wlen lm0) (lt_of_wlen ln0)
    · rw [show La + Lb - 2 * h = (La - h) + (Lb - h) by omega, Nat.pow_add]
      exact Nat.mul_lt_mul_of_lt_of_lt (lt_of_wlen (by omega)) (lt_of_wlen (by omega))
    · rw [show 2 * h + 2 = (h + 1) + (h + 1) by omega, Nat.pow_add]
      exact Nat.mul_lt_mul_of_lt_of_lt (lt_of_wlen ls1) (lt_of_wlen ls2)
  have HA := Lib.hid hA
  have HB := Lib.hid hB
  have H0 := Lib.hid ha0
  have H1 := Lib.hid hb0
  have IA0 := Lib.hid ia0
  have IB0 := Lib.hid ib0
  have IA1 := Lib.hid ia1
  have IB1 := Lib.hid ib1
  have HLA := Lib.hid hLa
  have HLB := Lib.hid hLb
  have HH := Lib.hid hh
  have HM1 := Lib.hid M1
  have HM2 := Lib.hid M2
  have HM3 := Lib.hid M3
  have HS1 := Lib.hid S1
  have HS2 := Lib.hid S2
  have HEM := Lib.hid em
  have HEN := Lib.hid en
  have HLT := Lib.hid hlt
  have HBI := Lib.hid hbits
  have below0 : ∀ k, Below w.heap.size w (w.drewN k) := fun k => below_drewN (Below.refl _ _) k
  have HBE := Lib.hid below0
  clear ha0 hb0 ia0 ib0 ia1 ib1 hLa hLb hh M1 M2 M3 S1 S2 em en hlt hbits HM below0 hA hB lm1 ln1
  go_enter Try.func110, Try.ntmps110
  go_wp2
  go_quiet ((go_at_call 69; exact quiet_l (H0.out _ (HA.out.keep (HBE.out _)))))
  go_wp2
  go_quiet ((go_at_call 69; exact quiet_a (H1.out _ (HB.out.keep (HBE.out _)))))
  go_wp2_with (fail)
  refine (HM1.out _ _ _ (IA0.out _ (HA.out.keep (HBE.out _))) (IB0.out _ (HB.out.keep (HBE.out _)))).mono ?_
  rintro e w1 ⟨v1, rfl, hv1, hb1⟩
  have c1 : Below w.heap.size w w1 := (HBE.out _).trans (hb1.mono (HBE.out _).size)
  obtain ⟨A1, d1, rfl, hd1, k1⟩ := hv1.is
  clear hv1
  have ll1 : (dig B64 (m0 * n0)).length ≤ 2 * h := dig_len_le b64_two HBI.out.1
  obtain ⟨l1, hl1⟩ : ∃ l, (dig B64 (m0 * n0)).length = l := ⟨_, rfl⟩
  have HL1 := Lib.hid hl1
  rw [hl1] at hd1 ll1 ⊢
  clear hl1
  go_wp2_with (fail)
  refine (HM2.out _ _ _ (IA1.out _ (HA.out.keep c1)) (IB1.out _ (HB.out.keep c1))).mono ?_
  rintro e w2 ⟨v2, rfl, hv2, hb2⟩
  have c2 := below_at c1 (Nat.le_refl _) hb2
  have k1' := k1.keep hb2
  obtain ⟨A2, d2', rfl, hd2, k2⟩ := hv2.is
  clear hv2 k1
  have ll2 : (dig B64 (m1 * n1)).length ≤ La + Lb - 2 * h := dig_len_le b64_two HBI.out.2.1
  obtain ⟨l2, hl2⟩ : ∃ l, (dig B64 (m1 * n1)).length = l := ⟨_, rfl⟩
  have HL2 := Lib.hid hl2
  rw [hl2] at hd2 ll2 ⊢
  clear hl2
  go_wp2_with (fail)
  refine (HS1.out _ _ _ (IA0.out _ (HA.out.keep c2)) (IA1.out _ (HA.out.keep c2))).mono ?_
  rintro e w3 ⟨v3, rfl, hv3, hb3⟩
  have c3 := below_at c2 (Nat.le_refl _) hb3
  go_wp2_with (fail)
  refine (HS2.out _ _ _ (IB0.out _ (HB.out.keep c3)) (IB1.out _ (HB.out.keep c3))).mono ?_
  rintro e w4 ⟨v4, rfl, hv4, hb4⟩
  have c4 := below_at c3 (Nat.le_refl _) hb4
  go_wp2_with (fail)
  refine (HM3.out _ _ _ (hv3.is.keep hb4) hv4.is).mono ?_
  rintro e w5 ⟨v5, rfl, ⟨g5, c5, zs5, rfl, hc5, hcz5, hg5, hr5, hl5, ht5⟩, hb5⟩
  have c5' := below_at c4 (Nat.le_refl _) hb5
  clear hv3 hv4
  have hK2 := kara_mid m0 m1 n0 n1
  have hmid5 : RawAt w5 g5 zs5 (dig B64 ((m0 + m1) * (n0 + n1))).length ((m0 + m1) * (n0 + n1)) := ⟨hr5, hl5, by omega, by
    have : seg zs5 0 (dig B64 ((m0 + m1) * (n0 + n1))).length = zs5.take (dig B64 ((m0 + m1) * (n0 + n1))).length := by simp [seg]
    rw [this, ht5, val_dig b64_two]⟩
  have lmid : (dig B64 ((m0 + m1) * (n0 + n1))).length ≤ 2 * h + 2 := dig_len_le b64_two HBI.out.2.2
  have w2g : w2.heap.size ≤ g5 := Nat.le_trans hb3.size (Nat.le_trans hb4.size hg5)
  have d2 : Below w2.heap.size w2 w5 := (hb3.trans (hb4.mono hb3.size)).trans (hb5.mono (Nat.le_trans hb3.size hb4.size))
  have HK2 := Lib.hid hK2
  have HT5 := Lib.hid ht5
  clear hK2 ht5 hr5
  generalize (dig B64 ((m0 + m1) * (n0 + n1))).length = lm at *
  subst hcz5
  go_wp2_with (fail)
  refine (subFrom_raw g5 lm _ (m0 * n0) _ zs5 _ w2 _ hmid5 ⟨_, _, by rw [HL1.out], by rw [HL1.out]; exact hd1, k1'⟩ d2 w2g HK2.out.2.1 (by omega)).mono ?_
  rintro e w6 ⟨zs6, rfl, hmid6, hlen6, hgr6⟩
  have d3 : Below w2.heap.size w2 w6 := d2.grown hgr6 d2.size (fun k hk => by injection hk with hk; omega)
  go_wp2_with (fail)
  refine (subFrom_raw g5 lm _ (m1 * n1) _ zs6 _ w2 _ hmid6 ⟨_, _, by rw [HL2.out], by rw [HL2.out]; exact hd2, k2⟩ d3 w2g HK2.out.2.2 (by omega)).mono ?_
  rintro e w7 ⟨zs7, rfl, hmid7, hlen7, hgr7⟩
  have d4 : Below w2.heap.size w2 w7 := d3.grown hgr7 d3.size (fun k hk => by injection hk with hk; omega)
  rw [HK2.out.1] at hmid7
  have k1z := k1'.keep d4
  have k2z := k2.keep d4
  have hr0 := Row.made w7 .u64 (La + Lb) 55
  have hbA : Below w7.heap.size w7 (w7.alloc (.cells (madeCells #[.int .u64 0] (La + Lb)) 55)) := (Below.refl _ _).alloc (Nat.le_refl _) _
  have q1 := k1z.keep hbA
  have q2 := k2z.keep hbA
  have HR0 := Lib.hid hr0
  have hn1 : (lay (List.replicate (La + Lb) 0) 0 (dig B64 (m0 * n0))).length = La + Lb := by rw [lay_len (by simp only [List.length_replicate, HL1.out]; omega)]; simp
  have HN1 := Lib.hid hn1
  clear hr0 hn1
  go_wp2_with (first
    | (refine wpList_copy_row rfl (.tmp 57) (.tmp 58) rfl _ _ _ _ _ _ rfl rfl _ 0 _ _ HR0.out q1 HL1.out.symm (by omega) (fun _ => rfl) (by simp only [List.length_replicate]; omega) ?_
       intro w8 hr8 hg8
       have hb8 : Below w7.heap.size w7 w8 := hbA.grown hg8 hbA.size (by simp)
       have q3 := q2.grown (nums_ne k2z (Nat.le_refl _)) hg8)
    | (refine wpList_copy_row rfl (.tmp 63) (.tmp 64) rfl _ _ _ _ _ _ rfl rfl _ (2 * h) _ _ (by assumption) (by assumption) HL2.out.symm (by omega) (fun _ => rfl) (by rw [HN1.out]; omega) ?_
       intro w9 hr9 hg9
       have hb9 : Below w7.heap.size w7 w9 := hb8.grown hg9 hb8.size (by simp)))
  have ev : (h : Int) ≤ (La : Int) + (Lb : Int) := by omega
  have nv : ¬ La + Lb = h := by omega
  have q5 : Row .u64 55 w9.drew g5 zs7 := (hmid7.row.below hb9 hmid7.row.lt).drew
  have q6 := q5.nums0 lm
  have t1 := trim_any (some ⟨g5, 0, none⟩) zs5.length lm (zs7.take lm) w9.drew q6 (hmid7.low.take lm) (by rw [List.length_take, Nat.min_eq_left hmid7.le]) (by have := hmid7.le; omega) (by omega)
  have t2 : val B64 (zs7.take lm) = m0 * n1 + m1 * n0 := by have := hmid7.eq; simpa [seg] using this
  rw [t2] at t1
  have hmn : m * n = m0 * n0 + B64 ^ h * B64 ^ h * (m1 * n1) + B64 ^ h * (m0 * n1 + m1 * n0) := by
    have := kara_sum m0 m1 n0 n1 (B64 ^ h)
    rwa [HEM.out, HEN.out] at this
  have hml : m0 * n1 + m1 * n0 < B64 ^ (La + Lb - h) := mid_lt hmn (by rw [show h + (La + Lb - h) = La + Lb by omega]; exact HLT.out)
  have hl3 : (dig B64 (m0 * n1 + m1 * n0)).length ≤ La + Lb - h := dig_len_le b64_two hml
  have q7 := q6.take (dig B64 (m0 * n1 + m1 * n0)).length
  have q8 := trim_take b64_two (hmid7.low.take lm)
  rw [t2] at q8
  rw [q8] at q7
  obtain ⟨Z, hZ⟩ : ∃ Z, lay (lay (List.replicate (La + Lb) 0) 0 (dig B64 (m0 * n0))) (2 * h) (dig B64 (m1 * n1)) = Z := ⟨_, rfl⟩
  have zl : Z.length = La + Lb := by rw [← hZ, lay_len (by rw [HN1.out, HL2.out]; omega), HN1.out]
  have zlow : Low B64 Z := by rw [← hZ]; exact lay_low (lay_low (Low.replicate b64_pos _) (dig_low64 _)) (dig_low64 _)
  have zv : val B64 Z = m0 * n0 + B64 ^ h * B64 ^ h * (m1 * n1) := by
    rw [← hZ, val_two (by rw [HL1.out]; omega) (by rw [HL2.out]; omega), val_dig b64_two, val_dig b64_two, show 2 * h = h + h by omega, Nat.pow_add]
  have zv2 : val B64 Z + B64 ^ h * val B64 (dig B64 (m0 * n1 + m1 * n0)) = m * n := by rw [zv, hmn, val_dig b64_two]
  have zlt : m * n < B64 ^ Z.length := by rw [zl]; exact HLT.out
  rw [hZ] at hr9
  have hr10 := hr9.drew
  have g2 : w.heap.size ≤ g5 := Nat.le_trans c2.size w2g
  have c6 : Below w.heap.size w w7 := (c5'.grown hgr6 c5'.size (fun k hk => by injection hk with hk; omega)) |>.grown hgr7 (by have := c5'.size; have := hgr6.size; omega) (fun k hk => by injection hk with hk; omega)
  have c9 : Below w.heap.size w w9 := below_at c6 (Nat.le_refl _) hb9
  have c10 : Below w.heap.size w w9.drew := c9.drew
  have g7 : w.heap.size ≤ w7.heap.size := c6.size
  have g57 : g5 < w7.heap.size := hmid7.row.lt
  have TT := Lib.hid t1
  have T2 := Lib.hid t2
  have ZL := Lib.hid zl
  have ZV := Lib.hid zv2
  clear t1 t2 hmn q8 hZ zl zv zv2 hr9
  go_still_tail 5, (by kernel_rfl)
  still_call (TT.out.mono fun _ _ ⟨he, hm⟩ => ⟨he, hm.symm⟩)
  refine wpStill_nil ?_
  change wpList _ _ _ _ _ w9.drew
  generalize w9.drew = w10 at *
  go_wp2_with (first
    | (go_at_call 98
       refine (addTo_any w7.heap.size h (La + Lb - h) (La + Lb - h) _ _ Z _ _ _ hr10 zlow (by rw [ZL.out]; omega) q7 (dig_low64 _) (fun _ a ha => by injection ha with ha; subst ha; exact Nat.ne_of_lt g57) rfl hl3 (by omega)).mono ?_
       rintro e w11 ⟨zs', cy, rfl, hst, hr11, hg11⟩
       have hb11 : Below w.heap.size w w11 := c10.grown hg11 c10.size (fun k hk => by injection hk with hk; omega)
       have hl11 := hst.len.trans ZL.out
       have hn11 : Nums .u64 w11 (some ⟨w7.heap.size, 0, none⟩) zs' := by have := hr11.nums0 zs'.length; rwa [List.take_length] at this
       have HL11 := Lib.hid hl11
       clear hl11)
    | (go_at_call 69
       refine (trim_any _ (La + Lb) (La + Lb) zs' _ (by assumption) hst.low HL11.out.symm (Nat.le_refl _) (by omega)).mono ?_
       rintro e w12 ⟨rfl, rfl⟩))
  go_ret
  have hv := hst.whole (by rw [ZL.out]; omega) hl3 ZV.out zlt
  rw [← hv]
  refine ⟨_, rfl, ?_, hb11⟩
  have := own_of_trim b64_two hr11 hst.low g7
  rw [HL11.out] at this
  exact this
end Go.Proofs.Ythgekjkgfccnaaa

namespace Go.Proofs.Ythgekjkgfccnaaa
open Go.RowKit Num

/-- One block of a number. -/
theorem block_is (ga oa c m i j : Nat) (w : World) (hA : Nums .u64 w (some ⟨ga, oa, none⟩) (dig B64 m)) (hc : (dig B64 m).length ≤ c) (hij : i + j ≤ (dig B64 m).length) (hbig : (dig B64 m).length ≤ 1000000000) :
    (Calls Try.prog 69 #[.slice (some ⟨ga, oa + i, none⟩) j (c - i)] w fun e w' => e = .returned (.slice (some ⟨ga, oa + i, none⟩) (dig B64 (m / B64 ^ i % B64 ^ j)).length (c - i)) ∧ w = w')
    ∧ W64 w (.slice (some ⟨ga, oa + i, none⟩) (dig B64 (m / B64 ^ i % B64 ^ j)).length (c - i)) (m / B64 ^ i % B64 ^ j) := by
  obtain ⟨A, d, e, _, hN⟩ := high_is ga oa c m i w hA hc
  injection e with e1 e2 e3
  subst e1 e3
  have hl := dig_len_div b64_two m i
  exact ⟨low_half _ _ _ j w hN (by omega) (by omega) (by omega), low_is _ _ _ j w hN (by omega) (by omega)⟩
theorem mod_block (b m i j : Nat) : m % b ^ i + b ^ i * (m / b ^ i % b ^ j) = m % b ^ (i + j) := by
  rw [Nat.pow_add, Nat.mod_mul]

set_option maxHeartbeats 4000000 in
set_option maxRecDepth 100000 in
theorem blocks_any {K : Nat} (HM : MulSpec K) (ga oa c gb ob c' La Lb m n : Nat) (w : World) (hA : Nums .u64 w (some ⟨ga, oa, none⟩) (dig B64 m)) (hB : Nums .u64 w (some ⟨gb, ob, none⟩) (dig B64 n))
    (hLa : La = (dig B64 m).length) (hLb : Lb = (dig B64 n).length) (h80 : 80 ≤ Lb) (h2 : 2 * Lb ≤ La) (hc : La ≤ c) (hc' : Lb ≤ c') (hbig : La ≤ 1000000000) (hK : Lb ≤ K) :
    Calls Try.prog 109 #[.slice (some ⟨ga, oa, none⟩) La c, .slice (some ⟨gb, ob, none⟩) Lb c'] w (SumPost w (m * n)) := by
  have hmk := make64 (La + Lb) (by omega)
  push_cast at hmk
  have hr0 := Row.made w .u64 (La + Lb) 55
  have hbA : Below w.heap.size w (w.alloc (.cells (madeCells #[.int .u64 0] (La + Lb)) 55)) := (Below.refl _ _).alloc (Nat.le_refl _) _
  have hv0 : val B64 (List.replicate (La + Lb) 0) = m % B64 ^ 0 * n := by rw [val_replicate, Nat.pow_zero, Nat.mod_one, Nat.zero_mul]
  have hlt := Nat.mul_lt_mul_of_lt_of_lt (dig_len_lt b64_two (n := m)) (dig_len_lt b64_two (n := n))
  rw [← hLa, ← hLb, ← Nat.pow_add] at hlt
  have HLT := Lib.hid hlt
  have HV0 := Lib.hid hv0
  have HR0 := Lib.hid hr0
  have HA := Lib.hid hA
  have HB := Lib.hid hB
  have HLA := Lib.hid hLa
  have HLB := Lib.hid hLb
  have HMM := Lib.hid HM
  clear hA hB hLa hLb HM hr0 hv0 hlt
  go_enter Try.func109, Try.ntmps109
  go_wp2
  go_loopw [6] (fun t wr => ∃ (i : Nat) (zs : List Nat), i ≤ La + Lb ∧ t = .int .i64 (i : Int) ∧ zs.length = La + Lb ∧ Low B64 zs ∧ val B64 zs = m % B64 ^ i * n ∧ Row .u64 55 wr w.heap.size zs ∧ Below w.heap.size w wr) (fun t _ => La + Lb - (intOf t).toNat)
  case atStart => exact ⟨0, _, Nat.zero_le _, rfl, by simp, Low.replicate b64_pos _, HV0.out, HR0.out, hbA⟩
  case round =>
    clear HR0 HV0 hbA hmk
    obtain ⟨i, zs, hi, rfl, hzl, hzlow, hzv, hrow, hbl⟩ := hrel
    have HZL := Lib.hid hzl
    have HZV := Lib.hid hzv
    clear hzl hzv
    by_cases hlt : i < La
    · have hci : ¬ c = i := by omega
      have ev : (i : Int) ≤ (La : Int) + (Lb : Int) := by omega
      have nv : ¬ La + Lb = i := by omega
      obtain ⟨j, hj⟩ : ∃ j, (min ((i : Int) + (Lb : Int)) (La : Int)).toNat - i = j := ⟨_, rfl⟩
      have j1 : j ≤ Lb := by omega
      have j2 : i + j ≤ La := by omega
      have j3 : i + j = La ∨ j = Lb := by omega
      have HJ := Lib.hid hj
      have J3 := Lib.hid j3
      have bc := fun w (hA : Nums .u64 w (some ⟨ga, oa, none⟩) (dig B64 m)) => block_is ga oa c m i j w hA (by rw [← HLA.out]; exact hc) (by rw [← HLA.out]; exact j2) (by rw [← HLA.out]; exact hbig)
      have bl : (dig B64 (m / B64 ^ i % B64 ^ j)).length ≤ j := dig_len_mod b64_two _ _
      have bm := mod_block B64 m i j
      obtain ⟨mb, hmb⟩ : ∃ mb, m / B64 ^ i % B64 ^ j = mb := ⟨_, rfl⟩
      rw [hmb] at bc bl bm
      have BC := Lib.hid bc
      have BM := Lib.hid bm
      have hpl : (dig B64 (mb * n)).length ≤ La + Lb - i := by
        refine dig_len_le b64_two ?_
        have h1 := Nat.mul_lt_mul_of_lt_of_lt (lt_of_wlen bl) (dig_len_lt b64_two (n := n))
        rw [← HLB.out, ← Nat.pow_add] at h1
        exact Nat.lt_of_lt_of_le h1 (Nat.pow_le_pow_right b64_pos (by omega))
      clear hj j3 bc bm hmb
      go_wp2_with (go_at_call 69; rw [HJ.out]; refine ((BC.out _ (HA.out.keep hbl)).1).mono ?_; rintro e w1 ⟨rfl, rfl⟩)
      have hrow1 := hrow.drew
      have hbl1 : Below w.heap.size w wr.drew := hbl.drew
      have hgz : w.heap.size < wr.drew.heap.size := hrow1.lt
      clear hrow hbl
      have hmul := HMM.out _ _ mb n wr.drew ((BC.out _ (HA.out.keep hbl1)).2) ⟨_, _, by rw [← HLB.out], by rw [← HLB.out]; exact hc', HB.out.keep hbl1⟩ (by omega) (by rw [← HLB.out]; exact hK)
      have HMUL := Lib.hid hmul
      clear hmul
      go_region_with (first
        | (go_at_call 99
           refine HMUL.out.mono ?_
           rintro e w2 ⟨v2, rfl, ⟨g2, c2, zs2, rfl, hc2, hcz2, hg2, hr2, hl2, ht2⟩, hb2⟩
           have hrow2 := hrow1.below hb2 hgz
           have hn2 : Nums .u64 w2 (some ⟨g2, 0, none⟩) (dig B64 (mb * n)) := by have := hr2.nums0 (dig B64 (mb * n)).length; rwa [ht2] at this
           have hbl2 : Below w.heap.size w w2 := below_at hbl1 (Nat.le_refl _) hb2
           have HC2 := Lib.hid hcz2
           clear hcz2 ht2 hr2)
        | (go_at_call 98
           refine (addTo_any w.heap.size i (La + Lb - i) (La + Lb - i) _ _ zs _ _ _ hrow2 hzlow (by rw [HZL.out]; omega) hn2 (dig_low64 _) (fun _ a ha => by injection ha with ha; subst ha; exact Nat.ne_of_gt (Nat.lt_of_lt_of_le hgz hg2)) rfl hpl (by omega)).mono ?_
           rintro e w3 ⟨zs', cy, rfl, hst, hr3, hg3⟩
           have hbl3 : Below w.heap.size w w3 := hbl2.grown hg3 hbl2.size (fun k hk => by injection hk with hk; omega)))
      go_wp2_with (fail)
      go_roundw
      case rel =>
        refine ⟨i + Lb, zs', by omega, by go_num, hst.len.trans HZL.out, hst.low, ?_, hr3, hbl3⟩
        have e1 : m % B64 ^ (i + Lb) = m % B64 ^ (i + j) := by
          rcases J3.out with h | h
          · have hm : m < B64 ^ La := lt_of_wlen (by rw [← HLA.out]; exact Nat.le_refl _)
            rw [h, Nat.mod_eq_of_lt hm, Nat.mod_eq_of_lt (Nat.lt_of_lt_of_le hm (Nat.pow_le_pow_right b64_pos (by omega)))]
          · rw [h]
        refine hst.whole (by rw [HZL.out]; omega) hpl ?_ ?_
        · rw [HZV.out, val_dig b64_two, e1, ← BM.out, Nat.add_mul, Nat.mul_assoc]
        · rw [HZL.out]
          exact Nat.lt_of_le_of_lt (Nat.mul_le_mul_right _ (Nat.mod_le _ _)) HLT.out
      case measure => simp [intOf]; omega
    · have hm : m < B64 ^ La := lt_of_wlen (by rw [← HLA.out]; exact Nat.le_refl _)
      have hv : val B64 zs = m * n := by rw [HZV.out, Nat.mod_eq_of_lt (Nat.lt_of_lt_of_le hm (Nat.pow_le_pow_right b64_pos (by omega)))]
      have hn := hrow.nums0 zs.length
      rw [List.take_length] at hn
      have HV := Lib.hid hv
      clear hv
      go_wp2_with (go_at_call 69
                   refine (trim_any _ (La + Lb) (La + Lb) zs _ hn hzlow HZL.out.symm (Nat.le_refl _) (by omega)).mono ?_
                   rintro e w1 ⟨rfl, rfl⟩)
      go_ret
      rw [← HV.out]
      refine ⟨_, rfl, ?_, hbl⟩
      have := own_of_trim b64_two hrow hzlow (Nat.le_refl w.heap.size)
      rw [HZL.out] at this
      exact this
end Go.Proofs.Ythgekjkgfccnaaa

namespace Go.Proofs.Ythgekjkgfccnaaa
open Go.RowKit Num

/-- Karatsuba's and the blocks' method, whichever multiply picks. -/
theorem big_ways {N : Nat} (HM : MulSpec (N - 1)) (A A' : Option Addr) (c c' La Lb m n : Nat) (w : World) (hA : Nums .u64 w A (dig B64 m)) (hB : Nums .u64 w A' (dig B64 n)) (hLa : La = (dig B64 m).length) (hLb : Lb = (dig B64 n).length)
    (h80 : 80 ≤ Lb) (hle : Lb ≤ La) (hc : La ≤ c) (hc' : Lb ≤ c') (hbig : La ≤ 1000000000) (hN : La ≤ N) :
    (La < 2 * Lb → Calls Try.prog 110 #[.slice A La c, .slice A' Lb c'] w (SumPost w (m * n))) ∧ (2 * Lb ≤ La → Calls Try.prog 109 #[.slice A La c, .slice A' Lb c'] w (SumPost w (m * n))) := by
  obtain ⟨ga, oa, rfl, _, _⟩ := hA (by omega)
  obtain ⟨gb, ob, rfl, _, _⟩ := hB (by omega)
  refine ⟨fun h2 => ?_, fun h2 => blocks_any HM ga oa c gb ob c' La Lb m n w hA hB hLa hLb h80 h2 hc hc' hbig (by omega)⟩
  by_cases hcb : c' = (La + 1) / 2
  · exact kara_eq HM ga oa c gb ob c' La Lb m n w hA hB hLa hLb h80 hle h2 hc hc' hbig (by omega) hcb
  · exact kara_any HM ga oa c gb ob c' La Lb m n w hA hB hLa hLb h80 hle h2 hc hc' hbig (by omega) hcb

set_option maxHeartbeats 400000 in
theorem mul_step {N : Nat} (HM : MulSpec (N - 1)) (a b : Value) (m n : Nat) (w : World) (ha : W64 w a m) (hb : W64 w b n) (hm : (dig B64 m).length ≤ N) (hn : (dig B64 n).length ≤ N) (hbig : N ≤ 1000000000)
    (h80 : 80 ≤ (dig B64 m).length) (h80' : 80 ≤ (dig B64 n).length) : Calls Try.prog 99 #[a, b] w (SumPost w (m * n)) := by
  obtain ⟨A, c, rfl, hc, hA⟩ := ha
  obtain ⟨A', c', rfl, hc', hA'⟩ := hb
  generalize hL : (dig B64 m).length = L at *
  generalize hL' : (dig B64 n).length = L' at *
  by_cases hlt : L < L'
  · have h := big_ways HM A' A c' c L' L n m w hA' hA hL'.symm hL.symm h80 (by omega) hc' hc (by omega) hn
    rw [Nat.mul_comm n m] at h
    have H := Lib.hid h
    clear h hL hL' HM hA hA'
    by_cases h2 : L' < 2 * L
    · go_enter Try.func99, Try.ntmps99
      go_wp2_with (go_at_call 110; refine (H.out.1 h2).mono ?_; rintro e w1 ⟨v, rfl, hv, hb1⟩)
      go_ret
      exact ⟨_, rfl, hv, hb1⟩
    · go_enter Try.func99, Try.ntmps99
      go_wp2_with (go_at_call 109; refine (H.out.2 (by omega)).mono ?_; rintro e w1 ⟨v, rfl, hv, hb1⟩)
      go_ret
      exact ⟨_, rfl, hv, hb1⟩
  · have h := big_ways HM A A' c c' L L' m n w hA hA' hL.symm hL'.symm h80' (by omega) hc hc' (by omega) hm
    have H := Lib.hid h
    clear h hL hL' HM hA hA'
    by_cases h2 : L < 2 * L'
    · go_enter Try.func99, Try.ntmps99
      go_wp2_with (go_at_call 110; refine (H.out.1 h2).mono ?_; rintro e w1 ⟨v, rfl, hv, hb1⟩)
      go_ret
      exact ⟨_, rfl, hv, hb1⟩
    · go_enter Try.func99, Try.ntmps99
      go_wp2_with (go_at_call 109; refine (H.out.2 (by omega)).mono ?_; rintro e w1 ⟨v, rfl, hv, hb1⟩)
      go_ret
      exact ⟨_, rfl, hv, hb1⟩

/-- multiply, whatever the factors' lengths. -/
theorem mulSpec_all : ∀ N, N ≤ 1000000000 → MulSpec N := by
  intro N
  induction N with
  | zero => exact fun _ a b m n w ha hb hm hn => mul_short a b m n w ha hb (by omega) (by omega) (.inl (by omega))
  | succ N ih =>
    intro h a b m n w ha hb hm hn
    by_cases h1 : (dig B64 m).length ≤ 79
    · exact mul_short a b m n w ha hb (by omega) (by omega) (.inl h1)
    · by_cases h2 : (dig B64 n).length ≤ 79
      · exact mul_short a b m n w ha hb (by omega) (by omega) (.inr h2)
      · exact mul_step (N := N + 1) (ih (by omega)) a b m n w ha hb hm hn h (by omega) (by omega)
theorem mulAt_all {m n : Nat} (hm : (dig B64 m).length ≤ 1000000000) (hn : (dig B64 n).length ≤ 1000000000) : MulAt m n := fun a b w ha hb => mulSpec_all _ (Nat.le_refl _) a b m n w ha hb hm hn
end Go.Proofs.Ythgekjkgfccnaaa

namespace Go.Proofs.Ythgekjkgfccnaaa
open Go.RowKit Num
theorem make35 (n : Nat) (h : n ≤ 1000000000000) (w : World) : (Instr.makeSlice 79 (.int .i64 (n : Int)) (.int .i64 (n : Int))).run Try.prog w = .ok (.slice (some ⟨w.heap.size, 0, none⟩) n n) (w.alloc (.cells (madeCells #[.int .u32 0] n) 101)) :=
  run_make_row' 79 101 (.int .u32 0) 4 Try.underlying79 info101 rfl .i64 .i64 n (by omega) (by omega) w
/-- One step: a product, a digit and a carry that stay below 2^64, and the two halves of their sum: as the walk shows them. -/
theorem mac_ex (m x o c : Nat) (hm : m < B32) (hx : x < B32) (ho : o < B32) (hc : c < B32) : ∃ p s1 s lo hi : Nat,
    IntKind.u64.wrap ((m : Int) * (x : Int)) = (p : Int) ∧ IntKind.u64.wrap ((p : Int) + (o : Int)) = (s1 : Int) ∧ IntKind.u64.wrap ((s1 : Int) + (c : Int)) = (s : Int) ∧ (s : Int) % 4294967296 = (lo : Int) ∧ (s : Int) / 4294967296 = (hi : Int) ∧
    IntKind.u32.wrap (lo : Int) = (lo : Int) ∧ (lo : Int) % 4294967296 = (lo : Int) ∧ IntKind.u64.wrap (hi : Int) = (hi : Int) ∧ IntKind.u32.wrap (hi : Int) = (hi : Int) ∧ (hi : Int) % 4294967296 = (hi : Int) ∧ (s : Int).tmod 4294967296 = (lo : Int) ∧ (s : Int).tdiv 4294967296 = (hi : Int) ∧
    IntKind.u64.wrap (m : Int) = (m : Int) ∧ IntKind.u64.wrap (x : Int) = (x : Int) ∧ IntKind.u64.wrap (o : Int) = (o : Int) ∧ lo + B32 * hi = o + x * m + c ∧ lo < B32 ∧ hi < B32 := by
  have hb := word_bound (b := B32) ho hx hm hc (lo := (o + x * m + c) % 4294967296) (hi := (o + x * m + c) / 4294967296) (by unfold B32; omega)
  unfold B32 at *
  have hp : x * m < 4294967296 * 4294967296 := Nat.mul_lt_mul_of_lt_of_lt hx hm
  have hmx : (m : Int) * (x : Int) = ((x * m : Nat) : Int) := by push_cast; exact Int.mul_comm _ _
  generalize x * m = p at *
  refine ⟨p, p + o, p + o + c, (o + p + c) % 4294967296, (o + p + c) / 4294967296, ?_, ?_, ?_, by omega, by omega, ?_, by omega, ?_, ?_, by omega, ?_, ?_, ?_, ?_, ?_, by omega, by omega, by omega⟩
  · rw [IntKind.wrap_u64, hmx]; omega
  · rw [IntKind.wrap_u64]; omega
  · rw [IntKind.wrap_u64]; omega
  · rw [IntKind.wrap_u32']; omega
  · rw [IntKind.wrap_u64]; omega
  · rw [IntKind.wrap_u32']; omega
  · rw [Int.tmod_eq_emod_of_nonneg (by omega)]; omega
  · rw [Int.tdiv_eq_ediv_of_nonneg (by omega)]; omega
  · rw [IntKind.wrap_u64]; omega
  · rw [IntKind.wrap_u64]; omega
  · rw [IntKind.wrap_u64]; omega
set_option maxHeartbeats 2000000 in
set_option maxRecDepth 100000 in
theorem refMul_any (A A' : Option Addr) (c c' L L' : Nat) (xs ys : List Nat) (w : World) (hA : Nums .u32 w A xs) (hA' : Nums .u32 w A' ys) (hx : Low B32 xs) (hy : Low B32 ys) (hL : L = xs.length) (hL' : L' = ys.length)
    (hl : L ≤ 1000000) (hl' : L' ≤ 1000000) : Calls Try.prog 57 #[.slice A L c, .slice A' L' c'] w (LsPost w (dig B32 (val B32 xs * val B32 ys))) := by
  have hmk := make35 (L + L' + 1) (by omega)
  push_cast at hmk
  have hr0 := Row.made w .u32 (L + L' + 1) 101
  have hbA : Below w.heap.size w (w.alloc (.cells (madeCells #[.int .u32 0] (L + L' + 1)) 101)) := (Below.refl _ _).alloc (Nat.le_refl _) _
  have hst0 := MulSt.start b32_two ys (xs ++ [0])
  rw [List.length_append, List.length_singleton, ← hL, ← hL', show L' + (L + 1) = L + L' + 1 by omega] at hst0
  have HR0 := Lib.hid hr0
  have HL := Lib.hid hL
  have HL' := Lib.hid hL'
  clear hL hL' hr0
  go_enter Try.func57, Try.ntmps57
  go_wp2
  go_loopw [6] (fun t wr => ∃ (i : Nat) (zs : List Nat), i ≤ L ∧ t = .int .i64 (i : Int) ∧ MulSt B32 ys (xs ++ [0]) i zs ∧ Row .u32 101 wr w.heap.size zs ∧ Below w.heap.size w wr) (fun t _ => L - (intOf t).toNat)
  case atStart => exact ⟨0, _, Nat.zero_le _, rfl, hst0, HR0.out, hbA⟩
  case round =>
    clear hst0 HR0 hbA hmk
    obtain ⟨i, zs, hi, rfl, hst, hrow, hbl⟩ := hrel
    have hlen := hst.len
    rw [List.length_append, List.length_singleton, ← HL.out, ← HL'.out] at hlen
    have HLEN := Lib.hid hlen
    clear hlen
    by_cases hlt : i < L
    · obtain ⟨q, qo, v, rfl, hq, hv, hcv⟩ := (hA.keep hbl).at_ (i := i) (by have := HL.out; omega)
      have hvl : v < B32 := hx v (List.mem_of_getElem? hv)
      have HV := Lib.hid hv
      clear hv
      go_wp2_with (fail)
      go_loopw [7, 8] (fun q t wr2 => ∃ (k cy : Nat) (zs' : List Nat), k ≤ L' ∧ q = .int .u64 (cy : Int) ∧ t = .int .i64 (k : Int) ∧ ScaleSt B32 zs ys v i k zs' cy ∧ Row .u32 101 wr2 w.heap.size zs' ∧ Below w.heap.size w wr2) (fun _ t _ => L' - (intOf t).toNat)
      case atStart => exact ⟨0, 0, zs, Nat.zero_le _, rfl, rfl, ScaleSt.start b32_two hst.low, hrow, hbl⟩
      case round =>
        obtain ⟨k, cy, zs', hk, rfl, rfl, hsc, hrow2, hbl2⟩ := hrel
        by_cases hlk : k < L'
        · obtain ⟨q2, qo2, x, rfl, hq2, hxv, hcx⟩ := (hA'.keep hbl2).at_ (i := k) (by have := HL'.out; omega)
          have hxl : x < B32 := hy x (List.mem_of_getElem? hxv)
          obtain ⟨g', off', v', e', hq', hv', hcv'⟩ := (hA.keep hbl2).at_ (i := i) (by have := HL.out; omega)
          injection e' with e'
          injection e' with e1 e2
          subst e1 e2
          rw [HV.out] at hv'
          injection hv' with hv'
          subst hv'
          have hzl : i + k < zs'.length := by have h1 := hsc.len; have h2 := HLEN.out; omega
          obtain ⟨o, ho⟩ : ∃ o, zs'[i + k]? = some o := ⟨zs'[i + k], List.getElem?_eq_getElem _⟩
          have hol : o < B32 := hsc.low o (List.mem_of_getElem? ho)
          have hco := hrow2.cell ho
          have hfo := hrow2.frozen (i + k)
          obtain ⟨p, s1, s, lo, hi', w1, w2, w3, w4, w5, w6, w7, w8, w9, wa, wb, wc, wd, we, wf, hs, hlo, hhi⟩ := mac_ex v x o cy hvl hxl hol hsc.le
          have hstep := hsc.step ho hxv hs hlo hhi
          have HST := Lib.hid hstep
          clear hstep hs hlo hhi ho hxv hol hxl hsc hcv
          go_wp2_with (fail)
          go_quiet (fail)
          go_wp2
          go_roundw
          case rel => exact ⟨k + 1, hi', zs'.set (i + k) lo, by omega, rfl, by go_num, HST.out, (Row.of_block hrow2 (by rfl)).set (i + k) lo, below_set (below_drewN hbl2 _) (Nat.le_refl _) _⟩
          case measure => simp [intOf]; omega
        · have hkL : k = L' := by omega
          subst hkL
          have hzl : i + k < zs'.length := by have h1 := hsc.len; have h2 := HLEN.out; omega
          have hcy : IntKind.u32.wrap (cy : Int) = (cy : Int) := by have := hsc.le; unfold B32 at this; rw [IntKind.wrap_u32']; omega
          have hcy2 : (cy : Int) % 4294967296 = (cy : Int) := by have := hsc.le; unfold B32 at this; omega
          have hik : i + k < L + k + 1 := by omega
          obtain ⟨o, ho⟩ : ∃ o, zs'[i + k]? = some o := ⟨zs'[i + k], List.getElem?_eq_getElem _⟩
          have hco := hrow2.cell ho
          have hfo := hrow2.frozen (i + k)
          have HSC := Lib.hid hsc
          clear hsc ho
          go_wp2
          go_roundw
          case rel =>
            refine ⟨i + 1, zs'.set (i + k) cy, by omega, by go_num, ?_, hrow2.set (i + k) cy, below_set hbl2 (Nat.le_refl _) _⟩
            have := hst.step (by rw [List.length_append]; have := HL.out; omega) (by rw [List.getElem?_append_left (by have := HL.out; omega)]; exact HV.out) (by rw [← HL'.out]; exact HSC.out)
            rw [← HL'.out, Nat.add_comm k i] at this
            exact this
          case measure => simp [intOf]; omega
    · have hiL : i = L := by omega
      subst hiL
      have hv := hst.eq
      rw [HL.out, List.take_left, Nat.mul_comm] at hv
      have hn := hrow.nums0 zs.length
      rw [List.take_length] at hn
      have hzl : zs.length = i + L' + 1 := by have := HLEN.out; omega
      have htr := refTrim_l (.slice (some ⟨w.heap.size, 0, none⟩) (i + L' + 1) (i + L' + 1)) zs wr ⟨_, _, by rw [hzl], by omega, by omega, hn⟩ hst.low (by omega)
      rw [hv] at htr
      have HT := Lib.hid htr
      clear htr hv hn hzl hst hx hy hA hA'
      go_wp2_with (go_at_call 82; refine HT.out.mono ?_; rintro e w9 ⟨v9, rfl, hv9, hb9⟩)
      go_ret
      exact ⟨_, rfl, hv9.mono hbl.size, below_at hbl (Nat.le_refl _) hb9⟩
end Go.Proofs.Ythgekjkgfccnaaa

namespace Go.Proofs.Ythgekjkgfccnaaa
open Go.RowKit Num

theorem prod_len {m n K J : Nat} (hm : (dig B32 m).length ≤ K) (hn : (dig B32 n).length ≤ J) : (dig B32 (m * n)).length ≤ K + J := by
  have h1 := Nat.lt_of_lt_of_le (dig_len_lt b32_two (n := m)) (Nat.pow_le_pow_right b32_pos hm)
  have h2 := Nat.lt_of_lt_of_le (dig_len_lt b32_two (n := n)) (Nat.pow_le_pow_right b32_pos hn)
  refine dig_len_le b32_two ?_
  rw [Nat.pow_add]
  exact Nat.mul_lt_mul_of_lt_of_lt h1 h2
theorem refMul_call (a b : Value) (m n : Nat) (w : World) (ha : N32 w a m) (hb : N32 w b n) (hm : (dig B32 m).length ≤ 1000) (hn : (dig B32 n).length ≤ 1000) : Calls Try.prog 57 #[a, b] w (LsPost w (dig B32 (m * n))) := by
  obtain ⟨A, c, rfl, _, hA⟩ := ha
  obtain ⟨A', c', rfl, _, hB⟩ := hb
  have := refMul_any A A' c c' _ _ _ _ w hA hB (low_dig b32_two m) (low_dig b32_two n) rfl rfl (by omega) (by omega)
  rw [val_dig b32_two, val_dig b32_two] at this
  exact this

end Go.Proofs.Ythgekjkgfccnaaa

namespace Go.Proofs.Ythgekjkgfccnaaa
open Go.RowKit Num

/-- A number comes back. -/
def N32Post (w : World) (n : Nat) (e : Ending) (w' : World) : Prop := ∃ v, e = .returned v ∧ N32 w' v n ∧ Below w.heap.size w w'

/-- The bits of the exponent from i on are done; p is the next one's weight. -/
structure PowSt (m n i p V : Nat) : Prop where
  wt : p = if i = 0 then 0 else 2 ^ (i - 1)
  eq : V = m ^ (n / 2 ^ i)
theorem PowSt.start {m n : Nat} (hn : n < 2 ^ 41) : PowSt m n 41 1099511627776 1 := ⟨rfl, by rw [Nat.div_eq_of_lt hn]; rfl⟩
theorem PowSt.next {m n i p V : Nat} (h : PowSt m n (i + 1) p V) : ∃ q r : Nat, n / p = q ∧ q % 2 = r ∧ 0 < p ∧ q ≤ n ∧ (r = 0 → V * V = m ^ q ∧ PowSt m n i (p / 2) (V * V)) ∧ (r = 1 → V * V * m = m ^ q ∧ PowSt m n i (p / 2) (V * V * m)) := by
  have hp : p = 2 ^ i := by rw [h.wt, if_neg (by omega)]; rfl
  have hV : V = m ^ (n / 2 ^ i / 2) := by rw [h.eq, Nat.div_div_eq_div_mul, ← Nat.pow_succ]
  have hp2 : p / 2 = if i = 0 then 0 else 2 ^ (i - 1) := by
    rw [hp]
    by_cases h0 : i = 0
    · subst h0; rfl
    · rw [if_neg h0]
      obtain ⟨j, rfl⟩ : ∃ j, i = j + 1 := ⟨i - 1, by omega⟩
      rw [Nat.pow_succ]; simp
  have hd := Nat.div_add_mod (n / 2 ^ i) 2
  refine ⟨_, _, rfl, rfl, by rw [hp]; exact Nat.pow_pos (by omega), Nat.div_le_self _ _, fun h0 => ?_, fun h1 => ?_⟩
  · have e : V * V = m ^ (n / p) := by
      rw [hV, ← Nat.pow_add, hp]; congr 1; rw [hp] at h0; omega
    exact ⟨e, hp2, by rw [e, hp]⟩
  · have e : V * V * m = m ^ (n / p) := by
      rw [hV, ← Nat.pow_add, ← Nat.pow_succ, hp]; congr 1; rw [hp] at h1; omega
    exact ⟨e, hp2, by rw [e, hp]⟩

set_option maxHeartbeats 2000000 in
set_option maxRecDepth 100000 in
theorem refPow_any (a : Value) (m n : Nat) (w : World) (ha : N32 w a m) (hm : (dig B32 m).length ≤ 500) (hn : n ≤ 1000000000) (hp : ∀ j, j ≤ n → (dig B32 (m ^ j)).length ≤ 500) :
    Calls Try.prog 83 #[a, .int .i64 (n : Int)] w (N32Post w (m ^ n)) := by
  have hof := refOf_any 1 (by decide) w
  have hst0 := @PowSt.start m n (by omega)
  have hmul := fun b c x y w' (h : N32 w' b x) (k : N32 w' c y) (h1 : (dig B32 x).length ≤ 1000) (h2 : (dig B32 y).length ≤ 1000) => refMul_call b c x y w' h k h1 h2
  have hl1 : (dig B32 1).length ≤ 1000000 := Nat.le_trans (len_u64 (by decide)) (by omega)
  have HA := Lib.hid ha
  have HOF := Lib.hid hof
  have HST0 := Lib.hid hst0
  have HP := Lib.hid hp
  have HM := Lib.hid hmul
  have HLM := Lib.hid hm
  clear ha hof hst0 hp hmul hm
  go_enter Try.func83, Try.ntmps83
  go_wp2_with (fail)
  refine HOF.out.mono ?_
  rintro e w1 ⟨v1, rfl, hv1, hb1⟩
  have k1 : N32 w1 v1 1 := (hv1.limbs (by omega)).is
  clear hl1
  go_wp2_with (fail)
  go_loopw [5, 6] (fun out t wr => ∃ i p V : Nat, i ≤ 41 ∧ t = .int .i64 (p : Int) ∧ p ≤ 1099511627776 ∧ PowSt m n i p V ∧ N32 wr out V ∧ Below w.heap.size w wr) (fun _ t _ => (intOf t).toNat)
  case atStart => exact ⟨41, _, 1, Nat.le_refl _, rfl, Nat.le_refl _, HST0.out, k1, hb1⟩
  case round =>
    clear hb1 hv1 k1
    obtain ⟨i, p, V, hi, rfl, hple, hst, hV, hbl⟩ := hrel
    by_cases h0 : i = 0
    · have hp0 : p = 0 := by rw [hst.wt, if_pos h0]
      have he := hst.eq
      subst h0
      subst hp0
      rw [Nat.pow_zero, Nat.div_one] at he
      have HE := Lib.hid he
      clear he hst
      go_wp2
      go_ret
      have := HE.out
      subst this
      exact ⟨_, rfl, hV, hbl⟩
    · obtain ⟨i, rfl⟩ : ∃ j, i = j + 1 := ⟨i - 1, by omega⟩
      obtain ⟨q, r, hq, hr, hp0, hqn, c0, c1⟩ := hst.next
      have hVl : (dig B32 V).length ≤ 500 := by rw [hst.eq]; exact HP.out _ (Nat.div_le_self _ _)
      have q1 : (n : Int) / (p : Int) = (q : Int) := by rw [← hq]; exact (Int.natCast_ediv _ _).symm
      have q2 : (n : Int).tdiv (p : Int) = (q : Int) := by rw [Int.tdiv_eq_ediv_of_nonneg (by omega)]; exact q1
      have q3 : (q : Int) % 2 = (r : Int) := by omega
      have q4 : (q : Int).tmod 2 = (r : Int) := by rw [Int.tmod_eq_emod_of_nonneg (by omega)]; exact q3
      have q5 : ((p : Int) == 0) = false := by simp; omega
      obtain ⟨p', hp'⟩ : ∃ p', p / 2 = p' := ⟨_, rfl⟩
      have q6 : (p : Int) / 2 = (p' : Int) := by omega
      have q7 : (p : Int).tdiv 2 = (p' : Int) := by rw [Int.tdiv_eq_ediv_of_nonneg (by omega)]; exact q6
      rw [hp'] at c0 c1
      have hlt : p' < p := by omega
      by_cases hr1 : r = 1
      · obtain ⟨e1, e2⟩ := c1 hr1
        have hVV : (dig B32 (V * V)).length ≤ 1000 := prod_len hVl hVl
        have t1 : ((r : Int) == 1) = true := by simp [hr1]
        have HE1 := Lib.hid e1
        have HE2 := Lib.hid e2
        have HV := Lib.hid hVl
        have HVV := Lib.hid hVV
        clear c0 c1 hr1 hq hr e1 e2 hst hVl hVV hp'
        go_wp2_with (fail)
        refine (HM.out _ _ _ _ _ hV hV (by have := HV.out; omega) (by have := HV.out; omega)).mono ?_
        rintro e w2 ⟨v2, rfl, hv2, hb2⟩
        have b2 := below_at hbl (Nat.le_refl _) hb2
        have k2 := (hv2.limbs (by have := HVV.out; omega)).is
        go_wp2_with (fail)
        refine (HM.out _ _ _ _ _ k2 (HA.out.keep b2) HVV.out (by have := HLM.out; omega)).mono ?_
        rintro e w3 ⟨v3, rfl, hv3, hb3⟩
        have b3 := below_at b2 (Nat.le_refl _) hb3
        have k3 : N32 w3 v3 (V * V * m) := (hv3.limbs (by rw [HE1.out]; have := HP.out q hqn; omega)).is
        go_wp2
        go_roundw
        case rel => exact ⟨i, p', _, by omega, rfl, by omega, HE2.out, k3, b3⟩
        case measure => simp [intOf]; omega
      · have hr0 : r = 0 := by omega
        obtain ⟨e1, e2⟩ := c0 hr0
        have t1 : ((r : Int) == 1) = false := by simp [hr0]
        have hVV : (dig B32 (V * V)).length ≤ 1000 := prod_len hVl hVl
        have HE1 := Lib.hid e1
        have HE2 := Lib.hid e2
        have HV := Lib.hid hVl
        have HVV := Lib.hid hVV
        clear c0 c1 hr1 hr0 hq hr e1 e2 hst hVl hVV hp'
        go_wp2_with (fail)
        refine (HM.out _ _ _ _ _ hV hV (by have := HV.out; omega) (by have := HV.out; omega)).mono ?_
        rintro e w2 ⟨v2, rfl, hv2, hb2⟩
        have b2 := below_at hbl (Nat.le_refl _) hb2
        have k2 := (hv2.limbs (by have := HVV.out; omega)).is
        go_wp2
        go_roundw
        case rel => exact ⟨i, p', _, by omega, rfl, by omega, HE2.out, k2, b2⟩
        case measure => simp [intOf]; omega
end Go.Proofs.Ythgekjkgfccnaaa

namespace Go.Proofs.Ythgekjkgfccnaaa
open Go.RowKit Num

set_option maxHeartbeats 1000000 in
set_option maxRecDepth 100000 in
theorem pow_bad (a : Value) (n : Int) (xs : List Nat) (w : World) (ha : Limbs w a xs) (h0 : chk xs ≠ 0) : Calls Try.prog 59 #[a, .int .i64 n] w (NatErr w (chk xs)) := by
  have hc := checkAll_any w.heap.size 1 1 _ _ (nats1 ha) rfl (by omega)
  rw [chkAll1] at hc
  generalize chk xs = r at *
  have hbA := below_new w (.cells #[a] 48)
  have hq : (r != 0) = true := by simp [h0]
  have HC := Lib.hid hc
  have H0 := Lib.hid h0
  obtain ⟨A, c, rfl, _⟩ := ha
  clear hc h0
  generalize xs.length = L at *
  go_enter Try.func59, Try.ntmps59
  go_wp2_with (go_at_call 47; refine HC.out.mono ?_; rintro e w1 ⟨rfl, rfl⟩)
  go_ret2
  exact ⟨rfl, hbA⟩

set_option maxHeartbeats 1000000 in
set_option maxRecDepth 100000 in
theorem pow_arg (a : Value) (m : Nat) (n : Int) (w : World) (ha : N32 w a m) (hl : (dig B32 m).length ≤ 262144) (hn : n < 0) : Calls Try.prog 59 #[a, .int .i64 n] w (NatErr w 1) := by
  have hc := checkAll_any w.heap.size 1 1 _ _ (nats1 (Limbs.num ha (by omega))) rfl (by omega)
  rw [chkAll1, chk_dig hl] at hc
  have hbA := below_new w (.cells #[a] 48)
  have HC := Lib.hid hc
  obtain ⟨A, c, rfl, _⟩ := ha
  clear hc
  generalize (dig B32 m).length = L at *
  go_enter Try.func59, Try.ntmps59
  go_wp2_with (go_at_call 47; refine HC.out.mono ?_; rintro e w1 ⟨rfl, rfl⟩)
  go_ret2
  exact ⟨rfl, hbA⟩

set_option maxHeartbeats 1000000 in
set_option maxRecDepth 100000 in
theorem pow_s (a : Value) (m n : Nat) (w : World) (ha : N32 w a m) (hl : (dig B32 m).length ≤ 262144) (hn : n < 9223372036854775808) (hs : nbits m ≤ 1) (hp : ∀ j, j ≤ n → nbits (m ^ j) ≤ 8388608) : Calls Try.prog 59 #[a, .int .i64 (n : Int)] w (NatOk w (m ^ n)) := by
  have hc := checkAll_any w.heap.size 1 1 _ _ (nats1 (Limbs.num ha (by omega))) rfl (by omega)
  rw [chkAll1, chk_dig hl] at hc
  have hbA := below_new w (.cells #[a] 48)
  have HC := Lib.hid hc
  have hf := fromNat_any a m _ (ha.keep hbA) (by omega)
  have lm := words_le (n := m) (K := 131072) hl
  have hbt := fun v w' (h : W64 w' v m) => bits_call v m w' h (by omega)
  have hpw := fun v w' (h : W64 w' v m) => power_any (mulSpec_all 131072 (by omega)) v m n w' h hn lm (fun j hj => len_of_bits (hp j hj))
  have hft := fun v w' (h : W64 w' v (m ^ n)) => fit_ok v (m ^ n) w' h (hp n (Nat.le_refl _))
  have h2 := len_bits_le (n := m) (k := 131072) lm
  have HF := Lib.hid hf
  have HBT := Lib.hid hbt
  have HPW := Lib.hid hpw
  have HFT := Lib.hid hft
  obtain ⟨A, c, rfl, _⟩ := ha
  clear hc hf hbt hpw hft lm hp hn
  generalize nbits m = r at *
  have hle : r ≤ 1 := hs
  clear hs
  generalize (dig B32 m).length = L at *
  go_enter Try.func59, Try.ntmps59
  go_wp2_with (fail)
  refine (HC.out).mono ?_
  rintro e w1 ⟨rfl, rfl⟩
  go_wp2_with (fail)
  refine (HF.out).mono ?_
  rintro e w2 ⟨v1, rfl, hv1, hb2⟩
  have b2 := below_at hbA (Nat.le_refl _) hb2
  have k1_2 := hv1.is
  go_wp2_with (fail)
  refine (HBT.out _ _ k1_2).mono ?_
  rintro e w3 ⟨rfl, rfl⟩
  go_wp2_with (fail)
  refine (HPW.out _ _ k1_2).mono ?_
  rintro e w4 ⟨v2, rfl, hv2, hb4⟩
  have b4 := below_at b2 (Nat.le_refl _) hb4
  have k1_4 := k1_2.keep hb4
  have k2_4 := hv2.is
  go_wp2_with (fail)
  refine (HFT.out _ _ k2_4).mono ?_
  rintro e w5 ⟨v3, rfl, hv3, hb5⟩
  have b5 := below_at b4 (Nat.le_refl _) hb5
  have k1_5 := k1_4.keep hb5
  have k2_5 := k2_4.keep hb5
  go_wp2
  go_ret2
  exact ⟨_, rfl, hv3.mono b4.size, b5⟩

set_option maxHeartbeats 1000000 in
set_option maxRecDepth 100000 in
theorem pow_b (a : Value) (m n : Nat) (w : World) (ha : N32 w a m) (hl : (dig B32 m).length ≤ 262144) (hn : n < 9223372036854775808) (hs : 1 < nbits m) (hs2 : n ≤ 8388607 / (nbits m - 1)) (hp : ∀ j, j ≤ n → nbits (m ^ j) ≤ 8388608) : Calls Try.prog 59 #[a, .int .i64 (n : Int)] w (NatOk w (m ^ n)) := by
  have hc := checkAll_any w.heap.size 1 1 _ _ (nats1 (Limbs.num ha (by omega))) rfl (by omega)
  rw [chkAll1, chk_dig hl] at hc
  have hbA := below_new w (.cells #[a] 48)
  have HC := Lib.hid hc
  have hf := fromNat_any a m _ (ha.keep hbA) (by omega)
  have lm := words_le (n := m) (K := 131072) hl
  have hbt := fun v w' (h : W64 w' v m) => bits_call v m w' h (by omega)
  have hpw := fun v w' (h : W64 w' v m) => power_any (mulSpec_all 131072 (by omega)) v m n w' h hn lm (fun j hj => len_of_bits (hp j hj))
  have hft := fun v w' (h : W64 w' v (m ^ n)) => fit_ok v (m ^ n) w' h (hp n (Nat.le_refl _))
  have h2 := len_bits_le (n := m) (k := 131072) lm
  have HF := Lib.hid hf
  have HBT := Lib.hid hbt
  have HPW := Lib.hid hpw
  have HFT := Lib.hid hft
  obtain ⟨A, c, rfl, _⟩ := ha
  clear hc hf hbt hpw hft lm hp hn
  generalize nbits m = r at *
  obtain ⟨d, hd⟩ : ∃ d, r = d + 1 := ⟨r - 1, by omega⟩
  subst hd
  obtain ⟨q, hq⟩ : ∃ q, 8388607 / (d + 1 - 1) = q := ⟨_, rfl⟩
  rw [hq] at hs2
  rw [Nat.add_sub_cancel] at hq
  have hd1 : ((d + 1 : Nat) : Int) - 1 = (d : Int) := by omega
  have q1 : (8388607 : Int) / (d : Int) = (q : Int) := by rw [← hq]; exact (Int.natCast_ediv _ _).symm
  have q2 : (8388607 : Int).tdiv (d : Int) = (q : Int) := by rw [Int.tdiv_eq_ediv_of_nonneg (by omega)]; exact q1
  have q3 : ((d : Int) == 0) = false := by simp; omega
  have hqb : q ≤ 8388607 := by rw [← hq]; exact Nat.div_le_self _ _
  clear hq
  generalize (dig B32 m).length = L at *
  go_enter Try.func59, Try.ntmps59
  go_wp2_with (fail)
  refine (HC.out).mono ?_
  rintro e w1 ⟨rfl, rfl⟩
  go_wp2_with (fail)
  refine (HF.out).mono ?_
  rintro e w2 ⟨v1, rfl, hv1, hb2⟩
  have b2 := below_at hbA (Nat.le_refl _) hb2
  have k1_2 := hv1.is
  go_wp2_with (fail)
  refine (HBT.out _ _ k1_2).mono ?_
  rintro e w3 ⟨rfl, rfl⟩
  go_wp2_with (fail)
  refine (HPW.out _ _ k1_2).mono ?_
  rintro e w4 ⟨v2, rfl, hv2, hb4⟩
  have b4 := below_at b2 (Nat.le_refl _) hb4
  have k1_4 := k1_2.keep hb4
  have k2_4 := hv2.is
  go_wp2_with (fail)
  refine (HFT.out _ _ k2_4).mono ?_
  rintro e w5 ⟨v3, rfl, hv3, hb5⟩
  have b5 := below_at b4 (Nat.le_refl _) hb5
  have k1_5 := k1_4.keep hb5
  have k2_5 := k2_4.keep hb5
  go_wp2
  go_ret2
  exact ⟨_, rfl, hv3.mono b4.size, b5⟩

theorem nbits_pow_le (m j : Nat) : nbits (m ^ j) ≤ j * nbits m + 1 := by
  refine nbits_le ?_
  have h1 : m ^ j ≤ (2 ^ nbits m) ^ j := Nat.pow_le_pow_left (Nat.le_of_lt (nbits_lt m)) j
  rw [← Nat.pow_mul, Nat.mul_comm] at h1
  exact Nat.lt_of_le_of_lt h1 (Nat.pow_lt_pow_right (by omega) (by omega))
/-- Powers that stay short. -/
theorem pow_ok (a : Value) (m n : Nat) (w : World) (ha : N32 w a m) (hl : (dig B32 m).length ≤ 262144) (hn : n ≤ 1000) (hb : nbits m ≤ 8000) : Calls Try.prog 59 #[a, .int .i64 (n : Int)] w (NatOk w (m ^ n)) := by
  have hp : ∀ j, j ≤ n → nbits (m ^ j) ≤ 8388608 := fun j hj => Nat.le_trans (nbits_pow_le m j) (by have := Nat.mul_le_mul (Nat.le_trans hj hn) hb; omega)
  rcases Nat.lt_or_ge 1 (nbits m) with h | h
  · refine pow_b a m n w ha hl (by omega) h ?_ hp
    refine (Nat.le_div_iff_mul_le (by omega)).2 ?_
    have := Nat.mul_le_mul hn (show nbits m - 1 ≤ 8000 by omega)
    omega
  · exact pow_s a m n w ha hl (by omega) h hp
theorem len32_of_bits {n k : Nat} (h : nbits n ≤ 32 * k) : (dig B32 n).length ≤ k := dig_len_le b32_two (by
  have e : B32 ^ k = 2 ^ (32 * k) := by rw [Nat.pow_mul]; rfl
  rw [e]; exact lt_of_nbits h)
/-- Powers of 0 and of 1. -/
theorem pow_01 (a : Value) (m n : Nat) (w : World) (ha : N32 w a m) (hm : m ≤ 1) (h0 : 0 < n) (hn : n < 9223372036854775808) : Calls Try.prog 59 #[a, .int .i64 (n : Int)] w (NatOk w m) := by
  have e : ∀ j, 0 < j → m ^ j = m := fun j hj => by
    rcases Nat.eq_zero_or_pos m with h | h
    · subst h; exact Nat.zero_pow hj
    · obtain rfl : m = 1 := by omega
      exact Nat.one_pow j
  have hb : nbits m ≤ 1 := nbits_le (by omega)
  have := pow_s a m n w ha (Nat.le_trans (small32 (k := m) (by unfold B32; omega)) (by omega)) hn hb (fun j _ => by
    rcases Nat.eq_zero_or_pos j with hj | hj
    · subst hj; exact Nat.le_trans (nbits_le (k := 1) (by rw [Nat.pow_zero]; omega)) (by omega)
    · rw [e j hj]; omega)
  rw [e n h0] at this
  exact this

end Go.Proofs.Ythgekjkgfccnaaa

/- Plain laws of roots: Newton's step from above. -/
namespace Go.Proofs.Num

/-- r is the integer part of the nth root of a. -/
def IsRoot (n a r : Nat) : Prop := r ^ n ≤ a ∧ a < (r + 1) ^ n

theorem pow_lt_iff {n x y : Nat} (h : x ^ n < y ^ n) : x < y := by
  rcases Nat.lt_or_ge x y with h1 | h1
  · exact h1
  · have := Nat.pow_le_pow_left h1 n; omega
theorem IsRoot.unique {n a r s : Nat} (h : IsRoot n a r) (k : IsRoot n a s) : r = s := by
  have h1 := pow_lt_iff (Nat.lt_of_le_of_lt h.1 k.2)
  have h2 := pow_lt_iff (Nat.lt_of_le_of_lt k.1 h.2)
  omega
theorem root_exists (n a : Nat) (hn : 0 < n) : ∃ r, IsRoot n a r := by
  induction a with
  | zero => exact ⟨0, by simp [IsRoot, Nat.zero_pow hn]⟩
  | succ a ih =>
    obtain ⟨r, h1, h2⟩ := ih
    by_cases h : a + 1 < (r + 1) ^ n
    · exact ⟨r, by omega, h⟩
    · refine ⟨r + 1, by omega, ?_⟩
      have : (r + 1) ^ n < (r + 1 + 1) ^ n := Nat.pow_lt_pow_left (by omega) (by omega)
      omega
/-- The root of the high part is the high part of the root. -/
theorem IsRoot.high {n a r : Nat} (h : IsRoot n a r) (l : Nat) : IsRoot n (a / 2 ^ (n * l)) (r / 2 ^ l) := by
  have hp : 0 < 2 ^ l := Nat.two_pow_pos l
  have e : 2 ^ (n * l) = (2 ^ l) ^ n := by rw [← Nat.pow_mul, Nat.mul_comm]
  have hq : 0 < (2 ^ l) ^ n := Nat.pow_pos hp
  rw [e]
  generalize 2 ^ l = P at *
  constructor
  · rw [Nat.le_div_iff_mul_le hq, ← Nat.mul_pow]
    exact Nat.le_trans (Nat.pow_le_pow_left (Nat.div_mul_le_self r P) n) h.1
  · rw [Nat.div_lt_iff_lt_mul hq, ← Nat.mul_pow]
    have h1 := Nat.lt_div_mul_add (a := r) hp
    refine Nat.lt_of_lt_of_le h.2 (Nat.pow_le_pow_left ?_ n)
    rw [Nat.add_mul, Nat.one_mul]
    omega

/-- The step does not go below the root. -/
theorem tangent {R x : Nat} (h : R ≤ x) (n : Nat) : (n + 1) * R * x ^ n ≤ R ^ (n + 1) + n * x ^ (n + 1) := by
  induction n with
  | zero => simp
  | succ n ih =>
    have h1 := Nat.mul_le_mul_right x ih
    have h2 : R ^ (n + 1) * x + R * x ^ (n + 1) ≤ R ^ (n + 1) * R + x ^ (n + 1) * x := by
      have hp : R ^ (n + 1) ≤ x ^ (n + 1) := Nat.pow_le_pow_left h _
      obtain ⟨d, rfl⟩ : ∃ d, x = R + d := ⟨x - R, by omega⟩
      generalize (R + d) ^ (n + 1) = X at *
      generalize R ^ (n + 1) = Y at *
      have := Nat.mul_le_mul_right d hp
      rw [Nat.mul_add, Nat.mul_add, Nat.mul_comm R X]
      omega
    have e1 : (n + 1) * R * x ^ n * x = (n + 1) * (R * x ^ (n + 1)) := by rw [Nat.pow_succ]; grind
    have e2 : (R ^ (n + 1) + n * x ^ (n + 1)) * x = R ^ (n + 1) * x + n * (x ^ (n + 1) * x) := by grind
    have e3 : (n + 1 + 1) * R * x ^ (n + 1) = (n + 1) * (R * x ^ (n + 1)) + R * x ^ (n + 1) := by grind
    have e4 : R ^ (n + 1 + 1) + (n + 1) * x ^ (n + 1 + 1) = R ^ (n + 1) * R + (n * (x ^ (n + 1) * x) + x ^ (n + 1) * x) := by rw [Nat.pow_succ R, Nat.pow_succ x]; grind
    rw [e1, e2] at h1
    rw [e3, e4]
    omega
theorem newton_ge {a n R x : Nat} (h : R ^ (n + 1) ≤ a) (hx : R ≤ x) (hx0 : 0 < x) : R ≤ (n * x + a / x ^ n) / (n + 1) := by
  rw [Nat.le_div_iff_mul_le (by omega)]
  have hp : 0 < x ^ n := Nat.pow_pos hx0
  have t := tangent hx n
  have e : n * x ^ (n + 1) = n * x * x ^ n := by rw [Nat.pow_succ]; grind
  rw [e] at t
  rcases Nat.lt_or_ge (n * x) (R * (n + 1)) with h1 | h1
  · obtain ⟨d, hd⟩ : ∃ d, R * (n + 1) = n * x + d := ⟨R * (n + 1) - n * x, by omega⟩
    have h2 : d ≤ a / x ^ n := by
      rw [Nat.le_div_iff_mul_le hp]
      have e2 : (n + 1) * R * x ^ n = n * x * x ^ n + d * x ^ n := by rw [Nat.mul_comm (n + 1), hd, Nat.add_mul]
      rw [e2, Nat.add_comm (R ^ (n + 1))] at t
      exact Nat.le_trans (Nat.le_of_add_le_add_left t) h
    rw [hd]
    exact Nat.add_le_add_left h2 _
  · exact Nat.le_trans h1 (Nat.le_add_right _ _)

/-- Three terms of the binomial. -/
theorem binom3 (S y m : Nat) : S ^ m * (2 * S * S + 2 * m * S * y + m * (m - 1) * y * y) ≤ 2 * S * S * (S + y) ^ m := by
  induction m with
  | zero => simp
  | succ m ih =>
    have h1 := Nat.mul_le_mul_right (S + y) ih
    have e1 : 2 * S * S * (S + y) ^ m * (S + y) = 2 * S * S * (S + y) ^ (m + 1) := by rw [Nat.pow_succ]; grind
    rw [e1] at h1
    refine Nat.le_trans ?_ h1
    have e2 : (m + 1) * (m + 1 - 1) = m * (m - 1) + 2 * m := by
      cases m with
      | zero => rfl
      | succ k => simp only [Nat.add_sub_cancel]; grind
    rw [e2]
    generalize m * (m - 1) = c at *
    rw [Nat.pow_succ, Nat.mul_assoc (S ^ m), Nat.mul_assoc (S ^ m)]
    refine Nat.mul_le_mul_left _ ?_
    have e3 : (2 * S * S + 2 * m * S * y + c * y * y) * (S + y) = S * (2 * S * S + 2 * (m + 1) * S * y + (c + 2 * m) * y * y) + c * y * y * y := by grind
    rw [e3]
    exact Nat.le_add_right _ _
theorem newton_key {S y m : Nat} (hS : 0 < S) (h : m * (y * y) ≤ 2 * S) : m * y ≤ S + m ∧ S ^ (m + 1) ≤ (S + m + 1 - m * y) * (S + y) ^ m := by
  have hmy : m * y ≤ S + m := by
    rcases Nat.lt_or_ge y 2 with h1 | h1
    · have : m * y ≤ m * 1 := Nat.mul_le_mul_left _ (by omega); omega
    · have h2 : m * (2 * y) ≤ m * (y * y) := Nat.mul_le_mul_left _ (Nat.mul_le_mul_right _ h1)
      have e : m * (2 * y) = 2 * (m * y) := by grind
      omega
  refine ⟨hmy, ?_⟩
  obtain ⟨F, hF⟩ : ∃ F, S + m + 1 = F + m * y := ⟨S + m + 1 - m * y, by omega⟩
  rw [hF, Nat.add_sub_cancel]
  have hb := binom3 S y m
  obtain ⟨A, hA⟩ : ∃ A, 2 * S * S + 2 * m * S * y + m * (m - 1) * y * y = A := ⟨_, rfl⟩
  rw [hA] at hb
  have key : 2 * S * S * S ≤ F * A := by
    cases m with
    | zero =>
      simp at hA hF
      rw [← hA, ← hF]
      have : 2 * S * S * S ≤ (S + 1) * (2 * S * S) := by rw [Nat.add_mul, Nat.mul_comm S]; omega
      omega
    | succ k =>
      simp only [Nat.add_sub_cancel] at hA
      have g1 : (k + 1) * (y * y) * ((k + 2) * S) ≤ 2 * S * ((k + 2) * S) := Nat.mul_le_mul_right _ h
      have g2 : (k + 1) * (y * y) * ((k + 1) * k * y) ≤ 2 * S * ((k + 1) * k * y) := Nat.mul_le_mul_right _ h
      have e1 : (S + (k + 1) + 1) * A = (F + (k + 1) * y) * A := by rw [hF]
      have e2 : (S + (k + 1) + 1) * A = 2 * S * S * S + (k + 1) * y * A + (2 * S * ((k + 2) * S) + 2 * (k + 1) * (k + 2) * S * y + (k + 1) * k * (k + 2) * y * y) - ((k + 1) * (y * y) * ((k + 2) * S) + (k + 1) * (y * y) * ((k + 1) * k * y)) := by
        have : (S + (k + 1) + 1) * A + ((k + 1) * (y * y) * ((k + 2) * S) + (k + 1) * (y * y) * ((k + 1) * k * y)) = 2 * S * S * S + (k + 1) * y * A + (2 * S * ((k + 2) * S) + 2 * (k + 1) * (k + 2) * S * y + (k + 1) * k * (k + 2) * y * y) := by rw [← hA]; grind
        omega
      have g3 : 2 * S * ((k + 1) * k * y) ≤ 2 * (k + 1) * (k + 2) * S * y := by
        have e : 2 * S * ((k + 1) * k * y) = 2 * (k + 1) * k * S * y := by grind
        rw [e]
        exact Nat.mul_le_mul_right _ (Nat.mul_le_mul_right _ (Nat.mul_le_mul_left _ (by omega)))
      rw [Nat.add_mul F] at e1
      omega
  have h3 : S ^ m * (2 * S * S * S) ≤ F * (2 * S * S * (S + y) ^ m) := by
    have a1 := Nat.mul_le_mul_left (S ^ m) key
    have a2 := Nat.mul_le_mul_left F hb
    have e : S ^ m * (F * A) = F * (S ^ m * A) := by grind
    omega
  have e1 : S ^ m * (2 * S * S * S) = 2 * S * S * S ^ (m + 1) := by rw [Nat.pow_succ]; grind
  have e2 : F * (2 * S * S * (S + y) ^ m) = 2 * S * S * (F * (S + y) ^ m) := by grind
  rw [e1, e2] at h3
  exact Nat.le_of_mul_le_mul_left h3 (Nat.mul_pos (Nat.mul_pos (by omega) hS) hS)
/-- The step from near above goes at most one above. -/
theorem newton_le {a n R x : Nat} (h : a < (R + 1) ^ (n + 1)) (hx : R < x) (hy : n * ((x - (R + 1)) * (x - (R + 1))) ≤ 2 * (R + 1)) : (n * x + a / x ^ n) / (n + 1) ≤ R + 1 := by
  obtain ⟨y, rfl⟩ : ∃ y, x = R + 1 + y := ⟨x - (R + 1), by omega⟩
  rw [Nat.add_sub_cancel_left] at hy
  obtain ⟨k1, k2⟩ := newton_key (S := R + 1) (by omega) hy
  generalize R + 1 = S at *
  have hp : 0 < (S + y) ^ n := Nat.pow_pos (by omega)
  have h2 : a / (S + y) ^ n < S + n + 1 - n * y := Nat.div_lt_of_lt_mul (by rw [Nat.mul_comm]; omega)
  have h3 : n * (S + y) + a / (S + y) ^ n < (S + 1) * (n + 1) := by
    rw [Nat.mul_add]
    have : (S + 1) * (n + 1) = n * S + S + n + 1 := by grind
    omega
  have := (Nat.div_lt_iff_lt_mul (show 0 < n + 1 by omega)).2 h3
  omega
end Go.Proofs.Num

/- Plain laws of division by digits: no program, no memory. -/
namespace Go.Proofs.Num

/-- One digit of a quotient by halves of words: q is not too small, q and rest make the upper part. -/
structure DigSt (K y1 y0 U u q r : Nat) : Prop where
  eq : q * y1 + r = U
  up : U * K + u < (q + 1) * (y1 * K + y0)
  rl : r < K
  ql : q ≤ K + 1

theorem DigSt.start {K y1 y0 U u : Nat} (hy : K ≤ 2 * y1) (hy1 : y1 < K) (hy0 : y0 < K) (hU : U < y1 * K + y0) (hu : u < K) : DigSt K y1 y0 U u (U / y1) (U % y1) := by
  have hp : 0 < y1 := by omega
  have h1 := Nat.div_add_mod U y1
  have h2 := Nat.mod_lt U hp
  generalize U / y1 = q at *
  generalize U % y1 = r at *
  refine ⟨by rw [Nat.mul_comm]; exact h1, ?_, by omega, ?_⟩
  · have h3 : U + 1 ≤ (q + 1) * y1 := by rw [Nat.add_mul, Nat.mul_comm q]; omega
    have h4 : (U + 1) * K ≤ (q + 1) * y1 * K := Nat.mul_le_mul_right _ h3
    rw [Nat.add_mul] at h4
    have h5 : (q + 1) * (y1 * K + y0) = (q + 1) * y1 * K + (q + 1) * y0 := by rw [Nat.mul_add, Nat.mul_assoc]
    omega
  · rcases Nat.lt_or_ge (K + 1) q with h | h
    · exfalso
      have h3 : (K + 2) * y1 ≤ q * y1 := Nat.mul_le_mul_right _ h
      rw [Nat.add_mul, Nat.mul_comm K] at h3
      rw [Nat.mul_comm] at h1
      omega
    · exact h

/-- The test of a digit that is below the base. -/
theorem DigSt.test {K y1 y0 U u q r : Nat} (h : DigSt K y1 y0 U u q r) : r * K + u < q * y0 ↔ U * K + u < q * (y1 * K + y0) := by
  have e : q * (y1 * K + y0) = q * y1 * K + q * y0 := by rw [Nat.mul_add, Nat.mul_assoc]
  have e2 : U * K = q * y1 * K + r * K := by rw [← h.eq, Nat.add_mul]
  omega
theorem DigSt.pos {K y1 y0 U u q : Nat} (h : U * K + u < q * (y1 * K + y0)) : 0 < q := by
  rcases Nat.eq_zero_or_pos q with h0 | h0
  · subst h0; simp at h
  · exact h0
/-- A digit that is not below the base is too great. -/
theorem DigSt.big {K y1 y0 U u q : Nat} (hU : U < y1 * K + y0) (hu : u < K) (hq : K ≤ q) : U * K + u < q * (y1 * K + y0) := by
  have h1 : (U + 1) * K ≤ (y1 * K + y0) * K := Nat.mul_le_mul_right _ hU
  have h2 : K * (y1 * K + y0) ≤ q * (y1 * K + y0) := Nat.mul_le_mul_right _ hq
  rw [Nat.add_mul] at h1
  rw [Nat.mul_comm] at h2
  omega
/-- One less, while the rest stays below the base. -/
theorem DigSt.step {K y1 y0 U u q r : Nat} (h : DigSt K y1 y0 U u q r) (hc : U * K + u < q * (y1 * K + y0)) (hr : r + y1 < K) : DigSt K y1 y0 U u (q - 1) (r + y1) := by
  have h0 := DigSt.pos hc
  obtain ⟨p, rfl⟩ : ∃ p, q = p + 1 := ⟨q - 1, by omega⟩
  have h1 := h.eq
  have h2 := h.ql
  refine ⟨?_, by simpa using hc, hr, by omega⟩
  rw [Nat.add_mul] at h1
  simp only [Nat.add_sub_cancel]
  omega
/-- The digit, its product with the divisor, and what is left. -/
def IsDig (Y A q : Nat) : Prop := q * Y ≤ A ∧ A < q * Y + Y
theorem IsDig.div {Y A q : Nat} (h : IsDig Y A q) : A / Y = q ∧ A % Y = A - q * Y := by
  obtain ⟨h1, h2⟩ := h
  have hY : 0 < Y := by omega
  obtain ⟨r, rfl⟩ : ∃ r, A = q * Y + r := ⟨A - q * Y, by omega⟩
  have hr : r < Y := by omega
  rw [Nat.mul_comm q Y, Nat.mul_add_div hY, Nat.div_eq_of_lt hr, Nat.mul_add_mod, Nat.mod_eq_of_lt hr]
  omega
theorem DigSt.good {K y1 y0 U u q r : Nat} (h : DigSt K y1 y0 U u q r) (hc : ¬ U * K + u < q * (y1 * K + y0)) : IsDig (y1 * K + y0) (U * K + u) q := by
  have := h.up
  rw [Nat.add_mul, Nat.one_mul] at this
  exact ⟨by omega, this⟩
/-- .. or until the rest leaves the base: then the digit is right. -/
theorem DigSt.leave {K y1 y0 U u q r : Nat} (h : DigSt K y1 y0 U u q r) (hc : U * K + u < q * (y1 * K + y0)) (hy0 : y0 < K) (hr : K ≤ r + y1) : IsDig (y1 * K + y0) (U * K + u) (q - 1) := by
  have h0 := DigSt.pos hc
  obtain ⟨p, rfl⟩ : ∃ p, q = p + 1 := ⟨q - 1, by omega⟩
  have h1 := h.eq
  have h2 := h.ql
  simp only [Nat.add_sub_cancel]
  rw [Nat.add_mul] at h1
  refine ⟨?_, by rw [Nat.add_mul, Nat.one_mul] at hc; exact hc⟩
  have e : p * (y1 * K + y0) = p * y1 * K + p * y0 := by rw [Nat.mul_add, Nat.mul_assoc]
  have e2 : U * K = p * y1 * K + (r + y1) * K := by rw [← Nat.add_mul]; congr 1; omega
  have e3 : K * K ≤ (r + y1) * K := Nat.mul_le_mul_right _ hr
  have e4 : p * y0 ≤ K * K := Nat.mul_le_mul (by omega) (by omega)
  omega

/-- Two digits make the quotient. -/
theorem two_digs {K Y U u1 u0 q1 q0 R1 : Nat} (h1 : IsDig Y (U * K + u1) q1) (hR : R1 = U * K + u1 - q1 * Y) (h0 : IsDig Y (R1 * K + u0) q0) :
    IsDig Y ((U * K + u1) * K + u0) (q1 * K + q0) ∧ (U * K + u1) * K + u0 - (q1 * K + q0) * Y = R1 * K + u0 - q0 * Y := by
  obtain ⟨a1, a2⟩ := h1
  obtain ⟨b1, b2⟩ := h0
  have e : (q1 * K + q0) * Y = q1 * Y * K + q0 * Y := by rw [Nat.add_mul, Nat.mul_right_comm]
  have e2 : (U * K + u1) * K = R1 * K + q1 * Y * K := by rw [← Nat.add_mul]; congr 1; omega
  refine ⟨⟨?_, ?_⟩, ?_⟩ <;> omega

/-- Estimate of a digit by the first two words of the divisor: right, or one too great. -/
theorem est_le {D2 T3 E rest restb Bn A q d : Nat} (hA : A = T3 * E + rest) (hb : Bn = D2 * E + restb) (hr : rest < E) (hq : q * Bn ≤ A) (hd : T3 < (d + 1) * D2) : q ≤ d := by
  rcases Nat.lt_or_ge d q with h | h
  · exfalso
    have h1 : (d + 1) * Bn ≤ q * Bn := Nat.mul_le_mul_right _ h
    have h2 : (d + 1) * Bn = (d + 1) * D2 * E + (d + 1) * restb := by rw [hb, Nat.mul_add, Nat.mul_assoc]
    have h3 : (T3 + 1) * E ≤ (d + 1) * D2 * E := Nat.mul_le_mul_right _ hd
    rw [Nat.add_mul] at h3
    omega
  · exact h
theorem est_ge {D2 T3 E rest restb Bn A q d : Nat} (hA : A = T3 * E + rest) (hb : Bn = D2 * E + restb) (hrb : restb < E) (hq : A < q * Bn + Bn) (hd : d * D2 ≤ T3) (hle : d ≤ D2) : d ≤ q + 1 := by
  rcases Nat.lt_or_ge (q + 1) d with h | h
  · exfalso
    obtain ⟨c, rfl⟩ : ∃ c, d = c + 1 := ⟨d - 1, by omega⟩
    have h1 : (q + 1) * Bn ≤ c * Bn := Nat.mul_le_mul_right _ (by omega)
    rw [Nat.add_mul, Nat.one_mul] at h1
    have h2 : c * Bn ≤ c * ((D2 + 1) * E) := Nat.mul_le_mul_left _ (by rw [hb, Nat.add_mul]; omega)
    have h3 : c * ((D2 + 1) * E) ≤ T3 * E := by
      rw [← Nat.mul_assoc]
      refine Nat.mul_le_mul_right _ ?_
      rw [Nat.mul_add, Nat.mul_one]
      rw [Nat.add_mul, Nat.one_mul] at hd
      omega
    omega
  · exact h
/-- .. also where the first words are equal. -/
theorem est_top {B b1 E A Bn q : Nat} (hA : b1 * B * E ≤ A) (hb : Bn < (b1 + 1) * E) (hh : B ≤ 2 * b1) (hq : A < q * Bn + Bn) (hqB : q < B) : q ≤ B - 1 ∧ B - 1 ≤ q + 1 := by
  refine ⟨by omega, ?_⟩
  rcases Nat.lt_or_ge (q + 1) (B - 1) with h | h
  · exfalso
    obtain ⟨c, rfl⟩ : ∃ c, B = c + 2 := ⟨B - 2, by omega⟩
    have h1 : (q + 1) * Bn ≤ c * Bn := Nat.mul_le_mul_right _ (by omega)
    rw [Nat.add_mul, Nat.one_mul] at h1
    have h2 : c * Bn ≤ c * ((b1 + 1) * E) := Nat.mul_le_mul_left _ (by omega)
    have h3 : c * ((b1 + 1) * E) ≤ b1 * (c + 2) * E := by
      rw [← Nat.mul_assoc]
      refine Nat.mul_le_mul_right _ ?_
      rw [Nat.mul_add, Nat.mul_add, Nat.mul_one, Nat.mul_comm c b1]
      omega
    omega
  · exact h

end Go.Proofs.Num

namespace Go.Proofs.Ythgekjkgfccnaaa
open Go.RowKit Num

set_option maxHeartbeats 1000000 in
theorem lz_any (y : Nat) (hy : y < B64) (w : World) : Calls Try.prog 70 #[.int .u64 (y : Int)] w fun e w' => e = .returned (.int .i64 ((64 - nbits y : Nat) : Int)) ∧ w = w' := by
  have hl := fun w => len64_nat y w hy
  have hb := nbits_64 hy
  have e1 : (64 : Int) - (nbits y : Int) = ((64 - nbits y : Nat) : Int) := by omega
  have E1 := Lib.hid e1
  have HL := Lib.hid hl
  clear e1 hl
  generalize 64 - nbits y = s at *
  generalize nbits y = r at *
  go_enter Try.func70, Try.ntmps70
  go_wp2_with (go_at_call 91; refine (HL.out _).mono ?_; rintro e w1 ⟨rfl, rfl⟩)
  go_ret
  exact ⟨ret_i E1.out, rfl⟩

/-- What Div64 makes of its arguments before it divides: under names, as the walk shows them. -/
theorem pre_ex (hi lo y s : Nat) (hhi : hi < y) (hlo : lo < B64) (hs : s < 64) (hyn : B64 ≤ 2 * (y * 2 ^ s)) (hyn2 : y * 2 ^ s < B64) : ∃ Y y1 y0 h l1 U l0 u1 u0 : Nat,
    IntKind.u64.wrap ((y : Int) * 2 ^ s) = (Y : Int) ∧ (Y : Int) / 4294967296 = (y1 : Int) ∧ bits .and .u64 (Y : Int) 4294967295 = (y0 : Int) ∧
    IntKind.u64.wrap ((hi : Int) * 2 ^ s) = (h : Int) ∧ (lo : Int) / 2 ^ (64 - s) = (l1 : Int) ∧ bits .or .u64 (h : Int) (l1 : Int) = (U : Int) ∧
    IntKind.u64.wrap ((lo : Int) * 2 ^ s) = (l0 : Int) ∧ (l0 : Int) / 4294967296 = (u1 : Int) ∧ bits .and .u64 (l0 : Int) 4294967295 = (u0 : Int) ∧
    Y = y * 2 ^ s ∧ Y = y1 * 4294967296 + y0 ∧ y1 < 4294967296 ∧ y0 < 4294967296 ∧ 4294967296 ≤ 2 * y1 ∧ U < Y ∧ u1 < 4294967296 ∧ u0 < 4294967296 ∧
    (U * 4294967296 + u1) * 4294967296 + u0 = (hi * B64 + lo) * 2 ^ s := by
  have hw : ∀ v : Nat, v * 2 ^ s < B64 → IntKind.u64.wrap ((v : Int) * 2 ^ s) = ((v * 2 ^ s : Nat) : Int) := fun v hv => by
    have e : (v : Int) * 2 ^ s = ((v * 2 ^ s : Nat) : Int) := by rw [Int.natCast_mul, Int.natCast_pow]; rfl
    rw [e, IntKind.wrap_u64]; unfold B64 at hv; omega
  have hh : hi * 2 ^ s < y * 2 ^ s := Nat.mul_lt_mul_of_pos_right hhi (Nat.two_pow_pos s)
  have hl1 : lo / 2 ^ (64 - s) < 2 ^ s := by
    rw [Nat.div_lt_iff_lt_mul (Nat.two_pow_pos _), ← Nat.pow_add, show s + (64 - s) = 64 by omega]
    exact hlo
  have hor : bits .or .u64 ((hi * 2 ^ s : Nat) : Int) ((lo / 2 ^ (64 - s) : Nat) : Int) = ((hi * 2 ^ s + lo / 2 ^ (64 - s) : Nat) : Int) := by
    have h63 : 2 ^ s ≤ 2 ^ 63 := Nat.pow_le_pow_right (by omega) (by omega)
    rw [bits_or_u64_nat _ _ (by unfold B64 at *; omega) (by omega), Nat.mul_comm hi, ← Nat.two_pow_add_eq_or_of_lt hl1]
  have hl0 : IntKind.u64.wrap ((lo : Int) * 2 ^ s) = ((lo * 2 ^ s % 18446744073709551616 : Nat) : Int) := by
    rw [IntKind.wrap_u64, Int.natCast_emod, Int.natCast_mul, Int.natCast_pow]; rfl
  have hdm := Nat.div_add_mod (lo * 2 ^ s) 18446744073709551616
  rw [shl_div lo s hs] at hdm
  have hdl : (lo : Int) / 2 ^ (64 - s) = ((lo / 2 ^ (64 - s) : Nat) : Int) := by push_cast; rfl
  have hU : hi * 2 ^ s + lo / 2 ^ (64 - s) < y * 2 ^ s := by
    have h1 : (hi + 1) * 2 ^ s ≤ y * 2 ^ s := Nat.mul_le_mul_right _ hhi
    rw [Nat.add_mul] at h1; omega
  have hmul : (hi * B64 + lo) * 2 ^ s = hi * 2 ^ s * B64 + lo * 2 ^ s := by rw [Nat.add_mul, Nat.mul_right_comm]
  have hY := hw y hyn2
  have hH := hw hi (by omega)
  have hm1 := m_mask (y * 2 ^ s) hyn2
  have hm2 := m_mask (lo * 2 ^ s % 18446744073709551616) (Nat.mod_lt _ (by omega))
  have hd1 := m_div (y * 2 ^ s)
  have hd2 := m_div (lo * 2 ^ s % 18446744073709551616)
  have hml : lo * 2 ^ s % 18446744073709551616 < 18446744073709551616 := Nat.mod_lt _ (by omega)
  refine ⟨_, _, _, _, _, _, _, _, _, hY, hd1, hm1, hH, hdl, hor, hl0, hd2, hm2, rfl, ?_, ?_, Nat.mod_lt _ (by omega), ?_, hU, ?_, Nat.mod_lt _ (by omega), ?_⟩
  all_goals clear hY hH hm1 hm2 hd1 hd2 hor hl0 hdl hw
  · omega
  · unfold B64 at hyn2; omega
  · unfold B64 at hyn; omega
  · omega
  · rw [hmul, ← hdm]; unfold B64; omega

/-- One digit is found: what is left, as the walk shows it. -/
theorem left_ex {U u q Y : Nat} (h : IsDig Y (U * 4294967296 + u) q) (hY : Y < B64) : ∃ a1 a2 a3 R : Nat, IntKind.u64.wrap ((U : Int) * 4294967296) = (a1 : Int) ∧ IntKind.u64.wrap ((a1 : Int) + (u : Int)) = (a2 : Int) ∧
    IntKind.u64.wrap ((q : Int) * (Y : Int)) = (a3 : Int) ∧ IntKind.u64.wrap ((a2 : Int) - (a3 : Int)) = (R : Int) ∧ R = U * 4294967296 + u - q * Y ∧ R < Y := by
  obtain ⟨h1, h2⟩ := h
  have hm := m_mul q Y
  generalize q * Y = Z at *
  unfold B64 at hY
  refine ⟨U * 4294967296 % 18446744073709551616, (U * 4294967296 + u) % 18446744073709551616, Z % 18446744073709551616, U * 4294967296 + u - Z, ?_, ?_, ?_, ?_, rfl, by omega⟩
  · rw [IntKind.wrap_u64]; omega
  · rw [IntKind.wrap_u64]; omega
  · rw [hm, IntKind.wrap_u64]; omega
  · rw [IntKind.wrap_u64]; omega

/-- The first guess of a digit. -/
theorem guess_ex (U y1 : Nat) (hU : U < B64) (hy : 0 < y1) : ∃ q r p : Nat, (U : Int) / (y1 : Int) = (q : Int) ∧ (U : Int).tdiv (y1 : Int) = (q : Int) ∧ IntKind.u64.wrap ((q : Int) * (y1 : Int)) = (p : Int) ∧ IntKind.u64.wrap ((U : Int) - (p : Int)) = (r : Int) ∧ IntKind.u64.wrap (q : Int) = (q : Int) ∧ q = U / y1 ∧ r = U % y1 ∧ ((y1 : Int) == 0) = false := by
  have h1 := Nat.div_add_mod U y1
  have hq : (U : Int) / (y1 : Int) = ((U / y1 : Nat) : Int) := (Int.natCast_ediv _ _).symm
  have hm := m_mul (U / y1) y1
  rw [Nat.mul_comm] at hm
  have hle := Nat.div_le_self U y1
  refine ⟨U / y1, U % y1, y1 * (U / y1), hq, ?_, ?_, ?_, ?_, rfl, rfl, by simp; omega⟩
  · rw [Int.tdiv_eq_ediv_of_nonneg (by omega)]; exact hq
  · rw [hm, IntKind.wrap_u64]; generalize y1 * (U / y1) = z at *; unfold B64 at hU; omega
  · clear hm hq; generalize y1 * (U / y1) = z at *; rw [IntKind.wrap_u64]; unfold B64 at hU; omega
  · clear hm hq h1; generalize U / y1 = z at *; rw [IntKind.wrap_u64]; unfold B64 at hU; omega

/-- The test of a digit that is below the base, as the walk shows it. -/
theorem test_ex (q y0 r u : Nat) (hq : q < 4294967296) (hy : y0 < 4294967296) (hr : r < 4294967296) (hu : u < 4294967296) : ∃ z1 z2 z3 : Nat,
    IntKind.u64.wrap ((q : Int) * (y0 : Int)) = (z1 : Int) ∧ IntKind.u64.wrap (4294967296 * (r : Int)) = (z2 : Int) ∧ IntKind.u64.wrap ((z2 : Int) + (u : Int)) = (z3 : Int) ∧ (z3 < z1 ↔ r * 4294967296 + u < q * y0) := by
  have h := Lib.half_mul_le (a := q) (b := y0) (by omega) (by omega)
  have hm := m_mul q y0
  generalize q * y0 = z at *
  refine ⟨z, r * 4294967296, r * 4294967296 + u, ?_, ?_, ?_, Iff.rfl⟩
  · rw [hm, IntKind.wrap_u64]; omega
  · rw [IntKind.wrap_u64]; omega
  · rw [IntKind.wrap_u64]; omega
theorem down_ex (q r y1 : Nat) (h0 : 0 < q) (hq : q ≤ 4294967297) (hr : r < 4294967296) (hy : y1 < 4294967296) : ∃ q' r' : Nat, IntKind.u64.wrap ((q : Int) - 1) = (q' : Int) ∧ IntKind.u64.wrap ((r : Int) + (y1 : Int)) = (r' : Int) ∧ q' = q - 1 ∧ r' = r + y1 := by
  refine ⟨q - 1, r + y1, ?_, ?_, rfl, rfl⟩
  · rw [IntKind.wrap_u64]; omega
  · rw [IntKind.wrap_u64]; omega
theorem fin_ex {Y U u1 u0 q1 q0 R1 s y N : Nat} (h1 : IsDig Y (U * 4294967296 + u1) q1) (hR : R1 = U * 4294967296 + u1 - q1 * Y) (h0 : IsDig Y (R1 * 4294967296 + u0) q0) (hU : U < Y) (hu1 : u1 < 4294967296) (hu0 : u0 < 4294967296) (hY : Y = y * 2 ^ s)
    (hN : (U * 4294967296 + u1) * 4294967296 + u0 = N * 2 ^ s) (R0 : Nat) (hR0 : R0 = R1 * 4294967296 + u0 - q0 * Y) :
    ∃ b1 b2 c : Nat, IntKind.u64.wrap ((q1 : Int) * 4294967296) = (b1 : Int) ∧ IntKind.u64.wrap ((b1 : Int) + (q0 : Int)) = (b2 : Int) ∧ b2 = N / y ∧ (R0 : Int) / 2 ^ s = (c : Int) ∧ c = N % y := by
  obtain ⟨t1, t2⟩ := two_digs h1 hR h0
  have lt1 : q1 < 4294967296 := by
    rcases Nat.lt_or_ge q1 4294967296 with h | h
    · exact h
    · exfalso
      have a := Nat.mul_le_mul_right Y h
      have b := h1.1
      have c : (U + 1) * 4294967296 ≤ Y * 4294967296 := Nat.mul_le_mul_right _ hU
      omega
  have hR1 : R1 < Y := by have a := h1.1; have b := h1.2; omega
  have lt0 : q0 < 4294967296 := by
    rcases Nat.lt_or_ge q0 4294967296 with h | h
    · exact h
    · exfalso
      have a := Nat.mul_le_mul_right Y h
      have b := h0.1
      have c : (R1 + 1) * 4294967296 ≤ Y * 4294967296 := Nat.mul_le_mul_right _ hR1
      omega
  obtain ⟨d1, d2⟩ := t1.div
  rw [hN, hY] at d1 d2
  rw [Nat.mul_div_mul_right _ _ (Nat.two_pow_pos s)] at d1
  rw [Nat.mul_mod_mul_right] at d2
  rw [hN, ← hR0, hY] at t2
  refine ⟨q1 * 4294967296, q1 * 4294967296 + q0, N % y, ?_, ?_, d1.symm, ?_, rfl⟩
  · rw [IntKind.wrap_u64]; omega
  · rw [IntKind.wrap_u64]; omega
  · have e : R0 = N % y * 2 ^ s := t2.symm.trans d2.symm
    rw [e, Int.natCast_mul, Int.natCast_pow]
    exact Int.mul_ediv_cancel _ (by have := Int.pow_pos (n := 2) (m := s) (by omega); exact Int.ne_of_gt this)

set_option maxHeartbeats 1000000 in
set_option maxRecDepth 100000 in
theorem div64_small (lo y : Nat) (hlo : lo < B64) (hy0 : 0 < y) (w : World) :
    Calls Try.prog 90 #[.int .u64 0, .int .u64 (lo : Int), .int .u64 (y : Int)] w fun e w' => e = .returned (.tuple #[.int .u64 ((lo / y : Nat) : Int), .int .u64 ((lo % y : Nat) : Int)]) ∧ ∃ m, w' = w.drewN m := by
  have q0 : ((y : Int) == 0) = false := by simp; omega
  have q1 : ¬ (y : Int) ≤ 0 := by omega
  obtain ⟨a, ha⟩ : ∃ a, lo / y = a := ⟨_, rfl⟩
  obtain ⟨b, hb⟩ : ∃ b, lo % y = b := ⟨_, rfl⟩
  have hal : a < B64 := by rw [← ha]; exact Nat.lt_of_le_of_lt (Nat.div_le_self _ _) hlo
  have hbl : b < B64 := by rw [← hb]; exact Nat.lt_of_le_of_lt (Nat.mod_le _ _) hlo
  have w1 : (lo : Int) / (y : Int) = (a : Int) := by rw [← ha]; exact (Int.natCast_ediv _ _).symm
  have w2 : (lo : Int) % (y : Int) = (b : Int) := by rw [← hb]; exact (Int.natCast_emod _ _).symm
  have w3 : (lo : Int).tdiv (y : Int) = (a : Int) := by rw [Int.tdiv_eq_ediv_of_nonneg (by omega)]; exact w1
  have w4 : (lo : Int).tmod (y : Int) = (b : Int) := by rw [Int.tmod_eq_emod_of_nonneg (by omega)]; exact w2
  have w5 := m_in a hal
  have w6 := m_in b hbl
  rw [ha, hb]
  clear ha hb hal hbl
  go_enter Try.func90, Try.ntmps90
  go_wp2
  go_quiet (fail)
  go_wp2
  go_ret2
  exact ⟨rfl, _, rfl⟩

set_option maxHeartbeats 4000000 in
set_option maxRecDepth 100000 in
theorem div64_big (hi lo y : Nat) (hhi : hi < y) (h0 : 0 < hi) (hlo : lo < B64) (hy : y < B64) (w : World) :
    Calls Try.prog 90 #[.int .u64 (hi : Int), .int .u64 (lo : Int), .int .u64 (y : Int)] w fun e w' => e = .returned (.tuple #[.int .u64 (((hi * B64 + lo) / y : Nat) : Int), .int .u64 (((hi * B64 + lo) % y : Nat) : Int)]) ∧ w = w' := by
  have q0 : ((y : Int) == 0) = false := by simp; omega
  have q1 : ¬ (y : Int) ≤ (hi : Int) := by omega
  have q2 : ((hi : Int) == 0) = false := by simp; omega
  have hs : 64 - nbits y < 64 := by have := nbits_pos (n := y) (by omega); omega
  have hb1 := nbits_ge (n := y) (by omega)
  have hb2 := nbits_lt y
  have hb3 := nbits_64 hy
  have hyn : B64 ≤ 2 * (y * 2 ^ (64 - nbits y)) := by
    have h1 : 2 ^ (nbits y - 1) * 2 ^ (64 - nbits y) ≤ y * 2 ^ (64 - nbits y) := Nat.mul_le_mul_right _ hb1
    have hp := nbits_pos (n := y) (by omega)
    rw [← Nat.pow_add, show nbits y - 1 + (64 - nbits y) = 63 by omega] at h1
    have : B64 = 2 * 2 ^ 63 := by decide
    omega
  have hyn2 : y * 2 ^ (64 - nbits y) < B64 := by
    have h1 : y * 2 ^ (64 - nbits y) < 2 ^ nbits y * 2 ^ (64 - nbits y) := Nat.mul_lt_mul_of_pos_right hb2 (Nat.two_pow_pos _)
    rw [← Nat.pow_add, show nbits y + (64 - nbits y) = 64 by omega] at h1
    exact h1
  have hlz := fun w => lz_any y hy w
  generalize 64 - nbits y = s at *
  clear hb1 hb2 hb3
  obtain ⟨Y, y1, y0, h, l1, U, l0, u1, u0, p1, p2, p3, p4, p5, p6, p7, p8, p9, eY, eYY, hy1, hy0, hn1, hU, hu1, hu0, hN⟩ := pre_ex hi lo y s hhi hlo hs hyn hyn2
  have hYb : Y < B64 := by rw [eY]; exact hyn2
  obtain ⟨g, r, p, g1, g2, g3, g4, g5, eg, er, g6⟩ := guess_ex U y1 (Nat.lt_trans hU hYb) (by omega)
  have hst0 := DigSt.start (K := 4294967296) (y0 := y0) (U := U) (u := u1) hn1 hy1 hy0 (by rw [← eYY]; exact hU) hu1
  rw [← eg, ← er] at hst0
  obtain ⟨Q, hQ⟩ : ∃ Q, (hi * B64 + lo) / y = Q := ⟨_, rfl⟩
  obtain ⟨RR, hRR⟩ : ∃ RR, (hi * B64 + lo) % y = RR := ⟨_, rfl⟩
  rw [hQ, hRR]
  have HQ := Lib.hid hQ
  have HRR := Lib.hid hRR
  clear hQ hRR
  have HLZ := Lib.hid hlz
  have EY := Lib.hid eY
  have EYY := Lib.hid eYY
  have HN := Lib.hid hN
  have HS0 := Lib.hid hst0
  have hrl := hst0.rl
  have hql := hst0.ql
  clear hlz eY eYY hN hst0 eg er hyn hyn2
  go_enter Try.func90, Try.ntmps90
  go_wp2_with (go_at_call 70; refine (HLZ.out _).mono ?_; rintro e w1 ⟨rfl, rfl⟩)
  go_loop [15, 16] (fun a b => ∃ q r : Nat, a = .int .u64 (q : Int) ∧ b = .int .u64 (r : Int) ∧ DigSt 4294967296 y1 y0 U u1 q r) (fun a _ => (intOf a).toNat)
  case atStart => exact ⟨g, r, rfl, rfl, HS0.out⟩
  case round =>
    clear HS0
    obtain ⟨q1, r1, rfl, rfl, hst⟩ := hrel
    have hrl1 := hst.rl
    have hql1 := hst.ql
    by_cases hbig : 4294967296 ≤ q1
    · have hgt := DigSt.big (y1 := y1) (y0 := y0) (by rw [← EYY.out]; exact hU) hu1 hbig
      have hbI : decide ((4294967296 : Int) ≤ (q1 : Int)) = true := decide_eq_true (by omega)
      obtain ⟨qn, rn, d1, d2, e1, e2⟩ := down_ex q1 r1 y1 (DigSt.pos hgt) hql1 hrl1 hy1
      have hlt : qn < q1 := by have := DigSt.pos hgt; omega
      by_cases hbr : r1 + y1 < 4294967296
      · have hst' := hst.step hgt hbr
        rw [← e1, ← e2] at hst'
        have hrn : decide ((4294967296 : Int) ≤ (rn : Int)) = false := decide_eq_false (by omega)
        have HST := Lib.hid hst'
        clear hst' e1 e2 hst hgt hbr hbig
        go_wp2
        go_round
        case rel => exact ⟨qn, rn, rfl, rfl, HST.out⟩
        case measure => simp [intOf]; omega
      · have hd := hst.leave hgt hy0 (by omega)
        rw [← e1, ← EYY.out] at hd
        have hrn : decide ((4294967296 : Int) ≤ (rn : Int)) = true := decide_eq_true (by omega)
        clear e1 e2 hst hgt hbr hbig
        obtain ⟨a1, a2, a3, R1, i1, i2, i3, i4, iR, hR1⟩ := left_ex hd hYb
        obtain ⟨g', r', p', f1, f2, f3, f4, f5, fg, fr, f6⟩ := guess_ex R1 y1 (Nat.lt_trans hR1 hYb) (by omega)
        have hst1 := DigSt.start (K := 4294967296) (y0 := y0) (U := R1) (u := u0) hn1 hy1 hy0 (by rw [← EYY.out]; exact hR1) hu0
        rw [← fg, ← fr] at hst1
        have HD1 := Lib.hid hd
        have HR1E := Lib.hid iR
        have HS1 := Lib.hid hst1
        clear hd iR hst1 fg fr
        go_wp2
        go_loop [16, 18] (fun b a => ∃ q r : Nat, a = .int .u64 (q : Int) ∧ b = .int .u64 (r : Int) ∧ DigSt 4294967296 y1 y0 R1 u0 q r) (fun _ a => (intOf a).toNat)
        case atStart => exact ⟨g', r', rfl, rfl, HS1.out⟩
        case round =>
          clear HS1
          obtain ⟨q2, r2, rfl, rfl, hst⟩ := hrel
          have hrl2 := hst.rl
          have hql2 := hst.ql
          by_cases hbig : 4294967296 ≤ q2
          · have hgt := DigSt.big (y1 := y1) (y0 := y0) (by rw [← EYY.out]; exact hR1) hu0 hbig
            have hbI : decide ((4294967296 : Int) ≤ (q2 : Int)) = true := decide_eq_true (by omega)
            obtain ⟨qn, rn, d1, d2, e1, e2⟩ := down_ex q2 r2 y1 (DigSt.pos hgt) hql2 hrl2 hy1
            have hlt : qn < q2 := by have := DigSt.pos hgt; omega
            by_cases hbr : r2 + y1 < 4294967296
            · have hst' := hst.step hgt hbr
              rw [← e1, ← e2] at hst'
              have hrn : decide ((4294967296 : Int) ≤ (rn : Int)) = false := decide_eq_false (by omega)
              have HST := Lib.hid hst'
              clear hst' e1 e2 hst hgt hbr hbig
              go_wp2
              go_round
              case rel => exact ⟨qn, rn, rfl, rfl, HST.out⟩
              case measure => simp [intOf]; omega
            · have hd := hst.leave hgt hy0 (by omega)
              rw [← e1, ← EYY.out] at hd
              have hrn : decide ((4294967296 : Int) ≤ (rn : Int)) = true := decide_eq_true (by omega)
              clear e1 e2 hst hgt hbr hbig
              have HD1 := HD1
              obtain ⟨c1, c2, c3, R0, k1, k2, k3, k4, kR0, kR0l⟩ := left_ex hd hYb
              obtain ⟨b1, b2, cc, j1, j2, j3, j4, j5⟩ := fin_ex HD1.out HR1E.out hd hU hu1 hu0 EY.out HN.out R0 kR0
              obtain rfl : b2 = Q := j3.trans HQ.out
              obtain rfl : cc = RR := j5.trans HRR.out
              clear hd kR0 j3 j5
              go_wp2
              go_ret2
              exact ⟨rfl, rfl⟩
          · have hbI : decide ((4294967296 : Int) ≤ (q2 : Int)) = false := decide_eq_false (by omega)
            obtain ⟨z1, z2, z3, t1, t2, t3, t4⟩ := test_ex q2 y0 r2 u0 (by omega) hy0 hrl2 hu0
            by_cases htest : z3 < z1
            · have hgt := hst.test.1 (t4.1 htest)
              clear t4
              obtain ⟨qn, rn, d1, d2, e1, e2⟩ := down_ex q2 r2 y1 (DigSt.pos hgt) hql2 hrl2 hy1
              have hlt : qn < q2 := by have := DigSt.pos hgt; omega
              by_cases hbr : r2 + y1 < 4294967296
              · have hst' := hst.step hgt hbr
                rw [← e1, ← e2] at hst'
                have hrn : decide ((4294967296 : Int) ≤ (rn : Int)) = false := decide_eq_false (by omega)
                have HST := Lib.hid hst'
                clear hst' e1 e2 hst hgt hbr hbig
                go_wp2
                go_round
                case rel => exact ⟨qn, rn, rfl, rfl, HST.out⟩
                case measure => simp [intOf]; omega
              · have hd := hst.leave hgt hy0 (by omega)
                rw [← e1, ← EYY.out] at hd
                have hrn : decide ((4294967296 : Int) ≤ (rn : Int)) = true := decide_eq_true (by omega)
                clear e1 e2 hst hgt hbr hbig
                have HD1 := HD1
                obtain ⟨c1, c2, c3, R0, k1, k2, k3, k4, kR0, kR0l⟩ := left_ex hd hYb
                obtain ⟨b1, b2, cc, j1, j2, j3, j4, j5⟩ := fin_ex HD1.out HR1E.out hd hU hu1 hu0 EY.out HN.out R0 kR0
                obtain rfl : b2 = Q := j3.trans HQ.out
                obtain rfl : cc = RR := j5.trans HRR.out
                clear hd kR0 j3 j5
                go_wp2
                go_ret2
                exact ⟨rfl, rfl⟩
            · have hd := hst.good (fun h => htest (t4.2 (hst.test.2 h)))
              rw [← EYY.out] at hd
              clear t4 hst hbig
              have HD1 := HD1
              obtain ⟨c1, c2, c3, R0, k1, k2, k3, k4, kR0, kR0l⟩ := left_ex hd hYb
              obtain ⟨b1, b2, cc, j1, j2, j3, j4, j5⟩ := fin_ex HD1.out HR1E.out hd hU hu1 hu0 EY.out HN.out R0 kR0
              obtain rfl : b2 = Q := j3.trans HQ.out
              obtain rfl : cc = RR := j5.trans HRR.out
              clear hd kR0 j3 j5
              go_wp2
              go_ret2
              exact ⟨rfl, rfl⟩
    · have hbI : decide ((4294967296 : Int) ≤ (q1 : Int)) = false := decide_eq_false (by omega)
      obtain ⟨z1, z2, z3, t1, t2, t3, t4⟩ := test_ex q1 y0 r1 u1 (by omega) hy0 hrl1 hu1
      by_cases htest : z3 < z1
      · have hgt := hst.test.1 (t4.1 htest)
        clear t4
        obtain ⟨qn, rn, d1, d2, e1, e2⟩ := down_ex q1 r1 y1 (DigSt.pos hgt) hql1 hrl1 hy1
        have hlt : qn < q1 := by have := DigSt.pos hgt; omega
        by_cases hbr : r1 + y1 < 4294967296
        · have hst' := hst.step hgt hbr
          rw [← e1, ← e2] at hst'
          have hrn : decide ((4294967296 : Int) ≤ (rn : Int)) = false := decide_eq_false (by omega)
          have HST := Lib.hid hst'
          clear hst' e1 e2 hst hgt hbr hbig
          go_wp2
          go_round
          case rel => exact ⟨qn, rn, rfl, rfl, HST.out⟩
          case measure => simp [intOf]; omega
        · have hd := hst.leave hgt hy0 (by omega)
          rw [← e1, ← EYY.out] at hd
          have hrn : decide ((4294967296 : Int) ≤ (rn : Int)) = true := decide_eq_true (by omega)
          clear e1 e2 hst hgt hbr hbig
          obtain ⟨a1, a2, a3, R1, i1, i2, i3, i4, iR, hR1⟩ := left_ex hd hYb
          obtain ⟨g', r', p', f1, f2, f3, f4, f5, fg, fr, f6⟩ := guess_ex R1 y1 (Nat.lt_trans hR1 hYb) (by omega)
          have hst1 := DigSt.start (K := 4294967296) (y0 := y0) (U := R1) (u := u0) hn1 hy1 hy0 (by rw [← EYY.out]; exact hR1) hu0
          rw [← fg, ← fr] at hst1
          have HD1 := Lib.hid hd
          have HR1E := Lib.hid iR
          have HS1 := Lib.hid hst1
          clear hd iR hst1 fg fr
          go_wp2
          go_loop [16, 18] (fun b a => ∃ q r : Nat, a = .int .u64 (q : Int) ∧ b = .int .u64 (r : Int) ∧ DigSt 4294967296 y1 y0 R1 u0 q r) (fun _ a => (intOf a).toNat)
          case atStart => exact ⟨g', r', rfl, rfl, HS1.out⟩
          case round =>
            clear HS1
            obtain ⟨q2, r2, rfl, rfl, hst⟩ := hrel
            have hrl2 := hst.rl
            have hql2 := hst.ql
            by_cases hbig : 4294967296 ≤ q2
            · have hgt := DigSt.big (y1 := y1) (y0 := y0) (by rw [← EYY.out]; exact hR1) hu0 hbig
              have hbI : decide ((4294967296 : Int) ≤ (q2 : Int)) = true := decide_eq_true (by omega)
              obtain ⟨qn, rn, d1, d2, e1, e2⟩ := down_ex q2 r2 y1 (DigSt.pos hgt) hql2 hrl2 hy1
              have hlt : qn < q2 := by have := DigSt.pos hgt; omega
              by_cases hbr : r2 + y1 < 4294967296
              · have hst' := hst.step hgt hbr
                rw [← e1, ← e2] at hst'
                have hrn : decide ((4294967296 : Int) ≤ (rn : Int)) = false := decide_eq_false (by omega)
                have HST := Lib.hid hst'
                clear hst' e1 e2 hst hgt hbr hbig
                go_wp2
                go_round
                case rel => exact ⟨qn, rn, rfl, rfl, HST.out⟩
                case measure => simp [intOf]; omega
              · have hd := hst.leave hgt hy0 (by omega)
                rw [← e1, ← EYY.out] at hd
                have hrn : decide ((4294967296 : Int) ≤ (rn : Int)) = true := decide_eq_true (by omega)
                clear e1 e2 hst hgt hbr hbig
                have HD1 := HD1
                obtain ⟨c1, c2, c3, R0, k1, k2, k3, k4, kR0, kR0l⟩ := left_ex hd hYb
                obtain ⟨b1, b2, cc, j1, j2, j3, j4, j5⟩ := fin_ex HD1.out HR1E.out hd hU hu1 hu0 EY.out HN.out R0 kR0
                obtain rfl : b2 = Q := j3.trans HQ.out
                obtain rfl : cc = RR := j5.trans HRR.out
                clear hd kR0 j3 j5
                go_wp2
                go_ret2
                exact ⟨rfl, rfl⟩
            · have hbI : decide ((4294967296 : Int) ≤ (q2 : Int)) = false := decide_eq_false (by omega)
              obtain ⟨z1, z2, z3, t1, t2, t3, t4⟩ := test_ex q2 y0 r2 u0 (by omega) hy0 hrl2 hu0
              by_cases htest : z3 < z1
              · have hgt := hst.test.1 (t4.1 htest)
                clear t4
                obtain ⟨qn, rn, d1, d2, e1, e2⟩ := down_ex q2 r2 y1 (DigSt.pos hgt) hql2 hrl2 hy1
                have hlt : qn < q2 := by have := DigSt.pos hgt; omega
                by_cases hbr : r2 + y1 < 4294967296
                · have hst' := hst.step hgt hbr
                  rw [← e1, ← e2] at hst'
                  have hrn : decide ((4294967296 : Int) ≤ (rn : Int)) = false := decide_eq_false (by omega)
                  have HST := Lib.hid hst'
                  clear hst' e1 e2 hst hgt hbr hbig
                  go_wp2
                  go_round
                  case rel => exact ⟨qn, rn, rfl, rfl, HST.out⟩
                  case measure => simp [intOf]; omega
                · have hd := hst.leave hgt hy0 (by omega)
                  rw [← e1, ← EYY.out] at hd
                  have hrn : decide ((4294967296 : Int) ≤ (rn : Int)) = true := decide_eq_true (by omega)
                  clear e1 e2 hst hgt hbr hbig
                  have HD1 := HD1
                  obtain ⟨c1, c2, c3, R0, k1, k2, k3, k4, kR0, kR0l⟩ := left_ex hd hYb
                  obtain ⟨b1, b2, cc, j1, j2, j3, j4, j5⟩ := fin_ex HD1.out HR1E.out hd hU hu1 hu0 EY.out HN.out R0 kR0
                  obtain rfl : b2 = Q := j3.trans HQ.out
                  obtain rfl : cc = RR := j5.trans HRR.out
                  clear hd kR0 j3 j5
                  go_wp2
                  go_ret2
                  exact ⟨rfl, rfl⟩
              · have hd := hst.good (fun h => htest (t4.2 (hst.test.2 h)))
                rw [← EYY.out] at hd
                clear t4 hst hbig
                have HD1 := HD1
                obtain ⟨c1, c2, c3, R0, k1, k2, k3, k4, kR0, kR0l⟩ := left_ex hd hYb
                obtain ⟨b1, b2, cc, j1, j2, j3, j4, j5⟩ := fin_ex HD1.out HR1E.out hd hU hu1 hu0 EY.out HN.out R0 kR0
                obtain rfl : b2 = Q := j3.trans HQ.out
                obtain rfl : cc = RR := j5.trans HRR.out
                clear hd kR0 j3 j5
                go_wp2
                go_ret2
                exact ⟨rfl, rfl⟩
      · have hd := hst.good (fun h => htest (t4.2 (hst.test.2 h)))
        rw [← EYY.out] at hd
        clear t4 hst hbig
        obtain ⟨a1, a2, a3, R1, i1, i2, i3, i4, iR, hR1⟩ := left_ex hd hYb
        obtain ⟨g', r', p', f1, f2, f3, f4, f5, fg, fr, f6⟩ := guess_ex R1 y1 (Nat.lt_trans hR1 hYb) (by omega)
        have hst1 := DigSt.start (K := 4294967296) (y0 := y0) (U := R1) (u := u0) hn1 hy1 hy0 (by rw [← EYY.out]; exact hR1) hu0
        rw [← fg, ← fr] at hst1
        have HD1 := Lib.hid hd
        have HR1E := Lib.hid iR
        have HS1 := Lib.hid hst1
        clear hd iR hst1 fg fr
        go_wp2
        go_loop [16, 18] (fun b a => ∃ q r : Nat, a = .int .u64 (q : Int) ∧ b = .int .u64 (r : Int) ∧ DigSt 4294967296 y1 y0 R1 u0 q r) (fun _ a => (intOf a).toNat)
        case atStart => exact ⟨g', r', rfl, rfl, HS1.out⟩
        case round =>
          clear HS1
          obtain ⟨q2, r2, rfl, rfl, hst⟩ := hrel
          have hrl2 := hst.rl
          have hql2 := hst.ql
          by_cases hbig : 4294967296 ≤ q2
          · have hgt := DigSt.big (y1 := y1) (y0 := y0) (by rw [← EYY.out]; exact hR1) hu0 hbig
            have hbI : decide ((4294967296 : Int) ≤ (q2 : Int)) = true := decide_eq_true (by omega)
            obtain ⟨qn, rn, d1, d2, e1, e2⟩ := down_ex q2 r2 y1 (DigSt.pos hgt) hql2 hrl2 hy1
            have hlt : qn < q2 := by have := DigSt.pos hgt; omega
            by_cases hbr : r2 + y1 < 4294967296
            · have hst' := hst.step hgt hbr
              rw [← e1, ← e2] at hst'
              have hrn : decide ((4294967296 : Int) ≤ (rn : Int)) = false := decide_eq_false (by omega)
              have HST := Lib.hid hst'
              clear hst' e1 e2 hst hgt hbr hbig
              go_wp2
              go_round
              case rel => exact ⟨qn, rn, rfl, rfl, HST.out⟩
              case measure => simp [intOf]; omega
            · have hd := hst.leave hgt hy0 (by omega)
              rw [← e1, ← EYY.out] at hd
              have hrn : decide ((4294967296 : Int) ≤ (rn : Int)) = true := decide_eq_true (by omega)
              clear e1 e2 hst hgt hbr hbig
              have HD1 := HD1
              obtain ⟨c1, c2, c3, R0, k1, k2, k3, k4, kR0, kR0l⟩ := left_ex hd hYb
              obtain ⟨b1, b2, cc, j1, j2, j3, j4, j5⟩ := fin_ex HD1.out HR1E.out hd hU hu1 hu0 EY.out HN.out R0 kR0
              obtain rfl : b2 = Q := j3.trans HQ.out
              obtain rfl : cc = RR := j5.trans HRR.out
              clear hd kR0 j3 j5
              go_wp2
              go_ret2
              exact ⟨rfl, rfl⟩
          · have hbI : decide ((4294967296 : Int) ≤ (q2 : Int)) = false := decide_eq_false (by omega)
            obtain ⟨z1, z2, z3, t1, t2, t3, t4⟩ := test_ex q2 y0 r2 u0 (by omega) hy0 hrl2 hu0
            by_cases htest : z3 < z1
            · have hgt := hst.test.1 (t4.1 htest)
              clear t4
              obtain ⟨qn, rn, d1, d2, e1, e2⟩ := down_ex q2 r2 y1 (DigSt.pos hgt) hql2 hrl2 hy1
              have hlt : qn < q2 := by have := DigSt.pos hgt; omega
              by_cases hbr : r2 + y1 < 4294967296
              · have hst' := hst.step hgt hbr
                rw [← e1, ← e2] at hst'
                have hrn : decide ((4294967296 : Int) ≤ (rn : Int)) = false := decide_eq_false (by omega)
                have HST := Lib.hid hst'
                clear hst' e1 e2 hst hgt hbr hbig
                go_wp2
                go_round
                case rel => exact ⟨qn, rn, rfl, rfl, HST.out⟩
                case measure => simp [intOf]; omega
              · have hd := hst.leave hgt hy0 (by omega)
                rw [← e1, ← EYY.out] at hd
                have hrn : decide ((4294967296 : Int) ≤ (rn : Int)) = true := decide_eq_true (by omega)
                clear e1 e2 hst hgt hbr hbig
                have HD1 := HD1
                obtain ⟨c1, c2, c3, R0, k1, k2, k3, k4, kR0, kR0l⟩ := left_ex hd hYb
                obtain ⟨b1, b2, cc, j1, j2, j3, j4, j5⟩ := fin_ex HD1.out HR1E.out hd hU hu1 hu0 EY.out HN.out R0 kR0
                obtain rfl : b2 = Q := j3.trans HQ.out
                obtain rfl : cc = RR := j5.trans HRR.out
                clear hd kR0 j3 j5
                go_wp2
                go_ret2
                exact ⟨rfl, rfl⟩
            · have hd := hst.good (fun h => htest (t4.2 (hst.test.2 h)))
              rw [← EYY.out] at hd
              clear t4 hst hbig
              have HD1 := HD1
              obtain ⟨c1, c2, c3, R0, k1, k2, k3, k4, kR0, kR0l⟩ := left_ex hd hYb
              obtain ⟨b1, b2, cc, j1, j2, j3, j4, j5⟩ := fin_ex HD1.out HR1E.out hd hU hu1 hu0 EY.out HN.out R0 kR0
              obtain rfl : b2 = Q := j3.trans HQ.out
              obtain rfl : cc = RR := j5.trans HRR.out
              clear hd kR0 j3 j5
              go_wp2
              go_ret2
              exact ⟨rfl, rfl⟩

/-- Div64: the quotient and the remainder of two words by one that is above the first. -/
theorem div64_any (hi lo y : Nat) (hhi : hi < y) (hlo : lo < B64) (hy : y < B64) (w : World) :
    Calls Try.prog 90 #[.int .u64 (hi : Int), .int .u64 (lo : Int), .int .u64 (y : Int)] w fun e w' => e = .returned (.tuple #[.int .u64 (((hi * B64 + lo) / y : Nat) : Int), .int .u64 (((hi * B64 + lo) % y : Nat) : Int)]) ∧ ∃ m, w' = w.drewN m := by
  rcases Nat.eq_zero_or_pos hi with h | h
  · subst h
    have := div64_small lo y hlo hhi w
    rw [Nat.zero_mul, Nat.zero_add]
    exact this
  · exact (div64_big hi lo y hhi h hlo hy w).mono fun e w' ⟨h1, h2⟩ => ⟨h1, 0, h2.symm⟩
end Go.Proofs.Ythgekjkgfccnaaa

namespace Go.Proofs.Num
/-- The first k digits from off on, without m times xs; c is borrowed. -/
structure SubScSt (b : Nat) (zs xs : List Nat) (m off k : Nat) (zs' : List Nat) (c : Nat) : Prop where
  len : zs'.length = zs.length
  low : Low b zs'
  le : c < b
  far : ∀ i, i < off ∨ off + k ≤ i → zs'[i]? = zs[i]?
  eq : val b (seg zs' off k) + val b (xs.take k) * m = val b (seg zs off k) + b ^ k * c
theorem SubScSt.start {b : Nat} (hb : 2 ≤ b) {zs xs : List Nat} {m off : Nat} (hz : Low b zs) : SubScSt b zs xs m off 0 zs 0 :=
  ⟨rfl, hz, by omega, fun _ _ => rfl, by simp [seg_zero, val]⟩
theorem SubScSt.step {b : Nat} {zs xs zs' : List Nat} {m off k c v x lo hi : Nat} (h : SubScSt b zs xs m off k zs' c)
    (hv : zs'[off + k]? = some v) (hx : xs[k]? = some x) (hs : lo + x * m + c = v + b * hi) (hlo : lo < b) (hhi : hi < b) :
    SubScSt b zs xs m off (k + 1) (zs'.set (off + k) lo) hi := by
  have hk : off + k < zs'.length := (List.getElem?_eq_some_iff.1 hv).1
  have hz : zs[off + k]? = some v := by rw [← h.far (off + k) (by omega)]; exact hv
  refine ⟨by rw [List.length_set]; exact h.len, h.low.set hlo, hhi, fun i hi' => ?_, ?_⟩
  · rw [List.getElem?_set, if_neg (by omega)]; exact h.far i (by omega)
  · have h1 : (zs'.set (off + k) lo)[off + k]? = some lo := by rw [List.getElem?_set, if_pos rfl, if_pos hk]
    have hxk : k < xs.length := (List.getElem?_eq_some_iff.1 hx).1
    rw [val_seg_succ b h1, seg_set_far (by omega), val_seg_succ b hz, val_take_succ b xs k hxk, (List.getElem?_eq_some_iff.1 hx).2]
    have e := h.eq
    have e2 : b ^ k * (lo + x * m + c) = b ^ k * (v + b * hi) := by rw [hs]
    rw [Nat.pow_succ]
    grind
theorem sub_word_bound {b v x m c hi lo : Nat} (hlo : lo < b) (hx : x < b) (hm : m < b) (hc : c < b) (h : lo + x * m + c = v + b * hi) : hi < b := by
  have h1 : x * m ≤ (b - 1) * (b - 1) := Nat.mul_le_mul (by omega) (by omega)
  have h2 : (b - 1) * (b - 1) + 2 * (b - 1) + 1 = b * b := by
    obtain ⟨d, rfl⟩ : ∃ d, b = d + 1 := ⟨b - 1, by omega⟩
    simp only [Nat.add_sub_cancel]; grind
  rcases Nat.lt_or_ge hi b with h3 | h3
  · exact h3
  · have := Nat.mul_le_mul_left b h3
    omega
end Go.Proofs.Num
namespace Go.Proofs.Ythgekjkgfccnaaa
open Go.RowKit Num

/-- One step of a scaled difference: what the calls give. -/
theorem subScale_ex (v x m c : Nat) (hv : v < B64) (hx : x < B64) (hm : m < B64) (hc : c < B64) : ∃ hi lo low c1 h2 lo2 c2 over : Nat,
    (∀ w, Calls Try.prog 87 #[.int .u64 (x : Int), .int .u64 (m : Int)] w fun e w' => e = .returned (.tuple #[.int .u64 (hi : Int), .int .u64 (lo : Int)]) ∧ w = w') ∧
    (∀ w, (callFunc 111 #[.int .u64 (v : Int), .int .u64 (lo : Int), .int .u64 0]).run Try.prog w = .ok (.value (.tuple #[.int .u64 (low : Int), .int .u64 (c1 : Int)])) w) ∧
    IntKind.u64.wrap ((hi : Int) + (c1 : Int)) = (h2 : Int) ∧
    (∀ w, (callFunc 111 #[.int .u64 (low : Int), .int .u64 (c : Int), .int .u64 0]).run Try.prog w = .ok (.value (.tuple #[.int .u64 (lo2 : Int), .int .u64 (c2 : Int)])) w) ∧
    IntKind.u64.wrap ((h2 : Int) + (c2 : Int)) = (over : Int) ∧
    lo2 + x * m + c = v + B64 * over ∧ lo2 < B64 ∧ over < B64 := by
  obtain ⟨hi, lo, h1, e1, l1, g1⟩ := mul64_ex x m hx hm
  obtain ⟨low, c1, h2, e2, l2, g2⟩ := sub64_ex0 v lo hv l1
  obtain ⟨lo2, c2, h3, e3, l3, g3⟩ := sub64_ex0 low c l2 hc
  have e : lo2 + x * m + c = v + B64 * (hi + c1 + c2) := by
    rw [Nat.mul_add, Nat.mul_add]; omega
  have hb := sub_word_bound l3 hx hm hc e
  exact ⟨hi, lo, low, c1, hi + c1, lo2, c2, hi + c1 + c2, h1, h2, wrap_in _ _ (by omega), h3, wrap_in _ _ hb, e, l3, hb⟩

def SubScPost (zs xs : List Nat) (m g off : Nat) (w : World) (e : Ending) (w' : World) : Prop :=
  ∃ zs' c, e = .returned (.int .u64 ((c : Nat) : Int)) ∧ SubScSt B64 zs xs m off xs.length zs' c ∧ Row .u64 55 w' g zs' ∧ w.grownBy w' (some g)

set_option maxHeartbeats 1000000 in
set_option maxRecDepth 100000 in
theorem subScaled_any (g off n c d L m : Nat) (zs xs : List Nat) (A : Option Addr) (w : World) (hr : Row .u64 55 w g zs) (hz : Low B64 zs) (hA : Nums .u64 w A xs) (hx : Low B64 xs)
    (hAg : 0 < xs.length → ∀ a, A = some a → a.block ≠ g) (hL : L = xs.length) (hn : off + L ≤ zs.length) (hm : m < B64) (hle : L ≤ n) (hnc : n ≤ c) (hbig : n ≤ 1000000000000) :
    Calls Try.prog 105 #[.slice (some ⟨g, off, none⟩) n c, .slice A L d, .int .u64 (m : Int)] w (SubScPost zs xs m g off w) := by
  have HL := Lib.hid hL
  clear hL
  go_enter Try.func105, Try.ntmps105
  go_wp2
  go_loopw [7, 20] (fun q t wr => ∃ (k ov : Nat) (zs' : List Nat), k ≤ L ∧ q = .int .u64 (ov : Int) ∧ t = .int .i64 (k : Int) ∧ SubScSt B64 zs xs m off k zs' ov ∧ Row .u64 55 wr g zs' ∧ w.grownBy wr (some g)) (fun _ t _ => L - (intOf t).toNat)
  case atStart => exact ⟨0, 0, zs, Nat.zero_le _, rfl, rfl, SubScSt.start b64_two hz, hr, World.grownBy.refl w _⟩
  case round =>
    obtain ⟨k, ov, zs', hk, rfl, rfl, hst, hrow, hgr⟩ := hrel
    by_cases hlt : k < L
    · obtain ⟨q, qo, x, rfl, hq, hxk, hcx⟩ := (hA.grown hAg hgr).at_ (i := k) (by have := HL.out; omega)
      obtain ⟨v, hv⟩ : ∃ v, zs'[off + k]? = some v := ⟨zs'[off + k]'(by have := hst.len; omega), List.getElem?_eq_getElem _⟩
      have hcv := hrow.cell hv
      have hfv := hrow.frozen (off + k)
      have hvl : v < B64 := by have := hst.low v (List.mem_of_getElem? hv); exact this
      have hxl : x < B64 := hx x (List.mem_of_getElem? hxk)
      obtain ⟨hi, lo, low, c1, h2, lo2, c2, over, e1, e2, e3, e4, e5, e6, hlo, hov⟩ := subScale_ex v x m ov hvl hxl hm hst.le
      have hst' := hst.step hv hxk e6 hlo hov
      have hrow' := hrow.set (off + k) lo2
      have HE := Lib.hid e6
      have HV := Lib.hid hv
      have HX := Lib.hid hxk
      have H1 := Lib.hid e1
      clear e6 hv hxk hA hvl hxl hlo hov e1
      go_wp2_with (go_at_call 87; refine (H1.out _).mono ?_; rintro e w' ⟨rfl, rfl⟩)
      go_roundw
      case rel => exact ⟨k + 1, over, _, by omega, rfl, by go_num, hst', hrow', grown_set hgr _ _⟩
      case measure => simp [intOf]; omega
    · have hkL : k = L := by omega
      subst hkL
      clear hlt
      go_wp2
      go_ret
      exact ⟨zs', ov, rfl, by rw [← HL.out]; exact hst, hrow, hgr⟩
end Go.Proofs.Ythgekjkgfccnaaa

namespace Go.Proofs.Ythgekjkgfccnaaa
open Go.RowKit Num

/-- What estimate gives. -/
def EstPost (a2 a1 a0 b1 b0 : Nat) (w : World) (e : Ending) (w' : World) : Prop :=
  ∃ d : Nat, e = .returned (.int .u64 (d : Int)) ∧ d < B64 ∧ (b1 ≤ a2 → d = B64 - 1) ∧ (a2 < b1 → IsDig (b1 * B64 + b0) ((a2 * B64 + a1) * B64 + a0) d) ∧ ∃ m, w' = w.drewN m

theorem est_test {d b0 hi lo r a0 : Nat} (h : lo + B64 * hi = d * b0) (hl : lo < B64) (ha : a0 < B64) : (hi < r ∨ hi = r ∧ lo ≤ a0) ↔ ¬ r * B64 + a0 < d * b0 := by
  rw [← h, Nat.mul_comm B64 hi]
  constructor
  · rintro (h1 | ⟨h1, h2⟩)
    · have := Nat.mul_le_mul_right B64 (show hi + 1 ≤ r from h1)
      rw [Nat.add_mul] at this; omega
    · subst h1; omega
  · intro h1
    rcases Nat.lt_trichotomy hi r with h2 | h2 | h2
    · exact .inl h2
    · subst h2; exact .inr ⟨rfl, by omega⟩
    · exfalso
      have := Nat.mul_le_mul_right B64 (show r + 1 ≤ hi from h2)
      rw [Nat.add_mul] at this; omega
theorem down64_ex (d r b1 : Nat) (h0 : 0 < d) (hd : d < B64) (hr : r < B64) (hb : b1 < B64) : ∃ d' r' : Nat, IntKind.u64.wrap ((d : Int) - 1) = (d' : Int) ∧ IntKind.u64.wrap ((r : Int) + (b1 : Int)) = (r' : Int) ∧ d' = d - 1 ∧
    (r + b1 < B64 → r' = r + b1 ∧ ¬ r' < b1) ∧ (B64 ≤ r + b1 → r' < b1) := by
  unfold B64 at *
  refine ⟨d - 1, (r + b1) % 18446744073709551616, ?_, ?_, rfl, by omega, by omega⟩
  · rw [IntKind.wrap_u64]; omega
  · rw [IntKind.wrap_u64]; omega

set_option maxHeartbeats 1000000 in
set_option maxRecDepth 100000 in
theorem estimate_top (a2 a1 a0 b1 b0 : Nat) (h : b1 ≤ a2) (w : World) :
    Calls Try.prog 104 #[.int .u64 (a2 : Int), .int .u64 (a1 : Int), .int .u64 (a0 : Int), .int .u64 (b1 : Int), .int .u64 (b0 : Int)] w (EstPost a2 a1 a0 b1 b0 w) := by
  go_enter Try.func104, Try.ntmps104
  go_wp2
  go_ret
  exact ⟨B64 - 1, by unfold B64; rfl, by unfold B64; omega, fun _ => rfl, fun h2 => by omega, 0, rfl⟩

set_option maxHeartbeats 2000000 in
set_option maxRecDepth 100000 in
theorem estimate_low (a2 a1 a0 b1 b0 : Nat) (h : a2 < b1) (h1 : a1 < B64) (h0 : a0 < B64) (hb1 : b1 < B64) (hb0 : b0 < B64) (hn : B64 ≤ 2 * b1) (w : World) :
    Calls Try.prog 104 #[.int .u64 (a2 : Int), .int .u64 (a1 : Int), .int .u64 (a0 : Int), .int .u64 (b1 : Int), .int .u64 (b0 : Int)] w (EstPost a2 a1 a0 b1 b0 w) := by
  have hU : a2 * B64 + a1 < b1 * B64 + b0 := by
    have := Nat.mul_le_mul_right B64 (show a2 + 1 ≤ b1 from h)
    rw [Nat.add_mul] at this; omega
  have hst0 := DigSt.start (K := B64) (y0 := b0) (U := a2 * B64 + a1) (u := a0) hn hb1 hb0 hU h0
  have hdl : (a2 * B64 + a1) / b1 < B64 := by
    refine Nat.div_lt_of_lt_mul ?_
    have := Nat.mul_le_mul_right B64 (show a2 + 1 ≤ b1 from h)
    rw [Nat.add_mul] at this; omega
  have hdv := fun w => div64_any a2 a1 b1 h h1 hb1 w
  generalize (a2 * B64 + a1) / b1 = d0 at *
  generalize (a2 * B64 + a1) % b1 = r0 at *
  have hne : ¬ b1 ≤ a2 := by omega
  have HS0 := Lib.hid hst0
  have HDL := Lib.hid hdl
  have HDV := Lib.hid hdv
  clear hst0 hdl hdv hU
  go_enter Try.func104, Try.ntmps104
  go_wp2_with (go_at_call 90; refine (HDV.out _).mono ?_; rintro e w1 ⟨rfl, m, rfl⟩)
  go_loop [11, 12] (fun a b => ∃ d r : Nat, a = .int .u64 (d : Int) ∧ b = .int .u64 (r : Int) ∧ d < B64 ∧ DigSt B64 b1 b0 (a2 * B64 + a1) a0 d r) (fun a _ => (intOf a).toNat)
  case atStart => exact ⟨d0, r0, rfl, rfl, HDL.out, HS0.out⟩
  case round =>
    clear HS0 HDL HDV
    obtain ⟨d, r, rfl, rfl, hd, hst⟩ := hrel
    have hrl := hst.rl
    obtain ⟨hi, lo, hm, he, hlo, _⟩ := mul64_ex d b0 hd hb0
    have ht := est_test (r := r) (a0 := a0) he hlo h0
    have HM := Lib.hid hm
    by_cases hok : hi < r ∨ hi = r ∧ lo ≤ a0
    · have hdig := hst.good (fun hc => ht.1 hok (hst.test.2 hc))
      have HDIG := Lib.hid hdig
      clear hm he ht hst hdig
      rcases hok with hok | ⟨hok, hok2⟩
      · go_wp2_with (go_at_call 87; refine (HM.out _).mono ?_; rintro e w' ⟨rfl, rfl⟩)
        go_ret
        exact ⟨d, rfl, hd, fun h2 => absurd h2 hne, fun _ => HDIG.out, _, rfl⟩
      · subst hok
        have hlt : ¬ hi < hi := by omega
        have heq : ((hi : Int) == (hi : Int)) = true := by simp
        go_wp2_with (go_at_call 87; refine (HM.out _).mono ?_; rintro e w' ⟨rfl, rfl⟩)
        go_ret
        exact ⟨d, rfl, hd, fun h2 => absurd h2 hne, fun _ => HDIG.out, _, rfl⟩
    · have hgt : (a2 * B64 + a1) * B64 + a0 < d * (b1 * B64 + b0) := by
        apply Classical.byContradiction
        intro hc
        exact hok (ht.2 (fun h3 => hc (hst.test.1 h3)))
      have hpos := DigSt.pos hgt
      obtain ⟨d', r', e1, e2, ed, er, er2⟩ := down64_ex d r b1 hpos hd hrl hb1
      have hltd : d' < d := by omega
      have hd' : d' < B64 := by omega
      have hcases : r < hi ∨ (hi = r ∧ a0 < lo) := by
        rcases Nat.lt_trichotomy hi r with h2 | h2 | h2
        · exact absurd (.inl h2) hok
        · exact .inr ⟨h2, by rcases Nat.lt_or_ge a0 lo with h3 | h3; exact h3; exact absurd (.inr ⟨h2, h3⟩) hok⟩
        · exact .inl h2
      by_cases hbr : r + b1 < B64
      · obtain ⟨er1, er3⟩ := er hbr
        have hst' := hst.step hgt hbr
        rw [← ed, ← er1] at hst'
        have HST := Lib.hid hst'
        clear hm he ht hst hst' hgt er er2 er1 ed hok hbr hpos
        rcases hcases with hc | ⟨hc, hc2⟩
        · have hlt : ¬ hi < r := by omega
          have heq : ((hi : Int) == (r : Int)) = false := by simp; omega
          go_wp2_with (go_at_call 87; refine (HM.out _).mono ?_; rintro e w' ⟨rfl, rfl⟩)
          go_round
          case rel => exact ⟨d', r', rfl, rfl, hd', HST.out⟩
          case measure => simp [intOf]; omega
        · subst hc
          have hlt : ¬ hi < hi := by omega
          have heq : ((hi : Int) == (hi : Int)) = true := by simp
          have hle : ¬ lo ≤ a0 := by omega
          go_wp2_with (go_at_call 87; refine (HM.out _).mono ?_; rintro e w' ⟨rfl, rfl⟩)
          go_round
          case rel => exact ⟨d', r', rfl, rfl, hd', HST.out⟩
          case measure => simp [intOf]; omega
      · have er3 := er2 (by omega)
        have hdig := hst.leave hgt hb0 (by omega)
        rw [← ed] at hdig
        have HDIG := Lib.hid hdig
        clear hm he ht hst hdig hgt er er2 ed hok hbr hpos
        rcases hcases with hc | ⟨hc, hc2⟩
        · have hlt : ¬ hi < r := by omega
          have heq : ((hi : Int) == (r : Int)) = false := by simp; omega
          go_wp2_with (go_at_call 87; refine (HM.out _).mono ?_; rintro e w' ⟨rfl, rfl⟩)
          go_ret
          exact ⟨d', rfl, hd', fun h2 => absurd h2 hne, fun _ => HDIG.out, _, rfl⟩
        · subst hc
          have hlt : ¬ hi < hi := by omega
          have heq : ((hi : Int) == (hi : Int)) = true := by simp
          have hle : ¬ lo ≤ a0 := by omega
          go_wp2_with (go_at_call 87; refine (HM.out _).mono ?_; rintro e w' ⟨rfl, rfl⟩)
          go_ret
          exact ⟨d', rfl, hd', fun h2 => absurd h2 hne, fun _ => HDIG.out, _, rfl⟩

theorem estimate_any (a2 a1 a0 b1 b0 : Nat) (h1 : a1 < B64) (h0 : a0 < B64) (hb1 : b1 < B64) (hb0 : b0 < B64) (hn : B64 ≤ 2 * b1) (w : World) :
    Calls Try.prog 104 #[.int .u64 (a2 : Int), .int .u64 (a1 : Int), .int .u64 (a0 : Int), .int .u64 (b1 : Int), .int .u64 (b0 : Int)] w (EstPost a2 a1 a0 b1 b0 w) := by
  rcases Nat.lt_or_ge a2 b1 with h | h
  · exact estimate_low a2 a1 a0 b1 b0 h h1 h0 hb1 hb0 hn w
  · exact estimate_top a2 a1 a0 b1 b0 h w
end Go.Proofs.Ythgekjkgfccnaaa
