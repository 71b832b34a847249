/- Part of the proof of NatPowers: KarQ, Blk, MulAll, RefMul, MulsW, RefPow, RefOver, RefSh, Shift, ShiftsW. -/
import Derived.Test.YtaegkhdkhgemmaaPartD
import Derived.Test.YtaegkhdkhgemmaaPartB
import Derived.Test.YtaegkhdkhgemmaaPartC
namespace Go.Proofs.Ytaegkhdkhgemmaa
open Go.RowKit Num
theorem high_none (A : Option Addr) (n h : Nat) (w : World) (hl : (dig B64 n).length ≤ h) : W64 w (.slice A 0 0) (n / B64 ^ h) := by
  have e : n / B64 ^ h = 0 := Nat.div_eq_of_lt (lt_of_wlen hl)
  rw [e]
  refine ⟨A, 0, ?_, ?_, ?_⟩
  all_goals rw [dig_zero]
  all_goals first | rfl | exact Nats.nil | exact Nums.nil | exact Nat.le_refl _
set_option maxHeartbeats 4000000 in
set_option maxRecDepth 100000 in
theorem kara_eq {K : Nat} (HM : MulSpec K) (ga oa c gb ob c' La Lb m n : Nat) (w : World) (hA : Nums .u64 w (some ⟨ga, oa, none⟩) (dig B64 m)) (hB : Nums .u64 w (some ⟨gb, ob, none⟩) (dig B64 n))
    (hLa : La = (dig B64 m).length) (hLb : Lb = (dig B64 n).length) (h80 : 80 ≤ Lb) (_hle : Lb ≤ La) (h2 : La < 2 * Lb) (hc : La ≤ c) (hc' : Lb ≤ c') (hbig : La ≤ 1000000000) (hK : (La + 1) / 2 + 1 ≤ K) (hcb : c' = (La + 1) / 2) :
    Calls Try.prog 130 #[.slice (some ⟨ga, oa, none⟩) La c, .slice (some ⟨gb, ob, none⟩) Lb c'] w (SumPost w (m * n)) := by
  obtain ⟨h, hh⟩ : ∃ h, (La + 1) / 2 = h := ⟨_, rfl⟩
  have hhi : ((La : Int) + 1) / 2 = (h : Int) := by omega
  have hca : ¬ c = h := by omega
  rw [hh] at hcb hK
  subst c'
  have b1 : h ≤ Lb := by omega
  have b2 : h < La := by omega
  have b3 : 40 ≤ h := by omega
  have b4 : La - h ≤ h := by omega
  have b5 : Lb - h ≤ h := by omega
  have ha0 := fun w (hA : Nums .u64 w (some ⟨ga, oa, none⟩) (dig B64 m)) => low_half _ c m h w hA (by omega) (by omega) (by omega)
  have hb0 := fun w (hB : Nums .u64 w (some ⟨gb, ob, none⟩) (dig B64 n)) => low_half _ h n h w hB (by omega) (by omega) (by omega)
  have ia0 := fun w (hA : Nums .u64 w (some ⟨ga, oa, none⟩) (dig B64 m)) => low_is _ c m h w hA (by omega) (by omega)
  have ib0 := fun w (hB : Nums .u64 w (some ⟨gb, ob, none⟩) (dig B64 n)) => low_is _ h n h w hB (by omega) (by omega)
  have ia1 := fun w (hA : Nums .u64 w (some ⟨ga, oa, none⟩) (dig B64 m)) => high_is ga oa c m h w hA (by omega)
  have ib1 := fun (w : World) (_ : Nums .u64 w (some ⟨gb, ob, none⟩) (dig B64 n)) => high_none (some ⟨gb, ob, none⟩) n h w (by omega)
  rw [← hLa] at ia1
  have lm0 := dig_len_mod b64_two m h
  have ln0 := dig_len_mod b64_two n h
  have lm1 := dig_len_div b64_two m h
  have ln1 := dig_len_div b64_two n h
  rw [← hLa] at lm1
  rw [← hLb] at ln1
  have em := Nat.mod_add_div m (B64 ^ h)
  have en := Nat.mod_add_div n (B64 ^ h)
  have hlt := Nat.mul_lt_mul_of_lt_of_lt (dig_len_lt b64_two (n := m)) (dig_len_lt b64_two (n := n))
  rw [← hLa, ← hLb, ← Nat.pow_add] at hlt
  generalize m % B64 ^ h = m0 at *
  generalize n % B64 ^ h = n0 at *
  generalize m / B64 ^ h = m1 at *
  generalize n / B64 ^ h = n1 at *
  have ls1 : (dig B64 (m0 + m1)).length ≤ h + 1 := wlen_add lm0 (by omega)
  have ls2 : (dig B64 (n0 + n1)).length ≤ h + 1 := wlen_add ln0 (by omega)
  have M1 : ∀ a b w, W64 w a m0 → W64 w b n0 → Calls Try.prog 111 #[a, b] w (SumPost w (m0 * n0)) := fun a b w h k => HM a b m0 n0 w h k (by omega) (by omega)
  have M2 : ∀ a b w, W64 w a m1 → W64 w b n1 → Calls Try.prog 111 #[a, b] w (SumPost w (m1 * n1)) := fun a b w h k => HM a b m1 n1 w h k (by omega) (by omega)
  have M3 : ∀ a b w, W64 w a (m0 + m1) → W64 w b (n0 + n1) → Calls Try.prog 111 #[a, b] w (SumPost w ((m0 + m1) * (n0 + n1))) := fun a b w h k => HM a b _ _ w h k (by omega) (by omega)
  have S1 : ∀ a b w, W64 w a m0 → W64 w b m1 → Calls Try.prog 82 #[a, b] w (SumPost w (m0 + m1)) := fun a b w h k => sum_any a b m0 m1 w h k (by omega) (by omega)
  have S2 : ∀ a b w, W64 w a n0 → W64 w b n1 → Calls Try.prog 82 #[a, b] w (SumPost w (n0 + n1)) := fun a b w h k => sum_any a b n0 n1 w h k (by omega) (by omega)
  have hmk := make64 (La + Lb) (by omega)
  push_cast at hmk
  have hbits : m0 * n0 < B64 ^ (2 * h) ∧ m1 * n1 < B64 ^ (La + Lb - 2 * h) ∧ (m0 + m1) * (n0 + n1) < B64 ^ (2 * h + 2) := by
    refine ⟨?_, ?_, ?_⟩
    · rw [show 2 * h = h + h by omega, Nat.pow_add]
      exact Nat.mul_lt_mul_of_lt_of_lt (lt_of_wlen lm0) (lt_of_wlen ln0)
    · rw [show La + Lb - 2 * h = (La - h) + (Lb - h) by omega, Nat.pow_add]
      exact Nat.mul_lt_mul_of_lt_of_lt (lt_of_wlen (by omega)) (lt_of_wlen (by omega))
    · rw [show 2 * h + 2 = (h + 1) + (h + 1) by omega, Nat.pow_add]
      exact Nat.mul_lt_mul_of_lt_of_lt (lt_of_wlen ls1) (lt_of_wlen ls2)
  have HA := Lib.hid hA
  have HB := Lib.hid hB
  have H0 := Lib.hid ha0
  have H1 := Lib.hid hb0
  have IA0 := Lib.hid ia0
  have IB0 := Lib.hid ib0
  have IA1 := Lib.hid ia1
  have IB1 := Lib.hid ib1
  have HLA := Lib.hid hLa
  have HLB := Lib.hid hLb
  have HH := Lib.hid hh
  have HM1 := Lib.hid M1
  have HM2 := Lib.hid M2
  have HM3 := Lib.hid M3
  have HS1 := Lib.hid S1
  have HS2 := Lib.hid S2
  have HEM := Lib.hid em
  have HEN := Lib.hid en
  have HLT := Lib.hid hlt
  have HBI := Lib.hid hbits
  have below0 : ∀ k, Below w.heap.size w (w.drewN k) := fun k => below_drewN (Below.refl _ _) k
  have HBE := Lib.hid below0
  clear ha0 hb0 ia0 ib0 ia1 ib1 hLa hLb hh M1 M2 M3 S1 S2 em en hlt hbits HM below0 hA hB lm1 ln1
  go_enter Try.func130, Try.ntmps130
  go_wp2
  go_quiet ((go_at_call 78; exact quiet_l (H0.out _ (HA.out.keep (HBE.out _)))))
  go_wp2
  go_quiet ((go_at_call 78; exact quiet_a (H1.out _ (HB.out.keep (HBE.out _)))))
  go_wp2_with (fail)
  refine (HM1.out _ _ _ (IA0.out _ (HA.out.keep (HBE.out _))) (IB0.out _ (HB.out.keep (HBE.out _)))).mono ?_
  rintro e w1 ⟨v1, rfl, hv1, hb1⟩
  have c1 : Below w.heap.size w w1 := (HBE.out _).trans (hb1.mono (HBE.out _).size)
  obtain ⟨A1, d1, rfl, hd1, k1⟩ := hv1.is
  clear hv1
  have ll1 : (dig B64 (m0 * n0)).length ≤ 2 * h := dig_len_le b64_two HBI.out.1
  obtain ⟨l1, hl1⟩ : ∃ l, (dig B64 (m0 * n0)).length = l := ⟨_, rfl⟩
  have HL1 := Lib.hid hl1
  rw [hl1] at hd1 ll1 ⊢
  clear hl1
  go_wp2_with (fail)
  refine (HM2.out _ _ _ (IA1.out _ (HA.out.keep c1)) (IB1.out _ (HB.out.keep c1))).mono ?_
  rintro e w2 ⟨v2, rfl, hv2, hb2⟩
  have c2 := below_at c1 (Nat.le_refl _) hb2
  have k1' := k1.keep hb2
  obtain ⟨A2, d2', rfl, hd2, k2⟩ := hv2.is
  clear hv2 k1
  have ll2 : (dig B64 (m1 * n1)).length ≤ La + Lb - 2 * h := dig_len_le b64_two HBI.out.2.1
  obtain ⟨l2, hl2⟩ : ∃ l, (dig B64 (m1 * n1)).length = l := ⟨_, rfl⟩
  have HL2 := Lib.hid hl2
  rw [hl2] at hd2 ll2 ⊢
  clear hl2
  go_wp2_with (fail)
  refine (HS1.out _ _ _ (IA0.out _ (HA.out.keep c2)) (IA1.out _ (HA.out.keep c2))).mono ?_
  rintro e w3 ⟨v3, rfl, hv3, hb3⟩
  have c3 := below_at c2 (Nat.le_refl _) hb3
  go_wp2_with (fail)
  refine (HS2.out _ _ _ (IB0.out _ (HB.out.keep c3)) (IB1.out _ (HB.out.keep c3))).mono ?_
  rintro e w4 ⟨v4, rfl, hv4, hb4⟩
  have c4 := below_at c3 (Nat.le_refl _) hb4
  go_wp2_with (fail)
  refine (HM3.out _ _ _ (hv3.is.keep hb4) hv4.is).mono ?_
  rintro e w5 ⟨v5, rfl, ⟨g5, c5, zs5, rfl, hc5, hcz5, hg5, hr5, hl5, ht5⟩, hb5⟩
  have c5' := below_at c4 (Nat.le_refl _) hb5
  clear hv3 hv4
  have hK2 := kara_mid m0 m1 n0 n1
  have hmid5 : RawAt w5 g5 zs5 (dig B64 ((m0 + m1) * (n0 + n1))).length ((m0 + m1) * (n0 + n1)) := ⟨hr5, hl5, by omega, by
    have : seg zs5 0 (dig B64 ((m0 + m1) * (n0 + n1))).length = zs5.take (dig B64 ((m0 + m1) * (n0 + n1))).length := by simp [seg]
    rw [this, ht5, val_dig b64_two]⟩
  have lmid : (dig B64 ((m0 + m1) * (n0 + n1))).length ≤ 2 * h + 2 := dig_len_le b64_two HBI.out.2.2
  have w2g : w2.heap.size ≤ g5 := Nat.le_trans hb3.size (Nat.le_trans hb4.size hg5)
  have d2 : Below w2.heap.size w2 w5 := (hb3.trans (hb4.mono hb3.size)).trans (hb5.mono (Nat.le_trans hb3.size hb4.size))
  have HK2 := Lib.hid hK2
  have HT5 := Lib.hid ht5
  clear hK2 ht5 hr5
  generalize (dig B64 ((m0 + m1) * (n0 + n1))).length = lm at *
  subst hcz5
  go_wp2_with (fail)
  refine (subFrom_raw g5 lm _ (m0 * n0) _ zs5 _ w2 _ hmid5 ⟨_, _, by rw [HL1.out], by rw [HL1.out]; exact hd1, k1'⟩ d2 w2g HK2.out.2.1 (by omega)).mono ?_
  rintro e w6 ⟨zs6, rfl, hmid6, hlen6, hgr6⟩
  have d3 : Below w2.heap.size w2 w6 := d2.grown hgr6 d2.size (fun k hk => by injection hk with hk; omega)
  go_wp2_with (fail)
  refine (subFrom_raw g5 lm _ (m1 * n1) _ zs6 _ w2 _ hmid6 ⟨_, _, by rw [HL2.out], by rw [HL2.out]; exact hd2, k2⟩ d3 w2g HK2.out.2.2 (by omega)).mono ?_
  rintro e w7 ⟨zs7, rfl, hmid7, hlen7, hgr7⟩
  have d4 : Below w2.heap.size w2 w7 := d3.grown hgr7 d3.size (fun k hk => by injection hk with hk; omega)
  rw [HK2.out.1] at hmid7
  have k1z := k1'.keep d4
  have k2z := k2.keep d4
  have hr0 := Row.made w7 .u64 (La + Lb) 24
  have hbA : Below w7.heap.size w7 (w7.alloc (.cells (madeCells #[.int .u64 0] (La + Lb)) 24)) := (Below.refl _ _).alloc (Nat.le_refl _) _
  have q1 := k1z.keep hbA
  have q2 := k2z.keep hbA
  have HR0 := Lib.hid hr0
  have hn1 : (lay (List.replicate (La + Lb) 0) 0 (dig B64 (m0 * n0))).length = La + Lb := by rw [lay_len (by simp only [List.length_replicate, HL1.out]; omega)]; simp
  have HN1 := Lib.hid hn1
  clear hr0 hn1
  go_wp2_with (first
    | (refine wpList_copy_row rfl (.tmp 57) (.tmp 58) rfl _ _ _ _ _ _ rfl rfl _ 0 _ _ HR0.out q1 HL1.out.symm (by omega) (fun _ => rfl) (by simp only [List.length_replicate]; omega) ?_
       intro w8 hr8 hg8
       have hb8 : Below w7.heap.size w7 w8 := hbA.grown hg8 hbA.size (by simp)
       have q3 := q2.grown (nums_ne k2z (Nat.le_refl _)) hg8)
    | (refine wpList_copy_row rfl (.tmp 63) (.tmp 64) rfl _ _ _ _ _ _ rfl rfl _ (2 * h) _ _ (by assumption) (by assumption) HL2.out.symm (by omega) (fun _ => rfl) (by rw [HN1.out]; omega) ?_
       intro w9 hr9 hg9
       have hb9 : Below w7.heap.size w7 w9 := hb8.grown hg9 hb8.size (by simp)))
  have ev : (h : Int) ≤ (La : Int) + (Lb : Int) := by omega
  have nv : ¬ La + Lb = h := by omega
  have q5 : Row .u64 24 w9.drew g5 zs7 := (hmid7.row.below hb9 hmid7.row.lt).drew
  have q6 := q5.nums0 lm
  have t1 := trim_any (some ⟨g5, 0, none⟩) zs5.length lm (zs7.take lm) w9.drew q6 (hmid7.low.take lm) (by rw [List.length_take, Nat.min_eq_left hmid7.le]) (by have := hmid7.le; omega) (by omega)
  have t2 : val B64 (zs7.take lm) = m0 * n1 + m1 * n0 := by have := hmid7.eq; simpa [seg] using this
  rw [t2] at t1
  have hmn : m * n = m0 * n0 + B64 ^ h * B64 ^ h * (m1 * n1) + B64 ^ h * (m0 * n1 + m1 * n0) := by
    have := kara_sum m0 m1 n0 n1 (B64 ^ h)
    rwa [HEM.out, HEN.out] at this
  have hml : m0 * n1 + m1 * n0 < B64 ^ (La + Lb - h) := mid_lt hmn (by rw [show h + (La + Lb - h) = La + Lb by omega]; exact HLT.out)
  have hl3 : (dig B64 (m0 * n1 + m1 * n0)).length ≤ La + Lb - h := dig_len_le b64_two hml
  have q7 := q6.take (dig B64 (m0 * n1 + m1 * n0)).length
  have q8 := trim_take b64_two (hmid7.low.take lm)
  rw [t2] at q8
  rw [q8] at q7
  obtain ⟨Z, hZ⟩ : ∃ Z, lay (lay (List.replicate (La + Lb) 0) 0 (dig B64 (m0 * n0))) (2 * h) (dig B64 (m1 * n1)) = Z := ⟨_, rfl⟩
  have zl : Z.length = La + Lb := by rw [← hZ, lay_len (by rw [HN1.out, HL2.out]; omega), HN1.out]
  have zlow : Low B64 Z := by rw [← hZ]; exact lay_low (lay_low (Low.replicate b64_pos _) (dig_low64 _)) (dig_low64 _)
  have zv : val B64 Z = m0 * n0 + B64 ^ h * B64 ^ h * (m1 * n1) := by
    rw [← hZ, val_two (by rw [HL1.out]; omega) (by rw [HL2.out]; omega), val_dig b64_two, val_dig b64_two, show 2 * h = h + h by omega, Nat.pow_add]
  have zv2 : val B64 Z + B64 ^ h * val B64 (dig B64 (m0 * n1 + m1 * n0)) = m * n := by rw [zv, hmn, val_dig b64_two]
  have zlt : m * n < B64 ^ Z.length := by rw [zl]; exact HLT.out
  rw [hZ] at hr9
  have hr10 := hr9.drew
  have g2 : w.heap.size ≤ g5 := Nat.le_trans c2.size w2g
  have c6 : Below w.heap.size w w7 := (c5'.grown hgr6 c5'.size (fun k hk => by injection hk with hk; omega)) |>.grown hgr7 (by have := c5'.size; have := hgr6.size; omega) (fun k hk => by injection hk with hk; omega)
  have c9 : Below w.heap.size w w9 := below_at c6 (Nat.le_refl _) hb9
  have c10 : Below w.heap.size w w9.drew := c9.drew
  have g7 : w.heap.size ≤ w7.heap.size := c6.size
  have g57 : g5 < w7.heap.size := hmid7.row.lt
  have TT := Lib.hid t1
  have T2 := Lib.hid t2
  have ZL := Lib.hid zl
  have ZV := Lib.hid zv2
  clear t1 t2 hmn q8 hZ zl zv zv2 hr9
  go_still_tail 5, (by kernel_rfl)
  still_call (TT.out.mono fun _ _ ⟨he, hm⟩ => ⟨he, hm.symm⟩)
  refine wpStill_nil ?_
  change wpList _ _ _ _ _ w9.drew
  generalize w9.drew = w10 at *
  go_wp2_with (first
    | (go_at_call 106
       refine (addTo_any w7.heap.size h (La + Lb - h) (La + Lb - h) _ _ Z _ _ _ hr10 zlow (by rw [ZL.out]; omega) q7 (dig_low64 _) (fun _ a ha => by injection ha with ha; subst ha; exact Nat.ne_of_lt g57) rfl hl3 (by omega)).mono ?_
       rintro e w11 ⟨zs', cy, rfl, hst, hr11, hg11⟩
       have hb11 : Below w.heap.size w w11 := c10.grown hg11 c10.size (fun k hk => by injection hk with hk; omega)
       have hl11 := hst.len.trans ZL.out
       have hn11 : Nums .u64 w11 (some ⟨w7.heap.size, 0, none⟩) zs' := by have := hr11.nums0 zs'.length; rwa [List.take_length] at this
       have HL11 := Lib.hid hl11
       clear hl11)
    | (go_at_call 78
       refine (trim_any _ (La + Lb) (La + Lb) zs' _ (by assumption) hst.low HL11.out.symm (Nat.le_refl _) (by omega)).mono ?_
       rintro e w12 ⟨rfl, rfl⟩))
  go_ret
  have hv := hst.whole (by rw [ZL.out]; omega) hl3 ZV.out zlt
  rw [← hv]
  refine ⟨_, rfl, ?_, hb11⟩
  have := own_of_trim b64_two hr11 hst.low g7
  rw [HL11.out] at this
  exact this
end Go.Proofs.Ytaegkhdkhgemmaa

namespace Go.Proofs.Ytaegkhdkhgemmaa
open Go.RowKit Num

/-- One block of a number. -/
theorem block_is (ga oa c m i j : Nat) (w : World) (hA : Nums .u64 w (some ⟨ga, oa, none⟩) (dig B64 m)) (hc : (dig B64 m).length ≤ c) (hij : i + j ≤ (dig B64 m).length) (hbig : (dig B64 m).length ≤ 1000000000) :
    (Calls Try.prog 78 #[.slice (some ⟨ga, oa + i, none⟩) j (c - i)] w fun e w' => e = .returned (.slice (some ⟨ga, oa + i, none⟩) (dig B64 (m / B64 ^ i % B64 ^ j)).length (c - i)) ∧ w = w')
    ∧ W64 w (.slice (some ⟨ga, oa + i, none⟩) (dig B64 (m / B64 ^ i % B64 ^ j)).length (c - i)) (m / B64 ^ i % B64 ^ j) := by
  obtain ⟨A, d, e, _, hN⟩ := high_is ga oa c m i w hA hc
  injection e with e1 e2 e3
  subst e1 e3
  have hl := dig_len_div b64_two m i
  exact ⟨low_half _ _ _ j w hN (by omega) (by omega) (by omega), low_is _ _ _ j w hN (by omega) (by omega)⟩
theorem mod_block (b m i j : Nat) : m % b ^ i + b ^ i * (m / b ^ i % b ^ j) = m % b ^ (i + j) := by
  rw [Nat.pow_add, Nat.mod_mul]

set_option maxHeartbeats 4000000 in
set_option maxRecDepth 100000 in
theorem blocks_any {K : Nat} (HM : MulSpec K) (ga oa c gb ob c' La Lb m n : Nat) (w : World) (hA : Nums .u64 w (some ⟨ga, oa, none⟩) (dig B64 m)) (hB : Nums .u64 w (some ⟨gb, ob, none⟩) (dig B64 n))
    (hLa : La = (dig B64 m).length) (hLb : Lb = (dig B64 n).length) (h80 : 80 ≤ Lb) (h2 : 2 * Lb ≤ La) (hc : La ≤ c) (hc' : Lb ≤ c') (hbig : La ≤ 1000000000) (hK : Lb ≤ K) :
    Calls Try.prog 129 #[.slice (some ⟨ga, oa, none⟩) La c, .slice (some ⟨gb, ob, none⟩) Lb c'] w (SumPost w (m * n)) := by
  have hmk := make64 (La + Lb) (by omega)
  push_cast at hmk
  have hr0 := Row.made w .u64 (La + Lb) 24
  have hbA : Below w.heap.size w (w.alloc (.cells (madeCells #[.int .u64 0] (La + Lb)) 24)) := (Below.refl _ _).alloc (Nat.le_refl _) _
  have hv0 : val B64 (List.replicate (La + Lb) 0) = m % B64 ^ 0 * n := by rw [val_replicate, Nat.pow_zero, Nat.mod_one, Nat.zero_mul]
  have hlt := Nat.mul_lt_mul_of_lt_of_lt (dig_len_lt b64_two (n := m)) (dig_len_lt b64_two (n := n))
  rw [← hLa, ← hLb, ← Nat.pow_add] at hlt
  have HLT := Lib.hid hlt
  have HV0 := Lib.hid hv0
  have HR0 := Lib.hid hr0
  have HA := Lib.hid hA
  have HB := Lib.hid hB
  have HLA := Lib.hid hLa
  have HLB := Lib.hid hLb
  have HMM := Lib.hid HM
  clear hA hB hLa hLb HM hr0 hv0 hlt
  go_enter Try.func129, Try.ntmps129
  go_wp2
  go_loopw [6] (fun t wr => ∃ (i : Nat) (zs : List Nat), i ≤ La + Lb ∧ t = .int .i64 (i : Int) ∧ zs.length = La + Lb ∧ Low B64 zs ∧ val B64 zs = m % B64 ^ i * n ∧ Row .u64 24 wr w.heap.size zs ∧ Below w.heap.size w wr) (fun t _ => La + Lb - (intOf t).toNat)
  case atStart => exact ⟨0, _, Nat.zero_le _, rfl, by simp, Low.replicate b64_pos _, HV0.out, HR0.out, hbA⟩
  case round =>
    clear HR0 HV0 hbA hmk
    obtain ⟨i, zs, hi, rfl, hzl, hzlow, hzv, hrow, hbl⟩ := hrel
    have HZL := Lib.hid hzl
    have HZV := Lib.hid hzv
    clear hzl hzv
    by_cases hlt : i < La
    · have hci : ¬ c = i := by omega
      have ev : (i : Int) ≤ (La : Int) + (Lb : Int) := by omega
      have nv : ¬ La + Lb = i := by omega
      obtain ⟨j, hj⟩ : ∃ j, (min ((i : Int) + (Lb : Int)) (La : Int)).toNat - i = j := ⟨_, rfl⟩
      have j1 : j ≤ Lb := by omega
      have j2 : i + j ≤ La := by omega
      have j3 : i + j = La ∨ j = Lb := by omega
      have HJ := Lib.hid hj
      have J3 := Lib.hid j3
      have bc := fun w (hA : Nums .u64 w (some ⟨ga, oa, none⟩) (dig B64 m)) => block_is ga oa c m i j w hA (by rw [← HLA.out]; exact hc) (by rw [← HLA.out]; exact j2) (by rw [← HLA.out]; exact hbig)
      have bl : (dig B64 (m / B64 ^ i % B64 ^ j)).length ≤ j := dig_len_mod b64_two _ _
      have bm := mod_block B64 m i j
      obtain ⟨mb, hmb⟩ : ∃ mb, m / B64 ^ i % B64 ^ j = mb := ⟨_, rfl⟩
      rw [hmb] at bc bl bm
      have BC := Lib.hid bc
      have BM := Lib.hid bm
      have hpl : (dig B64 (mb * n)).length ≤ La + Lb - i := by
        refine dig_len_le b64_two ?_
        have h1 := Nat.mul_lt_mul_of_lt_of_lt (lt_of_wlen bl) (dig_len_lt b64_two (n := n))
        rw [← HLB.out, ← Nat.pow_add] at h1
        exact Nat.lt_of_lt_of_le h1 (Nat.pow_le_pow_right b64_pos (by omega))
      clear hj j3 bc bm hmb
      go_wp2_with (go_at_call 78; rw [HJ.out]; refine ((BC.out _ (HA.out.keep hbl)).1).mono ?_; rintro e w1 ⟨rfl, rfl⟩)
      have hrow1 := hrow.drew
      have hbl1 : Below w.heap.size w wr.drew := hbl.drew
      have hgz : w.heap.size < wr.drew.heap.size := hrow1.lt
      clear hrow hbl
      have hmul := HMM.out _ _ mb n wr.drew ((BC.out _ (HA.out.keep hbl1)).2) ⟨_, _, by rw [← HLB.out], by rw [← HLB.out]; exact hc', HB.out.keep hbl1⟩ (by omega) (by rw [← HLB.out]; exact hK)
      have HMUL := Lib.hid hmul
      clear hmul
      go_region_with (first
        | (go_at_call 111
           refine HMUL.out.mono ?_
           rintro e w2 ⟨v2, rfl, ⟨g2, c2, zs2, rfl, hc2, hcz2, hg2, hr2, hl2, ht2⟩, hb2⟩
           have hrow2 := hrow1.below hb2 hgz
           have hn2 : Nums .u64 w2 (some ⟨g2, 0, none⟩) (dig B64 (mb * n)) := by have := hr2.nums0 (dig B64 (mb * n)).length; rwa [ht2] at this
           have hbl2 : Below w.heap.size w w2 := below_at hbl1 (Nat.le_refl _) hb2
           have HC2 := Lib.hid hcz2
           clear hcz2 ht2 hr2)
        | (go_at_call 106
           refine (addTo_any w.heap.size i (La + Lb - i) (La + Lb - i) _ _ zs _ _ _ hrow2 hzlow (by rw [HZL.out]; omega) hn2 (dig_low64 _) (fun _ a ha => by injection ha with ha; subst ha; exact Nat.ne_of_gt (Nat.lt_of_lt_of_le hgz hg2)) rfl hpl (by omega)).mono ?_
           rintro e w3 ⟨zs', cy, rfl, hst, hr3, hg3⟩
           have hbl3 : Below w.heap.size w w3 := hbl2.grown hg3 hbl2.size (fun k hk => by injection hk with hk; omega)))
      go_wp2_with (fail)
      go_roundw
      case rel =>
        refine ⟨i + Lb, zs', by omega, by go_num, hst.len.trans HZL.out, hst.low, ?_, hr3, hbl3⟩
        have e1 : m % B64 ^ (i + Lb) = m % B64 ^ (i + j) := by
          rcases J3.out with h | h
          · have hm : m < B64 ^ La := lt_of_wlen (by rw [← HLA.out]; exact Nat.le_refl _)
            rw [h, Nat.mod_eq_of_lt hm, Nat.mod_eq_of_lt (Nat.lt_of_lt_of_le hm (Nat.pow_le_pow_right b64_pos (by omega)))]
          · rw [h]
        refine hst.whole (by rw [HZL.out]; omega) hpl ?_ ?_
        · rw [HZV.out, val_dig b64_two, e1, ← BM.out, Nat.add_mul, Nat.mul_assoc]
        · rw [HZL.out]
          exact Nat.lt_of_le_of_lt (Nat.mul_le_mul_right _ (Nat.mod_le _ _)) HLT.out
      case measure => simp [intOf]; omega
    · have hm : m < B64 ^ La := lt_of_wlen (by rw [← HLA.out]; exact Nat.le_refl _)
      have hv : val B64 zs = m * n := by rw [HZV.out, Nat.mod_eq_of_lt (Nat.lt_of_lt_of_le hm (Nat.pow_le_pow_right b64_pos (by omega)))]
      have hn := hrow.nums0 zs.length
      rw [List.take_length] at hn
      have HV := Lib.hid hv
      clear hv
      go_wp2_with (go_at_call 78
                   refine (trim_any _ (La + Lb) (La + Lb) zs _ hn hzlow HZL.out.symm (Nat.le_refl _) (by omega)).mono ?_
                   rintro e w1 ⟨rfl, rfl⟩)
      go_ret
      rw [← HV.out]
      refine ⟨_, rfl, ?_, hbl⟩
      have := own_of_trim b64_two hrow hzlow (Nat.le_refl w.heap.size)
      rw [HZL.out] at this
      exact this
end Go.Proofs.Ytaegkhdkhgemmaa

namespace Go.Proofs.Ytaegkhdkhgemmaa
open Go.RowKit Num

/-- Karatsuba's and the blocks' method, whichever multiply picks. -/
theorem big_ways {N : Nat} (HM : MulSpec (N - 1)) (A A' : Option Addr) (c c' La Lb m n : Nat) (w : World) (hA : Nums .u64 w A (dig B64 m)) (hB : Nums .u64 w A' (dig B64 n)) (hLa : La = (dig B64 m).length) (hLb : Lb = (dig B64 n).length)
    (h80 : 80 ≤ Lb) (hle : Lb ≤ La) (hc : La ≤ c) (hc' : Lb ≤ c') (hbig : La ≤ 1000000000) (hN : La ≤ N) :
    (La < 2 * Lb → Calls Try.prog 130 #[.slice A La c, .slice A' Lb c'] w (SumPost w (m * n))) ∧ (2 * Lb ≤ La → Calls Try.prog 129 #[.slice A La c, .slice A' Lb c'] w (SumPost w (m * n))) := by
  obtain ⟨ga, oa, rfl, _, _⟩ := hA (by omega)
  obtain ⟨gb, ob, rfl, _, _⟩ := hB (by omega)
  refine ⟨fun h2 => ?_, fun h2 => blocks_any HM ga oa c gb ob c' La Lb m n w hA hB hLa hLb h80 h2 hc hc' hbig (by omega)⟩
  by_cases hcb : c' = (La + 1) / 2
  · exact kara_eq HM ga oa c gb ob c' La Lb m n w hA hB hLa hLb h80 hle h2 hc hc' hbig (by omega) hcb
  · exact kara_any HM ga oa c gb ob c' La Lb m n w hA hB hLa hLb h80 hle h2 hc hc' hbig (by omega) hcb

set_option maxHeartbeats 400000 in
theorem mul_step {N : Nat} (HM : MulSpec (N - 1)) (a b : Value) (m n : Nat) (w : World) (ha : W64 w a m) (hb : W64 w b n) (hm : (dig B64 m).length ≤ N) (hn : (dig B64 n).length ≤ N) (hbig : N ≤ 1000000000)
    (h80 : 80 ≤ (dig B64 m).length) (h80' : 80 ≤ (dig B64 n).length) : Calls Try.prog 111 #[a, b] w (SumPost w (m * n)) := by
  obtain ⟨A, c, rfl, hc, hA⟩ := ha
  obtain ⟨A', c', rfl, hc', hA'⟩ := hb
  generalize hL : (dig B64 m).length = L at *
  generalize hL' : (dig B64 n).length = L' at *
  by_cases hlt : L < L'
  · have h := big_ways HM A' A c' c L' L n m w hA' hA hL'.symm hL.symm h80 (by omega) hc' hc (by omega) hn
    rw [Nat.mul_comm n m] at h
    have H := Lib.hid h
    clear h hL hL' HM hA hA'
    by_cases h2 : L' < 2 * L
    · go_enter Try.func111, Try.ntmps111
      go_wp2_with (go_at_call 130; refine (H.out.1 h2).mono ?_; rintro e w1 ⟨v, rfl, hv, hb1⟩)
      go_ret
      exact ⟨_, rfl, hv, hb1⟩
    · go_enter Try.func111, Try.ntmps111
      go_wp2_with (go_at_call 129; refine (H.out.2 (by omega)).mono ?_; rintro e w1 ⟨v, rfl, hv, hb1⟩)
      go_ret
      exact ⟨_, rfl, hv, hb1⟩
  · have h := big_ways HM A A' c c' L L' m n w hA hA' hL.symm hL'.symm h80' (by omega) hc hc' (by omega) hm
    have H := Lib.hid h
    clear h hL hL' HM hA hA'
    by_cases h2 : L < 2 * L'
    · go_enter Try.func111, Try.ntmps111
      go_wp2_with (go_at_call 130; refine (H.out.1 h2).mono ?_; rintro e w1 ⟨v, rfl, hv, hb1⟩)
      go_ret
      exact ⟨_, rfl, hv, hb1⟩
    · go_enter Try.func111, Try.ntmps111
      go_wp2_with (go_at_call 129; refine (H.out.2 (by omega)).mono ?_; rintro e w1 ⟨v, rfl, hv, hb1⟩)
      go_ret
      exact ⟨_, rfl, hv, hb1⟩

/-- multiply, whatever the factors' lengths. -/
theorem mulSpec_all : ∀ N, N ≤ 1000000000 → MulSpec N := by
  intro N
  induction N with
  | zero => exact fun _ a b m n w ha hb hm hn => mul_short a b m n w ha hb (by omega) (by omega) (.inl (by omega))
  | succ N ih =>
    intro h a b m n w ha hb hm hn
    by_cases h1 : (dig B64 m).length ≤ 79
    · exact mul_short a b m n w ha hb (by omega) (by omega) (.inl h1)
    · by_cases h2 : (dig B64 n).length ≤ 79
      · exact mul_short a b m n w ha hb (by omega) (by omega) (.inr h2)
      · exact mul_step (N := N + 1) (ih (by omega)) a b m n w ha hb hm hn h (by omega) (by omega)
theorem mulAt_all {m n : Nat} (hm : (dig B64 m).length ≤ 1000000000) (hn : (dig B64 n).length ≤ 1000000000) : MulAt m n := fun a b w ha hb => mulSpec_all _ (Nat.le_refl _) a b m n w ha hb hm hn
end Go.Proofs.Ytaegkhdkhgemmaa

namespace Go.Proofs.Ytaegkhdkhgemmaa
open Go.RowKit Num
theorem make35 (n : Nat) (h : n ≤ 1000000000000) (w : World) : (Instr.makeSlice 35 (.int .i64 (n : Int)) (.int .i64 (n : Int))).run Try.prog w = .ok (.slice (some ⟨w.heap.size, 0, none⟩) n n) (w.alloc (.cells (madeCells #[.int .u32 0] n) 56)) :=
  run_make_row' 35 56 (.int .u32 0) 4 Try.underlying35 info56 rfl .i64 .i64 n (by omega) (by omega) w
/-- One step: a product, a digit and a carry that stay below 2^64, and the two halves of their sum: as the walk shows them. -/
theorem mac_ex (m x o c : Nat) (hm : m < B32) (hx : x < B32) (ho : o < B32) (hc : c < B32) : ∃ p s1 s lo hi : Nat,
    IntKind.u64.wrap ((m : Int) * (x : Int)) = (p : Int) ∧ IntKind.u64.wrap ((p : Int) + (o : Int)) = (s1 : Int) ∧ IntKind.u64.wrap ((s1 : Int) + (c : Int)) = (s : Int) ∧ (s : Int) % 4294967296 = (lo : Int) ∧ (s : Int) / 4294967296 = (hi : Int) ∧
    IntKind.u32.wrap (lo : Int) = (lo : Int) ∧ (lo : Int) % 4294967296 = (lo : Int) ∧ IntKind.u64.wrap (hi : Int) = (hi : Int) ∧ IntKind.u32.wrap (hi : Int) = (hi : Int) ∧ (hi : Int) % 4294967296 = (hi : Int) ∧ (s : Int).tmod 4294967296 = (lo : Int) ∧ (s : Int).tdiv 4294967296 = (hi : Int) ∧
    IntKind.u64.wrap (m : Int) = (m : Int) ∧ IntKind.u64.wrap (x : Int) = (x : Int) ∧ IntKind.u64.wrap (o : Int) = (o : Int) ∧ lo + B32 * hi = o + x * m + c ∧ lo < B32 ∧ hi < B32 := by
  have hb := word_bound (b := B32) ho hx hm hc (lo := (o + x * m + c) % 4294967296) (hi := (o + x * m + c) / 4294967296) (by unfold B32; omega)
  unfold B32 at *
  have hp : x * m < 4294967296 * 4294967296 := Nat.mul_lt_mul_of_lt_of_lt hx hm
  have hmx : (m : Int) * (x : Int) = ((x * m : Nat) : Int) := by push_cast; exact Int.mul_comm _ _
  generalize x * m = p at *
  refine ⟨p, p + o, p + o + c, (o + p + c) % 4294967296, (o + p + c) / 4294967296, ?_, ?_, ?_, by omega, by omega, ?_, by omega, ?_, ?_, by omega, ?_, ?_, ?_, ?_, ?_, by omega, by omega, by omega⟩
  · rw [IntKind.wrap_u64, hmx]; omega
  · rw [IntKind.wrap_u64]; omega
  · rw [IntKind.wrap_u64]; omega
  · rw [IntKind.wrap_u32']; omega
  · rw [IntKind.wrap_u64]; omega
  · rw [IntKind.wrap_u32']; omega
  · rw [Int.tmod_eq_emod_of_nonneg (by omega)]; omega
  · rw [Int.tdiv_eq_ediv_of_nonneg (by omega)]; omega
  · rw [IntKind.wrap_u64]; omega
  · rw [IntKind.wrap_u64]; omega
  · rw [IntKind.wrap_u64]; omega
set_option maxHeartbeats 2000000 in
set_option maxRecDepth 100000 in
theorem refMul_any (A A' : Option Addr) (c c' L L' : Nat) (xs ys : List Nat) (w : World) (hA : Nums .u32 w A xs) (hA' : Nums .u32 w A' ys) (hx : Low B32 xs) (hy : Low B32 ys) (hL : L = xs.length) (hL' : L' = ys.length)
    (hl : L ≤ 1000000) (hl' : L' ≤ 1000000) : Calls Try.prog 46 #[.slice A L c, .slice A' L' c'] w (LsPost w (dig B32 (val B32 xs * val B32 ys))) := by
  have hmk := make35 (L + L' + 1) (by omega)
  push_cast at hmk
  have hr0 := Row.made w .u32 (L + L' + 1) 56
  have hbA : Below w.heap.size w (w.alloc (.cells (madeCells #[.int .u32 0] (L + L' + 1)) 56)) := (Below.refl _ _).alloc (Nat.le_refl _) _
  have hst0 := MulSt.start b32_two ys (xs ++ [0])
  rw [List.length_append, List.length_singleton, ← hL, ← hL', show L' + (L + 1) = L + L' + 1 by omega] at hst0
  have HR0 := Lib.hid hr0
  have HL := Lib.hid hL
  have HL' := Lib.hid hL'
  clear hL hL' hr0
  go_enter Try.func46, Try.ntmps46
  go_wp2
  go_loopw [6] (fun t wr => ∃ (i : Nat) (zs : List Nat), i ≤ L ∧ t = .int .i64 (i : Int) ∧ MulSt B32 ys (xs ++ [0]) i zs ∧ Row .u32 56 wr w.heap.size zs ∧ Below w.heap.size w wr) (fun t _ => L - (intOf t).toNat)
  case atStart => exact ⟨0, _, Nat.zero_le _, rfl, hst0, HR0.out, hbA⟩
  case round =>
    clear hst0 HR0 hbA hmk
    obtain ⟨i, zs, hi, rfl, hst, hrow, hbl⟩ := hrel
    have hlen := hst.len
    rw [List.length_append, List.length_singleton, ← HL.out, ← HL'.out] at hlen
    have HLEN := Lib.hid hlen
    clear hlen
    by_cases hlt : i < L
    · obtain ⟨q, qo, v, rfl, hq, hv, hcv⟩ := (hA.keep hbl).at_ (i := i) (by have := HL.out; omega)
      have hvl : v < B32 := hx v (List.mem_of_getElem? hv)
      have HV := Lib.hid hv
      clear hv
      go_wp2_with (fail)
      go_loopw [7, 8] (fun q t wr2 => ∃ (k cy : Nat) (zs' : List Nat), k ≤ L' ∧ q = .int .u64 (cy : Int) ∧ t = .int .i64 (k : Int) ∧ ScaleSt B32 zs ys v i k zs' cy ∧ Row .u32 56 wr2 w.heap.size zs' ∧ Below w.heap.size w wr2) (fun _ t _ => L' - (intOf t).toNat)
      case atStart => exact ⟨0, 0, zs, Nat.zero_le _, rfl, rfl, ScaleSt.start b32_two hst.low, hrow, hbl⟩
      case round =>
        obtain ⟨k, cy, zs', hk, rfl, rfl, hsc, hrow2, hbl2⟩ := hrel
        by_cases hlk : k < L'
        · obtain ⟨q2, qo2, x, rfl, hq2, hxv, hcx⟩ := (hA'.keep hbl2).at_ (i := k) (by have := HL'.out; omega)
          have hxl : x < B32 := hy x (List.mem_of_getElem? hxv)
          obtain ⟨g', off', v', e', hq', hv', hcv'⟩ := (hA.keep hbl2).at_ (i := i) (by have := HL.out; omega)
          injection e' with e'
          injection e' with e1 e2
          subst e1 e2
          rw [HV.out] at hv'
          injection hv' with hv'
          subst hv'
          have hzl : i + k < zs'.length := by have h1 := hsc.len; have h2 := HLEN.out; omega
          obtain ⟨o, ho⟩ : ∃ o, zs'[i + k]? = some o := ⟨zs'[i + k], List.getElem?_eq_getElem _⟩
          have hol : o < B32 := hsc.low o (List.mem_of_getElem? ho)
          have hco := hrow2.cell ho
          have hfo := hrow2.frozen (i + k)
          obtain ⟨p, s1, s, lo, hi', w1, w2, w3, w4, w5, w6, w7, w8, w9, wa, wb, wc, wd, we, wf, hs, hlo, hhi⟩ := mac_ex v x o cy hvl hxl hol hsc.le
          have hstep := hsc.step ho hxv hs hlo hhi
          have HST := Lib.hid hstep
          clear hstep hs hlo hhi ho hxv hol hxl hsc hcv
          go_wp2_with (fail)
          go_quiet (fail)
          go_wp2
          go_roundw
          case rel => exact ⟨k + 1, hi', zs'.set (i + k) lo, by omega, rfl, by go_num, HST.out, (Row.of_block hrow2 (by rfl)).set (i + k) lo, below_set (below_drewN hbl2 _) (Nat.le_refl _) _⟩
          case measure => simp [intOf]; omega
        · have hkL : k = L' := by omega
          subst hkL
          have hzl : i + k < zs'.length := by have h1 := hsc.len; have h2 := HLEN.out; omega
          have hcy : IntKind.u32.wrap (cy : Int) = (cy : Int) := by have := hsc.le; unfold B32 at this; rw [IntKind.wrap_u32']; omega
          have hcy2 : (cy : Int) % 4294967296 = (cy : Int) := by have := hsc.le; unfold B32 at this; omega
          have hik : i + k < L + k + 1 := by omega
          obtain ⟨o, ho⟩ : ∃ o, zs'[i + k]? = some o := ⟨zs'[i + k], List.getElem?_eq_getElem _⟩
          have hco := hrow2.cell ho
          have hfo := hrow2.frozen (i + k)
          have HSC := Lib.hid hsc
          clear hsc ho
          go_wp2
          go_roundw
          case rel =>
            refine ⟨i + 1, zs'.set (i + k) cy, by omega, by go_num, ?_, hrow2.set (i + k) cy, below_set hbl2 (Nat.le_refl _) _⟩
            have := hst.step (by rw [List.length_append]; have := HL.out; omega) (by rw [List.getElem?_append_left (by have := HL.out; omega)]; exact HV.out) (by rw [← HL'.out]; exact HSC.out)
            rw [← HL'.out, Nat.add_comm k i] at this
            exact this
          case measure => simp [intOf]; omega
    · have hiL : i = L := by omega
      subst hiL
      have hv := hst.eq
      rw [HL.out, List.take_left, Nat.mul_comm] at hv
      have hn := hrow.nums0 zs.length
      rw [List.take_length] at hn
      have hzl : zs.length = i + L' + 1 := by have := HLEN.out; omega
      have htr := refTrim_l (.slice (some ⟨w.heap.size, 0, none⟩) (i + L' + 1) (i + L' + 1)) zs wr ⟨_, _, by rw [hzl], by omega, by omega, hn⟩ hst.low (by omega)
      rw [hv] at htr
      have HT := Lib.hid htr
      clear htr hv hn hzl hst hx hy hA hA'
      go_wp2_with (go_at_call 80; refine HT.out.mono ?_; rintro e w9 ⟨v9, rfl, hv9, hb9⟩)
      go_ret
      exact ⟨_, rfl, hv9.mono hbl.size, below_at hbl (Nat.le_refl _) hb9⟩
end Go.Proofs.Ytaegkhdkhgemmaa

namespace Go.Proofs.Ytaegkhdkhgemmaa
open Go.RowKit Num

theorem prod_len {m n K J : Nat} (hm : (dig B32 m).length ≤ K) (hn : (dig B32 n).length ≤ J) : (dig B32 (m * n)).length ≤ K + J := by
  have h1 := Nat.lt_of_lt_of_le (dig_len_lt b32_two (n := m)) (Nat.pow_le_pow_right b32_pos hm)
  have h2 := Nat.lt_of_lt_of_le (dig_len_lt b32_two (n := n)) (Nat.pow_le_pow_right b32_pos hn)
  refine dig_len_le b32_two ?_
  rw [Nat.pow_add]
  exact Nat.mul_lt_mul_of_lt_of_lt h1 h2
theorem refMul_call (a b : Value) (m n : Nat) (w : World) (ha : N32 w a m) (hb : N32 w b n) (hm : (dig B32 m).length ≤ 1000) (hn : (dig B32 n).length ≤ 1000) : Calls Try.prog 46 #[a, b] w (LsPost w (dig B32 (m * n))) := by
  obtain ⟨A, c, rfl, _, hA⟩ := ha
  obtain ⟨A', c', rfl, _, hB⟩ := hb
  have := refMul_any A A' c c' _ _ _ _ w hA hB (low_dig b32_two m) (low_dig b32_two n) rfl rfl (by omega) (by omega)
  rw [val_dig b32_two, val_dig b32_two] at this
  exact this

set_option maxHeartbeats 2000000 in
set_option maxRecDepth 100000 in
theorem muls_bad (A A' : Option Addr) (c c' L L' : Nat) (xs ys : List Nat) (w : World) (hA : Nums .u32 w A xs) (hA' : Nums .u32 w A' ys) (hL : L = xs.length) (hL' : L' = ys.length) (hc : L ≤ c) (hc' : L' ≤ c') (hnil : A = none → c = 0) (hnil' : A' = none → c' = 0)
    (hbad : chk2 (xs.take 160) (ys.take 160) ≠ 0) : Calls Try.prog 5 #[.slice A L c, .slice A' L' c'] w (LivesPost w) := by
  have hcut := fun w' (h : Below w.heap.size w w') => cut_any A c L 160 xs w' (hA.keep h) hL hc hnil (by omega)
  have hcut' := fun w' (h : Below w.heap.size w w') => cut_any A' c' L' 160 ys w' (hA'.keep h) hL' hc' hnil' (by omega)
  have l1 : (xs.take 160).length ≤ 160 := by rw [List.length_take]; omega
  have l2 : (ys.take 160).length ≤ 160 := by rw [List.length_take]; omega
  generalize xs.take 160 = us at *
  generalize ys.take 160 = vs at *
  have hlu : ∀ B w' a, OwnLs B w' a us → Limbs w' a us := fun B w' a h => h.limbs (by omega)
  have hlv : ∀ B w' a, OwnLs B w' a vs → Limbs w' a vs := fun B w' a h => h.limbs (by omega)
  have h45 := fun a b w h k => mul_bad a b us vs w h k hbad
  have h40 := fun a b w h k => both_any a b us vs w h k
  generalize chk2 us vs = r at *
  have hq : (r != 0) = true := by simp [hbad]
  have hq0 : (r == r) = true := by simp
  have h41 := fun b w => is_err b r w hbad
  have HC := Lib.hid hcut
  have HC' := Lib.hid hcut'
  have HLU := Lib.hid hlu
  have HLV := Lib.hid hlv
  have H45 := Lib.hid h45
  have H40 := Lib.hid h40
  have H41 := Lib.hid h41
  have HB := Lib.hid hbad
  clear hcut hcut' hlu hlv h45 h40 h41 hbad hA hA' hL hL' hnil hnil' l1 l2
  go_enter Try.func5, Try.ntmps5
  go_wp2_with (fail)
  refine (HC.out _ (Below.refl _ _)).mono ?_
  rintro e w1 ⟨va, rfl, hva, hb1⟩
  have ka := HLU.out _ _ _ hva
  go_wp2_with (fail)
  refine (HC'.out _ hb1).mono ?_
  rintro e w2 ⟨vb, rfl, hvb, hb2⟩
  have kb := HLV.out _ _ _ hvb
  have b2 := below_at hb1 (Nat.le_refl _) hb2
  have ka2 := ka.keep hb2
  go_wp2_with (first
    | (go_at_call 45; refine (H45.out _ _ _ ka2 kb).mono ?_; rintro e w3 ⟨rfl, hb3⟩
       have b3 := below_at b2 (Nat.le_refl _) hb3
       have ka3 := ka2.keep hb3
       have kb3 := kb.keep hb3)
    | (go_at_call 40; refine (H40.out _ _ _ ka3 kb3).mono ?_; rintro e w6 ⟨rfl, rfl⟩))
  refine (H41.out _ _).mono ?_
  rintro e w8 ⟨rfl, hb8⟩
  have b8 := below_at b3 (Nat.le_refl _) hb8
  go_wp2_with (fail)
  refine (lives_any _).mono ?_
  rintro e w9 ⟨rfl, hb9⟩
  have b9 := below_at b8 (Nat.le_refl _) hb9
  go_wp2
  go_ret
  exact ⟨rfl, b9⟩

set_option maxHeartbeats 2000000 in
set_option maxRecDepth 100000 in
theorem muls_ok (A A' : Option Addr) (c c' L L' m n : Nat) (xs ys : List Nat) (w : World) (hA : Nums .u32 w A xs) (hA' : Nums .u32 w A' ys) (hL : L = xs.length) (hL' : L' = ys.length) (hc : L ≤ c) (hc' : L' ≤ c') (hnil : A = none → c = 0) (hnil' : A' = none → c' = 0)
    (hm : xs.take 160 = dig B32 m) (hn : ys.take 160 = dig B32 n) : Calls Try.prog 5 #[.slice A L c, .slice A' L' c'] w (LivesPost w) := by
  have hcut := fun w' (h : Below w.heap.size w w') => cut_any A c L 160 xs w' (hA.keep h) hL hc hnil (by omega)
  have hcut' := fun w' (h : Below w.heap.size w w') => cut_any A' c' L' 160 ys w' (hA'.keep h) hL' hc' hnil' (by omega)
  have l1 : (xs.take 160).length ≤ 160 := by rw [List.length_take]; omega
  have l2 : (ys.take 160).length ≤ 160 := by rw [List.length_take]; omega
  rw [hm] at hcut l1
  rw [hn] at hcut' l2
  have ls : (dig B32 (m * n)).length ≤ 320 := prod_len l1 l2
  have hp : nbits (m * n) ≤ 8388608 := Nat.le_trans (bits_of_len ls) (by omega)
  have w1 := words_le (n := m) (K := 500) (by omega)
  have w2 := words_le (n := n) (K := 500) (by omega)
  have hat : MulAt m n := mulAt_all (by omega) (by omega)
  have hlu : ∀ B w' a, OwnLs B w' a (dig B32 m) → Limbs w' a (dig B32 m) := fun B w' a h => h.limbs (by omega)
  have hlv : ∀ B w' a, OwnLs B w' a (dig B32 n) → Limbs w' a (dig B32 n) := fun B w' a h => h.limbs (by omega)
  have h45 := fun a b w (h : Limbs w a (dig B32 m)) (k : Limbs w b (dig B32 n)) => mul_at (N := 500) a b m n w hat (by omega) h.is k.is (by omega) (by omega) (by omega) (by omega) hp
  have h40 := fun a b w h k => both_any a b (dig B32 m) (dig B32 n) w h k
  have h46 := fun a b w (h : Limbs w a (dig B32 m)) (k : Limbs w b (dig B32 n)) => refMul_call a b m n w h.is k.is (by omega) (by omega)
  have h41b : ∀ B a b w, N32 w a (m * n) → OwnLs B w b (dig B32 (m * n)) → Calls Try.prog 41 #[a, .int .i64 0, b, .int .i64 0] w (LivesPost w) := fun B a b w h k => is_ok a b (m * n) w h (k.limbs (by omega)) (by omega)
  rw [chk2, if_pos (chk_dig (by omega)), chk_dig (by omega)] at h40
  have HC := Lib.hid hcut
  have HC' := Lib.hid hcut'
  have HLU := Lib.hid hlu
  have HLV := Lib.hid hlv
  have H45 := Lib.hid h45
  have H40 := Lib.hid h40
  have H41 := Lib.hid h41b
  have H46 := Lib.hid h46
  clear hcut hcut' hlu hlv h45 h40 h41b h46 hA hA' hL hL' hnil hnil' l1 l2 hp ls hm hn hat w1 w2
  go_enter Try.func5, Try.ntmps5
  go_wp2_with (fail)
  refine (HC.out _ (Below.refl _ _)).mono ?_
  rintro e w1 ⟨va, rfl, hva, hb1⟩
  have ka := HLU.out _ _ _ hva
  go_wp2_with (fail)
  refine (HC'.out _ hb1).mono ?_
  rintro e w2 ⟨vb, rfl, hvb, hb2⟩
  have kb := HLV.out _ _ _ hvb
  have b2 := below_at hb1 (Nat.le_refl _) hb2
  have ka2 := ka.keep hb2
  go_wp2_with (first
    | (go_at_call 45; refine (H45.out _ _ _ ka2 kb).mono ?_; rintro e w3 ⟨vs, rfl, hvs, hb3⟩
       have b3 := below_at b2 (Nat.le_refl _) hb3
       have ka3 := ka2.keep hb3
       have kb3 := kb.keep hb3)
    | (go_at_call 40; refine (H40.out _ _ _ ka3 kb3).mono ?_; rintro e w6 ⟨rfl, rfl⟩)
    | (go_at_call 46; refine (H46.out _ _ _ ka3 kb3).mono ?_; rintro e w9 ⟨v9, rfl, hv9, hb9⟩
       have b9 := below_at b3 (Nat.le_refl _) hb9
       have ks9 := hvs.is.keep hb9))
  refine (H41.out _ _ _ _ ks9 hv9).mono ?_
  rintro e w10 ⟨rfl, hb10⟩
  have b10 := below_at b9 (Nat.le_refl _) hb10
  go_wp2_with (fail)
  refine (lives_any _).mono ?_
  rintro e w11 ⟨rfl, hb11⟩
  have b11 := below_at b10 (Nat.le_refl _) hb11
  go_wp2
  go_ret
  exact ⟨rfl, b11⟩

/-- The law NatMuls, for whatever limbs. -/
theorem muls_walk (A A' : Option Addr) (c c' L L' : Nat) (xs ys : List Nat) (w : World) (hA : Nums .u32 w A xs) (hA' : Nums .u32 w A' ys) (hlow : Low B32 xs) (hlow' : Low B32 ys) (hL : L = xs.length) (hL' : L' = ys.length) (hc : L ≤ c) (hc' : L' ≤ c') (hnil : A = none → c = 0) (hnil' : A' = none → c' = 0) :
    Calls Try.prog 5 #[.slice A L c, .slice A' L' c'] w (LivesPost w) := by
  by_cases h0 : chk2 (xs.take 160) (ys.take 160) = 0
  · have h1 : chk (xs.take 160) = 0 ∧ chk (ys.take 160) = 0 := by
      unfold chk2 at h0
      split at h0
      · rename_i h; exact ⟨h, h0⟩
      · rename_i h; exact absurd h0 h
    have hm := chk_zero (hlow.take 160) h1.1
    have hn := chk_zero (hlow'.take 160) h1.2
    exact muls_ok A A' c c' L L' _ _ xs ys w hA hA' hL hL' hc hc' hnil hnil' hm hn
  · exact muls_bad A A' c c' L L' xs ys w hA hA' hL hL' hc hc' hnil hnil' h0
end Go.Proofs.Ytaegkhdkhgemmaa

namespace Go.Proofs.Ytaegkhdkhgemmaa
open Go.RowKit Num

/-- A number comes back. -/
def N32Post (w : World) (n : Nat) (e : Ending) (w' : World) : Prop := ∃ v, e = .returned v ∧ N32 w' v n ∧ Below w.heap.size w w'

/-- The bits of the exponent from i on are done; p is the next one's weight. -/
structure PowSt (m n i p V : Nat) : Prop where
  wt : p = if i = 0 then 0 else 2 ^ (i - 1)
  eq : V = m ^ (n / 2 ^ i)
theorem PowSt.start {m n : Nat} (hn : n < 2 ^ 41) : PowSt m n 41 1099511627776 1 := ⟨rfl, by rw [Nat.div_eq_of_lt hn]; rfl⟩
theorem PowSt.next {m n i p V : Nat} (h : PowSt m n (i + 1) p V) : ∃ q r : Nat, n / p = q ∧ q % 2 = r ∧ 0 < p ∧ q ≤ n ∧ (r = 0 → V * V = m ^ q ∧ PowSt m n i (p / 2) (V * V)) ∧ (r = 1 → V * V * m = m ^ q ∧ PowSt m n i (p / 2) (V * V * m)) := by
  have hp : p = 2 ^ i := by rw [h.wt, if_neg (by omega)]; rfl
  have hV : V = m ^ (n / 2 ^ i / 2) := by rw [h.eq, Nat.div_div_eq_div_mul, ← Nat.pow_succ]
  have hp2 : p / 2 = if i = 0 then 0 else 2 ^ (i - 1) := by
    rw [hp]
    by_cases h0 : i = 0
    · subst h0; rfl
    · rw [if_neg h0]
      obtain ⟨j, rfl⟩ : ∃ j, i = j + 1 := ⟨i - 1, by omega⟩
      rw [Nat.pow_succ]; simp
  have hd := Nat.div_add_mod (n / 2 ^ i) 2
  refine ⟨_, _, rfl, rfl, by rw [hp]; exact Nat.pow_pos (by omega), Nat.div_le_self _ _, fun h0 => ?_, fun h1 => ?_⟩
  · have e : V * V = m ^ (n / p) := by
      rw [hV, ← Nat.pow_add, hp]; congr 1; rw [hp] at h0; omega
    exact ⟨e, hp2, by rw [e, hp]⟩
  · have e : V * V * m = m ^ (n / p) := by
      rw [hV, ← Nat.pow_add, ← Nat.pow_succ, hp]; congr 1; rw [hp] at h1; omega
    exact ⟨e, hp2, by rw [e, hp]⟩

set_option maxHeartbeats 2000000 in
set_option maxRecDepth 100000 in
theorem refPow_any (a : Value) (m n : Nat) (w : World) (ha : N32 w a m) (hm : (dig B32 m).length ≤ 500) (hn : n ≤ 1000000000) (hp : ∀ j, j ≤ n → (dig B32 (m ^ j)).length ≤ 500) :
    Calls Try.prog 53 #[a, .int .i64 (n : Int)] w (N32Post w (m ^ n)) := by
  have hof := refOf_any 1 (by decide) w
  have hst0 := @PowSt.start m n (by omega)
  have hmul := fun b c x y w' (h : N32 w' b x) (k : N32 w' c y) (h1 : (dig B32 x).length ≤ 1000) (h2 : (dig B32 y).length ≤ 1000) => refMul_call b c x y w' h k h1 h2
  have hl1 : (dig B32 1).length ≤ 1000000 := Nat.le_trans (len_u64 (by decide)) (by omega)
  have HA := Lib.hid ha
  have HOF := Lib.hid hof
  have HST0 := Lib.hid hst0
  have HP := Lib.hid hp
  have HM := Lib.hid hmul
  have HLM := Lib.hid hm
  clear ha hof hst0 hp hmul hm
  go_enter Try.func53, Try.ntmps53
  go_wp2_with (fail)
  refine HOF.out.mono ?_
  rintro e w1 ⟨v1, rfl, hv1, hb1⟩
  have k1 : N32 w1 v1 1 := (hv1.limbs (by omega)).is
  clear hl1
  go_wp2_with (fail)
  go_loopw [5, 6] (fun out t wr => ∃ i p V : Nat, i ≤ 41 ∧ t = .int .i64 (p : Int) ∧ p ≤ 1099511627776 ∧ PowSt m n i p V ∧ N32 wr out V ∧ Below w.heap.size w wr) (fun _ t _ => (intOf t).toNat)
  case atStart => exact ⟨41, _, 1, Nat.le_refl _, rfl, Nat.le_refl _, HST0.out, k1, hb1⟩
  case round =>
    clear hb1 hv1 k1
    obtain ⟨i, p, V, hi, rfl, hple, hst, hV, hbl⟩ := hrel
    by_cases h0 : i = 0
    · have hp0 : p = 0 := by rw [hst.wt, if_pos h0]
      have he := hst.eq
      subst h0
      subst hp0
      rw [Nat.pow_zero, Nat.div_one] at he
      have HE := Lib.hid he
      clear he hst
      go_wp2
      go_ret
      have := HE.out
      subst this
      exact ⟨_, rfl, hV, hbl⟩
    · obtain ⟨i, rfl⟩ : ∃ j, i = j + 1 := ⟨i - 1, by omega⟩
      obtain ⟨q, r, hq, hr, hp0, hqn, c0, c1⟩ := hst.next
      have hVl : (dig B32 V).length ≤ 500 := by rw [hst.eq]; exact HP.out _ (Nat.div_le_self _ _)
      have q1 : (n : Int) / (p : Int) = (q : Int) := by rw [← hq]; exact (Int.natCast_ediv _ _).symm
      have q2 : (n : Int).tdiv (p : Int) = (q : Int) := by rw [Int.tdiv_eq_ediv_of_nonneg (by omega)]; exact q1
      have q3 : (q : Int) % 2 = (r : Int) := by omega
      have q4 : (q : Int).tmod 2 = (r : Int) := by rw [Int.tmod_eq_emod_of_nonneg (by omega)]; exact q3
      have q5 : ((p : Int) == 0) = false := by simp; omega
      obtain ⟨p', hp'⟩ : ∃ p', p / 2 = p' := ⟨_, rfl⟩
      have q6 : (p : Int) / 2 = (p' : Int) := by omega
      have q7 : (p : Int).tdiv 2 = (p' : Int) := by rw [Int.tdiv_eq_ediv_of_nonneg (by omega)]; exact q6
      rw [hp'] at c0 c1
      have hlt : p' < p := by omega
      by_cases hr1 : r = 1
      · obtain ⟨e1, e2⟩ := c1 hr1
        have hVV : (dig B32 (V * V)).length ≤ 1000 := prod_len hVl hVl
        have t1 : ((r : Int) == 1) = true := by simp [hr1]
        have HE1 := Lib.hid e1
        have HE2 := Lib.hid e2
        have HV := Lib.hid hVl
        have HVV := Lib.hid hVV
        clear c0 c1 hr1 hq hr e1 e2 hst hVl hVV hp'
        go_wp2_with (fail)
        refine (HM.out _ _ _ _ _ hV hV (by have := HV.out; omega) (by have := HV.out; omega)).mono ?_
        rintro e w2 ⟨v2, rfl, hv2, hb2⟩
        have b2 := below_at hbl (Nat.le_refl _) hb2
        have k2 := (hv2.limbs (by have := HVV.out; omega)).is
        go_wp2_with (fail)
        refine (HM.out _ _ _ _ _ k2 (HA.out.keep b2) HVV.out (by have := HLM.out; omega)).mono ?_
        rintro e w3 ⟨v3, rfl, hv3, hb3⟩
        have b3 := below_at b2 (Nat.le_refl _) hb3
        have k3 : N32 w3 v3 (V * V * m) := (hv3.limbs (by rw [HE1.out]; have := HP.out q hqn; omega)).is
        go_wp2
        go_roundw
        case rel => exact ⟨i, p', _, by omega, rfl, by omega, HE2.out, k3, b3⟩
        case measure => simp [intOf]; omega
      · have hr0 : r = 0 := by omega
        obtain ⟨e1, e2⟩ := c0 hr0
        have t1 : ((r : Int) == 1) = false := by simp [hr0]
        have hVV : (dig B32 (V * V)).length ≤ 1000 := prod_len hVl hVl
        have HE1 := Lib.hid e1
        have HE2 := Lib.hid e2
        have HV := Lib.hid hVl
        have HVV := Lib.hid hVV
        clear c0 c1 hr1 hr0 hq hr e1 e2 hst hVl hVV hp'
        go_wp2_with (fail)
        refine (HM.out _ _ _ _ _ hV hV (by have := HV.out; omega) (by have := HV.out; omega)).mono ?_
        rintro e w2 ⟨v2, rfl, hv2, hb2⟩
        have b2 := below_at hbl (Nat.le_refl _) hb2
        have k2 := (hv2.limbs (by have := HVV.out; omega)).is
        go_wp2
        go_roundw
        case rel => exact ⟨i, p', _, by omega, rfl, by omega, HE2.out, k2, b2⟩
        case measure => simp [intOf]; omega
end Go.Proofs.Ytaegkhdkhgemmaa

namespace Go.Proofs.Ytaegkhdkhgemmaa
open Go.RowKit Num

/-- Division by a small number from the top down: the limbs from k on are done. -/
structure OverSt (xs zs : List Nat) (v k l : Nat) : Prop where
  len : zs.length = xs.length
  low : Low B32 zs
  lt : l < v
  eq : val B32 (xs.drop k) = v * val B32 (zs.drop k) + l
theorem OverSt.start (xs : List Nat) {v : Nat} (hv : 0 < v) : OverSt xs (List.replicate xs.length 0) v xs.length 0 :=
  ⟨by simp, Low.replicate b32_pos _, hv, by simp [val]⟩
theorem OverSt.step {xs zs : List Nat} {v k l x q r : Nat} (h : OverSt xs zs v (k + 1) l) (hx : xs[k]? = some x) (hs : l * B32 + x = v * q + r) (hq : q < B32) (hr : r < v) : OverSt xs (zs.set k q) v k r := by
  have hk : k < xs.length := (List.getElem?_eq_some_iff.1 hx).1
  have hxe : xs[k] = x := (List.getElem?_eq_some_iff.1 hx).2
  have hkz : k < (zs.set k q).length := by rw [List.length_set, h.len]; exact hk
  refine ⟨by rw [List.length_set]; exact h.len, h.low.set hq, hr, ?_⟩
  rw [List.drop_eq_getElem_cons hk, List.drop_eq_getElem_cons hkz, hxe, List.getElem_set_self, List.drop_set_of_lt (by omega)]
  simp only [val]
  rw [h.eq]
  grind
theorem OverSt.fin {xs zs : List Nat} {v l : Nat} (h : OverSt xs zs v 0 l) : val B32 zs = val B32 xs / v ∧ val B32 xs % v = l := by
  have e := h.eq
  simp only [List.drop_zero] at e
  have hl := h.lt
  rw [e, Nat.mul_add_div (by omega), Nat.div_eq_of_lt hl, Nat.mul_add_mod, Nat.mod_eq_of_lt hl]
  simp

theorem over_ex (l x v : Nat) (hl : l < v) (hx : x < B32) (hv : v < B32) : ∃ p s q r : Nat,
    IntKind.u64.wrap ((l : Int) * 4294967296) = (p : Int) ∧ IntKind.u64.wrap (x : Int) = (x : Int) ∧ IntKind.u64.wrap (v : Int) = (v : Int) ∧ IntKind.u64.wrap ((p : Int) + (x : Int)) = (s : Int) ∧
    (s : Int) / (v : Int) = (q : Int) ∧ (s : Int).tdiv (v : Int) = (q : Int) ∧ (s : Int) % (v : Int) = (r : Int) ∧ (s : Int).tmod (v : Int) = (r : Int) ∧
    IntKind.u64.wrap (q : Int) = (q : Int) ∧ IntKind.u64.wrap (r : Int) = (r : Int) ∧ IntKind.u32.wrap (q : Int) = (q : Int) ∧ (q : Int) % 4294967296 = (q : Int) ∧ IntKind.u32.wrap (r : Int) = (r : Int) ∧ (r : Int) % 4294967296 = (r : Int) ∧
    ((v : Int) == 0) = false ∧ l * B32 + x = v * q + r ∧ q < B32 ∧ r < v := by
  have hlt : l * B32 + x < v * B32 := by
    have : (l + 1) * B32 ≤ v * B32 := Nat.mul_le_mul_right _ hl
    rw [Nat.add_mul] at this
    omega
  have hle : v * B32 ≤ B32 * B32 := Nat.mul_le_mul_right _ (by omega)
  have hq : (l * B32 + x) / v < B32 := Nat.div_lt_of_lt_mul hlt
  have hr : (l * B32 + x) % v < v := Nat.mod_lt _ (by omega)
  have hd := Nat.div_add_mod (l * B32 + x) v
  obtain ⟨q, hqe⟩ : ∃ q, (l * B32 + x) / v = q := ⟨_, rfl⟩
  obtain ⟨r, hre⟩ : ∃ r, (l * B32 + x) % v = r := ⟨_, rfl⟩
  have c1 : ((l * B32 + x : Nat) : Int) / (v : Int) = (q : Int) := by rw [← hqe]; exact (Int.natCast_ediv _ _).symm
  have c2 : ((l * B32 + x : Nat) : Int) % (v : Int) = (r : Int) := by rw [← hre]; exact (Int.natCast_emod _ _).symm
  rw [hqe] at hq hd
  rw [hre] at hr hd
  have hpv : (l : Int) * 4294967296 = ((l * B32 : Nat) : Int) := by unfold B32; omega
  have hp : l * B32 + x < B32 * B32 := by omega
  clear hqe hre
  refine ⟨l * B32, l * B32 + x, q, r, ?_, ?_, ?_, ?_, c1, ?_, c2, ?_, ?_, ?_, ?_, ?_, ?_, ?_, ?_, hd.symm, hq, hr⟩
  · rw [IntKind.wrap_u64]; unfold B32 at *; omega
  · rw [IntKind.wrap_u64]; unfold B32 at *; omega
  · rw [IntKind.wrap_u64]; unfold B32 at *; omega
  · rw [IntKind.wrap_u64]; unfold B32 at *; omega
  · rw [Int.tdiv_eq_ediv_of_nonneg (by omega)]; exact c1
  · rw [Int.tmod_eq_emod_of_nonneg (by omega)]; exact c2
  all_goals clear c1 c2 hd hp hpv hle hlt
  · rw [IntKind.wrap_u64]; unfold B32 at *; omega
  · rw [IntKind.wrap_u64]; unfold B32 at *; omega
  · rw [IntKind.wrap_u32']; unfold B32 at *; omega
  · unfold B32 at *; omega
  · rw [IntKind.wrap_u32']; unfold B32 at *; omega
  · unfold B32 at *; omega
  · simp; omega

def OverPost (w : World) (ys : List Nat) (r : Nat) (e : Ending) (w' : World) : Prop := ∃ v, e = .returned (.tuple #[v, .int .u32 (r : Int)]) ∧ OwnLs w.heap.size w' v ys ∧ Below w.heap.size w w'

set_option maxHeartbeats 2000000 in
set_option maxRecDepth 100000 in
theorem refOver_any (A : Option Addr) (c L v : Nat) (xs : List Nat) (w : World) (hA : Nums .u32 w A xs) (hx : Low B32 xs) (hL : L = xs.length) (hl : L ≤ 1000000) (hv0 : 0 < v) (hv : v < B32) :
    Calls Try.prog 94 #[.slice A L c, .int .u32 (v : Int)] w (OverPost w (dig B32 (val B32 xs / v)) (val B32 xs % v)) := by
  have hmk := make35 L (by omega) w
  have hr0 := Row.made w .u32 L 56
  have hbA : Below w.heap.size w (w.alloc (.cells (madeCells #[.int .u32 0] L) 56)) := (Below.refl _ _).alloc (Nat.le_refl _) _
  have hst0 := OverSt.start xs hv0
  rw [← hL] at hst0
  have HL := Lib.hid hL
  have HR0 := Lib.hid hr0
  have HV := Lib.hid hv
  clear hL hr0 hv
  go_enter Try.func94, Try.ntmps94
  go_wp2
  go_loopw [7, 8] (fun q t wr => ∃ (k l : Nat) (zs : List Nat), k ≤ L ∧ t = .int .i64 ((k : Int) - 1) ∧ q = .int .u64 (l : Int) ∧ OverSt xs zs v k l ∧ Row .u32 56 wr w.heap.size zs ∧ Below w.heap.size w wr) (fun _ t _ => (intOf t + 1).toNat)
  case atStart => exact ⟨L, 0, _, Nat.le_refl _, rfl, rfl, hst0, HR0.out, hbA⟩
  case round =>
    clear hst0 HR0 hbA hmk
    obtain ⟨k, l, zs, hk, rfl, rfl, hst, hrow, hbl⟩ := hrel
    have hlen := hst.len
    rw [← HL.out] at hlen
    have HLEN := Lib.hid hlen
    clear hlen
    by_cases h0 : k = 0
    · subst h0
      obtain ⟨f1, f2⟩ := hst.fin
      have hlt := hst.lt
      have hvv := HV.out
      have w1 : IntKind.u32.wrap (l : Int) = (l : Int) := by unfold B32 at hvv; rw [IntKind.wrap_u32']; omega
      have w2 : (l : Int) % 4294967296 = (l : Int) := by unfold B32 at hvv; omega
      have hn := hrow.nums0 zs.length
      rw [List.take_length] at hn
      have htr := refTrim_l (.slice (some ⟨w.heap.size, 0, none⟩) L L) zs wr ⟨_, _, by rw [HLEN.out], by have := HLEN.out; omega, by have := HLEN.out; omega, hn⟩ hst.low (by have := HLEN.out; omega)
      rw [f1] at htr
      have HT := Lib.hid htr
      have F2 := Lib.hid f2
      clear htr f1 f2 hn hst hx hA hvv
      go_wp2_with (go_at_call 80; refine HT.out.mono ?_; rintro e w9 ⟨v9, rfl, hv9, hb9⟩)
      go_ret2
      rw [F2.out]
      exact ⟨_, rfl, hv9.mono hbl.size, below_at hbl (Nat.le_refl _) hb9⟩
    · obtain ⟨j, rfl⟩ : ∃ j, k = j + 1 := ⟨k - 1, by omega⟩
      obtain ⟨g, off, x, rfl, hg, hxv, hcx⟩ := (hA.keep hbl).at_ (i := j) (by have := HL.out; omega)
      have hxl : x < B32 := hx x (List.mem_of_getElem? hxv)
      obtain ⟨p, s, q, r, w1, w2, w3, w4, w5, w6, w7, w8, w9, wa, wb, wc, wd, we, wf, hs, hq, hr⟩ := over_ex l x v hst.lt hxl HV.out
      have hst' := hst.step hxv hs hq hr
      obtain ⟨o, ho⟩ : ∃ o, zs[j]? = some o := ⟨zs[j]'(by have := HLEN.out; omega), List.getElem?_eq_getElem _⟩
      have hco := hrow.cell ho
      have hfo := hrow.frozen j
      have HST := Lib.hid hst'
      have HX := Lib.hid hxv
      have HO := Lib.hid ho
      clear hst' hxv ho hxl hs hq hr hst hA hx
      go_wp2
      go_roundw
      case rel => exact ⟨j, r, _, by omega, by first | rfl | go_num, rfl, HST.out, hrow.set j q, below_set hbl (Nat.le_refl _) _⟩
      case measure => simp [intOf]
end Go.Proofs.Ytaegkhdkhgemmaa

namespace Go.Proofs.Ytaegkhdkhgemmaa
open Go.RowKit Num

set_option maxHeartbeats 1000000 in
set_option maxRecDepth 100000 in
theorem times_any (a : Value) (m v : Nat) (w : World) (ha : N32 w a m) (hm : (dig B32 m).length ≤ 1000) (hv : v < B32) : Calls Try.prog 89 #[a, .int .u32 (v : Int)] w (LsPost w (dig B32 (m * v))) := by
  have hv64 : v < B64 := by unfold B32 at hv; unfold B64; omega
  have hof := refOf_any v hv64 w
  have w1 : IntKind.u64.wrap (v : Int) = (v : Int) := by unfold B32 at hv; rw [IntKind.wrap_u64]; omega
  have hl2 := len_u64 hv64
  have hmul := fun b w' (h : Below w.heap.size w w') (k : OwnLs w.heap.size w' b (dig B32 v)) => refMul_call a b m v w' (ha.keep h) (k.limbs (by omega)).is (by omega) (by omega)
  have HOF := Lib.hid hof
  have HM := Lib.hid hmul
  clear hof hmul hv hv64 ha hl2
  go_enter Try.func89, Try.ntmps89
  go_wp2_with (first
    | (go_at_call 34; refine HOF.out.mono ?_; rintro e w2 ⟨v2, rfl, hv2, hb2⟩)
    | (go_at_call 46; refine (HM.out _ _ hb2 hv2).mono ?_; rintro e w3 ⟨v3, rfl, hv3, hb3⟩))
  go_ret
  exact ⟨_, rfl, hv3.mono hb2.size, below_at hb2 (Nat.le_refl _) hb3⟩

theorem zeros_snoc (k : Nat) : ints .u32 (List.replicate k 0) ++ [.int .u32 0] = ints .u32 (List.replicate (k + 1) 0) := by
  rw [List.replicate_succ']; simp [ints]
theorem take_snoc_ints {xs : List Nat} {k v : Nat} (zs : List Nat) (h : xs[k]? = some v) : ints .u32 (zs ++ xs.take k) ++ [.int .u32 (v : Int)] = ints .u32 (zs ++ xs.take (k + 1)) := by
  obtain ⟨hk, he⟩ := List.getElem?_eq_some_iff.1 h
  rw [List.take_succ_eq_append_getElem hk, he]; simp [ints]
theorem two_pow_32 {k : Nat} (h : k < 32) : 2 ^ k < B32 := by
  have := Nat.pow_lt_pow_right (a := 2) (by omega) h
  unfold B32; simpa using this
theorem dbl_ex (k : Nat) (h : k + 1 < 32) : ∃ p q : Nat, 2 ^ k = p ∧ 2 ^ (k + 1) = q ∧ IntKind.u32.wrap ((p : Int) * 2) = (q : Int) ∧ ((p : Int) * 2) % 4294967296 = (q : Int) := by
  have h1 := two_pow_32 h
  have h2 : 2 ^ (k + 1) = 2 ^ k * 2 := Nat.pow_succ _ _
  refine ⟨_, _, rfl, rfl, ?_, ?_⟩
  · unfold B32 at h1; rw [IntKind.wrap_u32', h2]; omega
  · unfold B32 at h1; rw [h2]; omega

theorem ownLs_of {B n : Nat} {w : World} {v : Value} {zs : List Nat} (h : w.ownsRow B 56 1 v n (ints .u32 zs)) (hn : zs.length = n) : OwnLs B w v zs := by
  subst hn; exact h

def PowIs (p k : Nat) : Prop := p = 2 ^ k
theorem powIs_step {p k : Nat} (h : PowIs p k) (hk : k + 1 < 32) : ∃ q : Nat, PowIs q (k + 1) ∧ IntKind.u32.wrap ((p : Int) * 2) = (q : Int) ∧ ((p : Int) * 2) % 4294967296 = (q : Int) := by
  obtain ⟨p', q, e1, e2, e3, e4⟩ := dbl_ex k hk
  obtain rfl : p = p' := h.trans e1
  exact ⟨q, e2.symm, e3, e4⟩

set_option maxHeartbeats 4000000 in
set_option maxRecDepth 100000 in
theorem left_any (a : Value) (m n : Nat) (w : World) (ha : N32 w a m) (hm : (dig B32 m).length ≤ 500) (hn : n ≤ 10000) : Calls Try.prog 50 #[a, .int .i64 (n : Int)] w (LsPost w (dig B32 (m * 2 ^ n))) := by
  obtain ⟨wh, s, hs, rfl⟩ : ∃ wh s, s < 32 ∧ n = 32 * wh + s := ⟨n / 32, n % 32, Nat.mod_lt _ (by omega), by omega⟩
  have e1 : ((32 * wh + s : Nat) : Int) / 32 = (wh : Int) := by omega
  have e2 : ((32 * wh + s : Nat) : Int) % 32 = (s : Int) := by omega
  have e3 : ((32 * wh + s : Nat) : Int).tdiv 32 = (wh : Int) := by rw [Int.tdiv_eq_ediv_of_nonneg (by omega)]; exact e1
  have e4 : ((32 * wh + s : Nat) : Int).tmod 32 = (s : Int) := by rw [Int.tmod_eq_emod_of_nonneg (by omega)]; exact e2
  have hwh : wh ≤ 400 := by omega
  generalize hF : ((32 * wh + s : Nat) : Int) = F at *
  have hF0 : 0 ≤ F := by omega
  have hF1 : F ≤ 10000 := by omega
  clear hF hn
  have hfin : m * 2 ^ (32 * wh + s) = val B32 (List.replicate wh 0 ++ dig B32 m) * 2 ^ s := by
    have h32 : B32 ^ wh = 2 ^ (32 * wh) := by rw [Nat.pow_mul]; rfl
    rw [val_append, val_replicate, val_dig b32_two, List.length_replicate, Nat.pow_add, h32, Nat.zero_add, Nat.mul_comm (2 ^ (32 * wh)) m, Nat.mul_assoc]
  obtain ⟨A, c, rfl, _, hA⟩ := ha
  have hlow := low_dig b32_two m
  obtain ⟨xs, hxs⟩ : ∃ xs, dig B32 m = xs := ⟨_, rfl⟩
  rw [hxs] at hlow hfin hm hA ⊢
  obtain ⟨L, hL⟩ : ∃ L, xs.length = L := ⟨_, rfl⟩
  rw [hL] at hm ⊢
  obtain ⟨i0, hi, hz0, hz1, hz2⟩ := info_parts info56
  have ho := own_empty w 56
  have hbA := below_new w (.cells #[] 56)
  have hlowz : Low B32 (List.replicate wh 0 ++ xs) := (Low.replicate b32_pos _).append hlow
  have hlz : (List.replicate wh 0 ++ xs).length = wh + L := by simp [hL]
  have htr := fun (w' : World) a (k : OwnLs w.heap.size w' a (List.replicate wh 0 ++ xs)) => refTrim_l a _ w' (k.limbs (by omega)) hlowz (by omega)
  have htl : (dig B32 (val B32 (List.replicate wh 0 ++ xs))).length ≤ 1000 := Nat.le_trans (trim_le b32_two hlowz) (by omega)
  have htm := fun (w' w'' : World) a (k : OwnLs w'.heap.size w'' a (dig B32 (val B32 (List.replicate wh 0 ++ xs)))) => times_any a _ (2 ^ s) w'' (k.limbs (by omega)).is htl (two_pow_32 hs)
  rw [hfin]
  generalize hV : val B32 (List.replicate wh 0 ++ xs) = V at *
  have HO := Lib.hid ho
  have HL := Lib.hid hL
  have HTR := Lib.hid htr
  have HTM := Lib.hid htm
  clear ho hL htr htm hxs hV hfin hlowz htl hlz hlow
  go_enter Try.func50, Try.ntmps50
  go_wp2
  go_loopw [5, 6] (fun out t wr => ∃ k : Nat, k ≤ wh ∧ t = .int .i64 (k : Int) ∧ wr.ownsRow w.heap.size 56 1 out k (ints .u32 (List.replicate k 0)) ∧ Below w.heap.size w wr) (fun _ t _ => wh - (intOf t).toNat)
  case atStart => exact ⟨0, Nat.zero_le _, rfl, HO.out, hbA⟩
  case round =>
    clear hbA HO
    obtain ⟨k, hk, rfl, hown, hbl⟩ := hrel
    by_cases hlt : k < wh
    · have hzs := zeros_snoc k
      have HZ := Lib.hid hzs
      clear hzs hA
      go_wp2_with (at_builtin
                   refine wpList_append_own _ rfl _ _ 35 rfl w.heap.size 56 i0 (.int .u32 0) 1 4 Try.underlying35 hi hz0 hz1 hz2 rfl (by decide) _ (k) _ rfl (hown.alloc _) ⟨wr.heap.size, 0, none⟩ 1 1 [.int .u32 0] rfl rfl (cell_one_new _ _ _) (ints_one .u32 [0]) ?c4 ?c5 (Nat.le_trans hbl.size (by simp)) ?_)
      case c4 => unfold maxLen; omega
      case c5 => omega
      intro v' w8 hown1 hgr1 _
      have hb1 : Below w.heap.size w w8 := (hbl.alloc hbl.size _).grown hgr1 (Nat.le_trans hbl.size (by simp)) (fun g' hg' => by
        rcases hown.2 with ⟨rfl, _⟩ | ⟨g2, cap, cur, rfl, hg2, _⟩
        · simp [Value.ownBlock] at hg'
        · simp [Value.ownBlock] at hg'; omega)
      rw [HZ.out] at hown1
      have H1 := Lib.hid hown1
      clear hown1 hown
      go_wp2
      go_roundw
      case rel => exact ⟨k + 1, by omega, by go_num, H1.out, hb1⟩
      case measure => simp [intOf]; omega
    · obtain rfl : k = wh := by omega
      clear hlt
      have H0 := Lib.hid hown
      clear hown
      go_wp2
      go_loopw [5, 7] (fun out t wr => ∃ j : Nat, j ≤ L ∧ t = .int .i64 (j : Int) ∧ wr.ownsRow w.heap.size 56 1 out (k + j) (ints .u32 (List.replicate k 0 ++ xs.take j)) ∧ Below w.heap.size w wr) (fun _ t _ => L - (intOf t).toNat)
      case atStart => exact ⟨0, Nat.zero_le _, rfl, by simpa using H0.out, hbl⟩
      case round =>
        clear H0 hbl
        obtain ⟨j, hj, rfl, hown, hbl⟩ := hrel
        by_cases hlt : j < L
        · obtain ⟨g, off, x, rfl, hg, hxv, hcx⟩ := (hA.keep hbl).at_ (i := j) (by have := HL.out; omega)
          have hts := take_snoc_ints (List.replicate k 0) hxv
          have HT := Lib.hid hts
          clear hts hxv
          go_wp2_with (at_builtin
                       refine wpList_append_own _ rfl _ _ 35 rfl w.heap.size 56 i0 (.int .u32 0) 1 4 Try.underlying35 hi hz0 hz1 hz2 rfl (by decide) _ (k + j) _ rfl (hown.alloc _) ⟨wr.heap.size, 0, none⟩ 1 1 [.int .u32 (x : Int)] rfl rfl (cell_one_new _ _ _) (ints_one .u32 [x]) ?c4 ?c5 (Nat.le_trans hbl.size (by simp)) ?_)
          case c4 => unfold maxLen; omega
          case c5 => omega
          intro v' w8 hown1 hgr1 _
          have hb1 : Below w.heap.size w w8 := (hbl.alloc hbl.size _).grown hgr1 (Nat.le_trans hbl.size (by simp)) (fun g' hg' => by
            rcases hown.2 with ⟨rfl, _⟩ | ⟨g2, cap, cur, rfl, hg2, _⟩
            · simp [Value.ownBlock] at hg'
            · simp [Value.ownBlock] at hg'; omega)
          rw [HT.out] at hown1
          have H1 := Lib.hid hown1
          clear hown1 hown
          go_wp2
          go_roundw
          case rel => exact ⟨j + 1, by omega, by go_num, H1.out, hb1⟩
          case measure => simp [intOf]; omega
        · obtain rfl : j = L := by omega
          clear hlt
          rw [List.take_of_length_le (by have := HL.out; omega)] at hown
          have hls := ownLs_of (zs := List.replicate k 0 ++ xs) hown (by simp [HL.out])
          have HOWN := Lib.hid hls
          clear hown hls hA
          go_wp2
          go_loop [8, 9] (fun q t => ∃ i p : Nat, i ≤ s ∧ t = .int .i64 (i : Int) ∧ q = .int .u32 (p : Int) ∧ PowIs p i) (fun _ t => s - (intOf t).toNat)
          case atStart => exact ⟨0, 1, Nat.zero_le _, rfl, rfl, rfl⟩
          case round =>
            obtain ⟨i, p, hi', rfl, rfl, hp⟩ := hrel
            by_cases hlt : i < s
            · obtain ⟨q, hq, w1, w2⟩ := powIs_step hp (by omega)
              have HQ := Lib.hid hq
              clear hq hp
              go_wp2
              go_round
              case rel => exact ⟨i + 1, q, by omega, by go_num, rfl, HQ.out⟩
              case measure => simp [intOf]; omega
            · obtain rfl : i = s := by omega
              clear hlt
              obtain rfl : p = 2 ^ i := hp
              have HTM' : ∀ (w' w'' : World) (a : Value), OwnLs w'.heap.size w'' a (dig B32 V) → Calls Try.prog 89 #[a, .int .u32 ((2 ^ i : Nat) : Int)] w'' (LsPost w'' (dig B32 (V * 2 ^ i))) := HTM.out
              generalize 2 ^ i = P at *
              have HTM2 := Lib.hid HTM'
              clear HTM' HTM
              go_wp2_with (first
                | (go_at_call 80; refine (HTR.out _ _ HOWN.out).mono ?_; rintro e w5 ⟨v5, rfl, hv5, hb5⟩)
                | (go_at_call 89; refine (HTM2.out _ _ _ hv5).mono ?_; rintro e w6 ⟨v6, rfl, hv6, hb6⟩))
              go_ret
              have b5 := below_at hbl (Nat.le_refl _) hb5
              exact ⟨_, rfl, hv6.mono b5.size, below_at b5 (Nat.le_refl _) hb6⟩

theorem right_val (m wh s : Nat) : m / 2 ^ (32 * wh + s) = val B32 ((dig B32 m).drop wh) / 2 ^ s := by
  have h32 : B32 ^ wh = 2 ^ (32 * wh) := by rw [Nat.pow_mul]; rfl
  have hv : val B32 ((dig B32 m).drop wh) = m / B32 ^ wh := by
    by_cases hl : wh ≤ (dig B32 m).length
    · have h1 := val_take_drop B32 (dig B32 m) wh hl
      rw [val_dig b32_two] at h1
      have h2 := val_lt B32 _ ((low_dig b32_two m).take wh)
      rw [List.length_take, Nat.min_eq_left hl] at h2
      rw [h1, Nat.add_mul_div_left _ _ (Nat.pow_pos b32_pos), Nat.div_eq_of_lt h2, Nat.zero_add, ← h1]
    · rw [List.drop_of_length_le (by omega)]
      have h1 := dig_len_lt b32_two (n := m)
      have h2 : B32 ^ (dig B32 m).length ≤ B32 ^ wh := Nat.pow_le_pow_right b32_pos (by omega)
      rw [Nat.div_eq_of_lt (by omega)]; rfl
  rw [hv, Nat.pow_add, h32, Nat.div_div_eq_div_mul]
theorem drop_snoc_ints {xs : List Nat} {wh k v : Nat} (h : xs[wh + k]? = some v) : ints .u32 ((xs.drop wh).take k) ++ [.int .u32 (v : Int)] = ints .u32 ((xs.drop wh).take (k + 1)) := by
  have h2 : (xs.drop wh)[k]? = some v := by rw [List.getElem?_drop]; exact h
  obtain ⟨hk, he⟩ := List.getElem?_eq_some_iff.1 h2
  rw [List.take_succ_eq_append_getElem hk, he]; simp [ints]

set_option maxHeartbeats 4000000 in
set_option maxRecDepth 100000 in
theorem right_any (a : Value) (m n : Nat) (w : World) (ha : N32 w a m) (hm : (dig B32 m).length ≤ 500) (hn : n ≤ 10000) : Calls Try.prog 51 #[a, .int .i64 (n : Int)] w (LsPost w (dig B32 (m / 2 ^ n))) := by
  obtain ⟨wh, s, hs, rfl⟩ : ∃ wh s, s < 32 ∧ n = 32 * wh + s := ⟨n / 32, n % 32, Nat.mod_lt _ (by omega), by omega⟩
  have e1 : ((32 * wh + s : Nat) : Int) / 32 = (wh : Int) := by omega
  have e2 : ((32 * wh + s : Nat) : Int) % 32 = (s : Int) := by omega
  have e3 : ((32 * wh + s : Nat) : Int).tdiv 32 = (wh : Int) := by rw [Int.tdiv_eq_ediv_of_nonneg (by omega)]; exact e1
  have e4 : ((32 * wh + s : Nat) : Int).tmod 32 = (s : Int) := by rw [Int.tmod_eq_emod_of_nonneg (by omega)]; exact e2
  have hwh : wh ≤ 400 := by omega
  have hfin := right_val m wh s
  generalize hF : ((32 * wh + s : Nat) : Int) = F at *
  have hF0 : 0 ≤ F := by omega
  have hF1 : F ≤ 10000 := by omega
  clear hF hn
  obtain ⟨A, c, rfl, _, hA⟩ := ha
  have hlow := low_dig b32_two m
  obtain ⟨xs, hxs⟩ : ∃ xs, dig B32 m = xs := ⟨_, rfl⟩
  rw [hxs] at hlow hfin hm hA ⊢
  obtain ⟨L, hL⟩ : ∃ L, xs.length = L := ⟨_, rfl⟩
  rw [hL] at hm ⊢
  obtain ⟨i0, hi, hz0, hz1, hz2⟩ := info_parts info56
  have ho := own_empty w 56
  have hbA := below_new w (.cells #[] 56)
  have hlowz : Low B32 (xs.drop wh) := hlow.drop wh
  have hlz : (xs.drop wh).length ≤ L := by simp [hL]
  have htr := fun (w' : World) a (k : OwnLs w.heap.size w' a (xs.drop wh)) => refTrim_l a _ w' (k.limbs (by omega)) hlowz (by omega)
  have htl : (dig B32 (val B32 (xs.drop wh))).length ≤ 1000 := Nat.le_trans (trim_le b32_two hlowz) (by omega)
  have htm : ∀ (w' w'' : World) (a : Value), OwnLs w'.heap.size w'' a (dig B32 (val B32 (xs.drop wh))) → Calls Try.prog 94 #[a, .int .u32 ((2 ^ s : Nat) : Int)] w'' (OverPost w'' (dig B32 (val B32 (xs.drop wh) / 2 ^ s)) (val B32 (xs.drop wh) % 2 ^ s)) := fun w' w'' a k => by
    obtain ⟨A', c', rfl, _, hA'⟩ := (k.limbs (by omega)).is
    have := refOver_any A' c' _ (2 ^ s) _ w'' hA' (low_dig b32_two _) rfl (by omega) (Nat.pow_pos (by omega)) (two_pow_32 hs)
    rw [val_dig b32_two] at this
    exact this
  rw [hfin]
  generalize hV : val B32 (xs.drop wh) = V at *
  have HO := Lib.hid ho
  have HL := Lib.hid hL
  have HTR := Lib.hid htr
  have HTM := Lib.hid htm
  clear ho hL htr htm hxs hV hfin hlowz htl hlz hlow
  go_enter Try.func51, Try.ntmps51
  go_wp2
  go_loopw [5, 6] (fun out t wr => ∃ k : Nat, (wh + k ≤ L ∨ k = 0) ∧ t = .int .i64 ((wh + k : Nat) : Int) ∧ wr.ownsRow w.heap.size 56 1 out k (ints .u32 ((xs.drop wh).take k)) ∧ Below w.heap.size w wr) (fun _ t _ => L - (intOf t).toNat)
  case atStart => exact ⟨0, .inr rfl, rfl, by simpa [ints] using HO.out, hbA⟩
  case round =>
    clear hbA HO
    obtain ⟨k, hk, rfl, hown, hbl⟩ := hrel
    by_cases hlt : wh + k < L
    · obtain ⟨g, off, x, rfl, hg, hxv, hcx⟩ := (hA.keep hbl).at_ (i := wh + k) (by have := HL.out; omega)
      have hts := drop_snoc_ints hxv
      have HT := Lib.hid hts
      clear hts hxv
      go_wp2_with (at_builtin
                   refine wpList_append_own _ rfl _ _ 35 rfl w.heap.size 56 i0 (.int .u32 0) 1 4 Try.underlying35 hi hz0 hz1 hz2 rfl (by decide) _ (k) _ rfl (hown.alloc _) ⟨wr.heap.size, 0, none⟩ 1 1 [.int .u32 (x : Int)] rfl rfl (cell_one_new _ _ _) (ints_one .u32 [x]) ?c4 ?c5 (Nat.le_trans hbl.size (by simp)) ?_)
      case c4 => unfold maxLen; omega
      case c5 => omega
      intro v' w8 hown1 hgr1 _
      have hb1 : Below w.heap.size w w8 := (hbl.alloc hbl.size _).grown hgr1 (Nat.le_trans hbl.size (by simp)) (fun g' hg' => by
        rcases hown.2 with ⟨rfl, _⟩ | ⟨g2, cap, cur, rfl, hg2, _⟩
        · simp [Value.ownBlock] at hg'
        · simp [Value.ownBlock] at hg'; omega)
      rw [HT.out] at hown1
      have H1 := Lib.hid hown1
      clear hown1 hown
      go_wp2
      go_roundw
      case rel => exact ⟨k + 1, by omega, by go_num, H1.out, hb1⟩
      case measure => simp [intOf]; omega
    · have hls := ownLs_of (zs := xs.drop wh) (n := k) (by rw [List.take_of_length_le (by rw [List.length_drop, HL.out]; omega)] at hown; exact hown) (by rw [List.length_drop, HL.out]; omega)
      have HOWN := Lib.hid hls
      clear hown hls hA
      go_wp2
      go_loop [7, 8] (fun q t => ∃ i p : Nat, i ≤ s ∧ t = .int .i64 (i : Int) ∧ q = .int .u32 (p : Int) ∧ PowIs p i) (fun _ t => s - (intOf t).toNat)
      case atStart => exact ⟨0, 1, Nat.zero_le _, rfl, rfl, rfl⟩
      case round =>
        obtain ⟨i, p, hi', rfl, rfl, hp⟩ := hrel
        by_cases hlt2 : i < s
        · obtain ⟨q, hq, w1, w2⟩ := powIs_step hp (by omega)
          have HQ := Lib.hid hq
          clear hq hp
          go_wp2
          go_round
          case rel => exact ⟨i + 1, q, by omega, by go_num, rfl, HQ.out⟩
          case measure => simp [intOf]; omega
        · obtain rfl : i = s := by omega
          clear hlt2
          obtain rfl : p = 2 ^ i := hp
          have HTM' : ∀ (w' w'' : World) (a : Value), OwnLs w'.heap.size w'' a (dig B32 V) → Calls Try.prog 94 #[a, .int .u32 ((2 ^ i : Nat) : Int)] w'' (OverPost w'' (dig B32 (V / 2 ^ i)) (V % 2 ^ i)) := HTM.out
          generalize 2 ^ i = P at *
          have HTM2 := Lib.hid HTM'
          clear HTM' HTM
          go_wp2_with (first
            | (go_at_call 80; refine (HTR.out _ _ HOWN.out).mono ?_; rintro e w5 ⟨v5, rfl, hv5, hb5⟩)
            | (go_at_call 94; refine (HTM2.out _ _ _ hv5).mono ?_; rintro e w6 ⟨v6, rfl, hv6, hb6⟩))
          go_ret
          have b5 := below_at hbl (Nat.le_refl _) hb5
          exact ⟨_, rfl, hv6.mono b5.size, below_at b5 (Nat.le_refl _) hb6⟩
end Go.Proofs.Ytaegkhdkhgemmaa

namespace Go.Proofs.Ytaegkhdkhgemmaa
open Go.RowKit Num

set_option maxHeartbeats 1000000 in
set_option maxRecDepth 100000 in
theorem shift_bad (a : Value) (n : Int) (xs : List Nat) (w : World) (ha : Limbs w a xs) (h0 : chk xs ≠ 0) : Calls Try.prog 49 #[a, .int .i64 n] w (NatErr w (chk xs)) := by
  have hc := checkAll_any w.heap.size 1 1 _ _ (nats1 ha) rfl (by omega)
  rw [chkAll1] at hc
  generalize chk xs = r at *
  have hbA := below_new w (.cells #[a] 23)
  have hq : (r != 0) = true := by simp [h0]
  have HC := Lib.hid hc
  have H0 := Lib.hid h0
  obtain ⟨A, c, rfl, _⟩ := ha
  clear hc h0
  generalize xs.length = L at *
  go_enter Try.func49, Try.ntmps49
  go_wp2_with (go_at_call 75; refine HC.out.mono ?_; rintro e w1 ⟨rfl, rfl⟩)
  go_ret2
  exact ⟨rfl, hbA⟩

theorem ownL_nil (B : Nat) (w : World) : OwnL B w (.slice none 0 0) 0 := by
  unfold OwnL
  rw [dig_zero]
  exact ⟨rfl, .inl ⟨rfl, rfl⟩⟩
set_option maxHeartbeats 1000000 in
set_option maxRecDepth 100000 in
theorem shift_zero (a : Value) (m : Nat) (n : Int) (w : World) (ha : N32 w a m) (hl : (dig B32 m).length ≤ 262144) (h0 : m = 0) : Calls Try.prog 49 #[a, .int .i64 n] w (NatOk w 0) := by
  have hc := checkAll_any w.heap.size 1 1 _ _ (nats1 (Limbs.num ha (by omega))) rfl (by omega)
  rw [chkAll1, chk_dig hl] at hc
  have hbA := below_new w (.cells #[a] 23)
  have hf := fromNat_any a m _ (ha.keep hbA) (by omega)
  have lm := words_le (n := m) (K := 131072) hl
  have hbt := fun v w' (h : W64 w' v m) => bits_call v m w' h (by omega)
  have hz : nbits m = 0 := by rw [h0]; rfl
  rw [hz] at hbt
  have HC := Lib.hid hc
  have HF := Lib.hid hf
  have HBT := Lib.hid hbt
  obtain ⟨A, c, rfl, _⟩ := ha
  clear hc hf hbt lm
  clear h0 hz hl
  generalize (dig B32 m).length = L at *
  go_enter Try.func49, Try.ntmps49
  go_wp2_with (fail)
  refine (HC.out).mono ?_
  rintro e w1 ⟨rfl, rfl⟩
  go_wp2_with (fail)
  refine (HF.out).mono ?_
  rintro e w2 ⟨v1, rfl, hv1, hb2⟩
  have b2 := below_at hbA (Nat.le_refl _) hb2
  have k1_2 := hv1.is
  go_wp2_with (fail)
  refine (HBT.out _ _ k1_2).mono ?_
  rintro e w3 ⟨rfl, rfl⟩
  go_wp2
  go_ret2
  exact ⟨_, rfl, ownL_nil _ _, b2⟩

set_option maxHeartbeats 1000000 in
set_option maxRecDepth 100000 in
theorem shift_low (a : Value) (m : Nat) (n : Int) (w : World) (ha : N32 w a m) (hl : (dig B32 m).length ≤ 262144) (h0 : m ≠ 0) (hn : n ≤ -(nbits m : Int)) : Calls Try.prog 49 #[a, .int .i64 n] w (NatOk w 0) := by
  have hc := checkAll_any w.heap.size 1 1 _ _ (nats1 (Limbs.num ha (by omega))) rfl (by omega)
  rw [chkAll1, chk_dig hl] at hc
  have hbA := below_new w (.cells #[a] 23)
  have hf := fromNat_any a m _ (ha.keep hbA) (by omega)
  have lm := words_le (n := m) (K := 131072) hl
  have hbt := fun v w' (h : W64 w' v m) => bits_call v m w' h (by omega)
  have h1 := nbits_ne h0
  have h2 := len_bits_le (n := m) (k := 131072) (words_le (K := 131072) hl)
  generalize nbits m = r at *
  have hq : ((r : Int) == 0) = false := by simp; omega
  have hd : decide (n ≤ -(r : Int)) = true := by simp [hn]
  have HC := Lib.hid hc
  have HF := Lib.hid hf
  have HBT := Lib.hid hbt
  obtain ⟨A, c, rfl, _⟩ := ha
  clear hc hf hbt lm
  clear h0 hl
  generalize (dig B32 m).length = L at *
  go_enter Try.func49, Try.ntmps49
  go_wp2_with (fail)
  refine (HC.out).mono ?_
  rintro e w1 ⟨rfl, rfl⟩
  go_wp2_with (fail)
  refine (HF.out).mono ?_
  rintro e w2 ⟨v1, rfl, hv1, hb2⟩
  have b2 := below_at hbA (Nat.le_refl _) hb2
  have k1_2 := hv1.is
  go_wp2_with (fail)
  refine (HBT.out _ _ k1_2).mono ?_
  rintro e w3 ⟨rfl, rfl⟩
  go_wp2
  go_ret2
  exact ⟨_, rfl, ownL_nil _ _, b2⟩

set_option maxHeartbeats 1000000 in
set_option maxRecDepth 100000 in
theorem shift_long (a : Value) (m : Nat) (n : Int) (w : World) (ha : N32 w a m) (hl : (dig B32 m).length ≤ 262144) (h0 : m ≠ 0) (hn : 8388608 - (nbits m : Int) < n) : Calls Try.prog 49 #[a, .int .i64 n] w (NatErr w 3) := by
  have hc := checkAll_any w.heap.size 1 1 _ _ (nats1 (Limbs.num ha (by omega))) rfl (by omega)
  rw [chkAll1, chk_dig hl] at hc
  have hbA := below_new w (.cells #[a] 23)
  have hf := fromNat_any a m _ (ha.keep hbA) (by omega)
  have lm := words_le (n := m) (K := 131072) hl
  have hbt := fun v w' (h : W64 w' v m) => bits_call v m w' h (by omega)
  have h1 := nbits_ne h0
  have h2 := len_bits_le (n := m) (k := 131072) (words_le (K := 131072) hl)
  generalize nbits m = r at *
  have hq : ((r : Int) == 0) = false := by simp; omega
  have hd : ¬ n ≤ -(r : Int) := by omega
  have HC := Lib.hid hc
  have HF := Lib.hid hf
  have HBT := Lib.hid hbt
  obtain ⟨A, c, rfl, _⟩ := ha
  clear hc hf hbt lm
  clear h0 hl
  generalize (dig B32 m).length = L at *
  go_enter Try.func49, Try.ntmps49
  go_wp2_with (fail)
  refine (HC.out).mono ?_
  rintro e w1 ⟨rfl, rfl⟩
  go_wp2_with (fail)
  refine (HF.out).mono ?_
  rintro e w2 ⟨v1, rfl, hv1, hb2⟩
  have b2 := below_at hbA (Nat.le_refl _) hb2
  have k1_2 := hv1.is
  go_wp2_with (fail)
  refine (HBT.out _ _ k1_2).mono ?_
  rintro e w3 ⟨rfl, rfl⟩
  go_wp2
  go_ret2
  exact ⟨rfl, b2⟩

set_option maxHeartbeats 1000000 in
set_option maxRecDepth 100000 in
theorem shift_down (a : Value) (m : Nat) (k : Nat) (w : World) (ha : N32 w a m) (hl : (dig B32 m).length ≤ 262144) (h0 : m ≠ 0) (hk : 1 ≤ k) (hn : k < nbits m) : Calls Try.prog 49 #[a, .int .i64 (-(k : Int))] w (NatOk w (m / 2 ^ k)) := by
  have hc := checkAll_any w.heap.size 1 1 _ _ (nats1 (Limbs.num ha (by omega))) rfl (by omega)
  rw [chkAll1, chk_dig hl] at hc
  have hbA := below_new w (.cells #[a] 23)
  have hf := fromNat_any a m _ (ha.keep hbA) (by omega)
  have lm := words_le (n := m) (K := 131072) hl
  have hbt := fun v w' (h : W64 w' v m) => bits_call v m w' h (by omega)
  have h1 := nbits_ne h0
  have h2 := len_bits_le (n := m) (k := 131072) (words_le (K := 131072) hl)
  have hsh := fun v w' (h : W64 w' v m) => shiftRight_any v m k w' h (by omega) (by omega)
  have hlq : (dig B64 (m / 2 ^ k)).length ≤ 131072 := Nat.le_trans (dig_len_mono (Nat.div_le_self _ _)) (by omega)
  have hnt := fun v w' (h : W64 w' v (m / 2 ^ k)) => nat_any v _ w' h (by omega)
  have HSH := Lib.hid hsh
  have HNT := Lib.hid hnt
  generalize nbits m = r at *
  have hq : ((r : Int) == 0) = false := by simp; omega
  have hd : ¬ (-(k : Int)) ≤ -(r : Int) := by omega
  have HC := Lib.hid hc
  have HF := Lib.hid hf
  have HBT := Lib.hid hbt
  obtain ⟨A, c, rfl, _⟩ := ha
  clear hc hf hbt lm
  clear h0 hl hlq hsh hnt
  generalize (dig B32 m).length = L at *
  go_enter Try.func49, Try.ntmps49
  go_wp2_with (fail)
  refine (HC.out).mono ?_
  rintro e w1 ⟨rfl, rfl⟩
  go_wp2_with (fail)
  refine (HF.out).mono ?_
  rintro e w2 ⟨v1, rfl, hv1, hb2⟩
  have b2 := below_at hbA (Nat.le_refl _) hb2
  have k1_2 := hv1.is
  go_wp2_with (fail)
  refine (HBT.out _ _ k1_2).mono ?_
  rintro e w3 ⟨rfl, rfl⟩
  go_wp2_with (fail)
  refine (HSH.out _ _ k1_2).mono ?_
  rintro e w4 ⟨v2, rfl, hv2, hb4⟩
  have b4 := below_at b2 (Nat.le_refl _) hb4
  have k1_4 := k1_2.keep hb4
  have k2_4 := hv2
  go_wp2_with (fail)
  refine (HNT.out _ _ k2_4).mono ?_
  rintro e w5 ⟨v3, rfl, hv3, hb5⟩
  have b5 := below_at b4 (Nat.le_refl _) hb5
  have k1_5 := k1_4.keep hb5
  have k2_5 := k2_4.keep hb5
  go_wp2
  go_ret2
  exact ⟨_, rfl, hv3.mono b4.size, b5⟩

set_option maxHeartbeats 1000000 in
set_option maxRecDepth 100000 in
theorem shift_up (a : Value) (m : Nat) (k : Nat) (w : World) (ha : N32 w a m) (hl : (dig B32 m).length ≤ 262144) (h0 : m ≠ 0) (hn : k + nbits m ≤ 8388608) : Calls Try.prog 49 #[a, .int .i64 (k : Int)] w (NatOk w (m * 2 ^ k)) := by
  have hc := checkAll_any w.heap.size 1 1 _ _ (nats1 (Limbs.num ha (by omega))) rfl (by omega)
  rw [chkAll1, chk_dig hl] at hc
  have hbA := below_new w (.cells #[a] 23)
  have hf := fromNat_any a m _ (ha.keep hbA) (by omega)
  have lm := words_le (n := m) (K := 131072) hl
  have hbt := fun v w' (h : W64 w' v m) => bits_call v m w' h (by omega)
  have h1 := nbits_ne h0
  have h2 := len_bits_le (n := m) (k := 131072) (words_le (K := 131072) hl)
  have hsh := fun v w' (h : W64 w' v m) => shiftLeft_any v m k w' h (by omega) (by omega)
  have hlq : (dig B64 (m * 2 ^ k)).length ≤ 131072 := by
    refine len_of_bits (Nat.le_trans (nbits_le (k := nbits m + k) ?_) (by omega))
    rw [Nat.pow_add]
    exact Nat.mul_lt_mul_of_pos_right (nbits_lt m) (Nat.pow_pos (by omega))
  have hnt := fun v w' (h : W64 w' v (m * 2 ^ k)) => nat_any v _ w' h (by omega)
  have HSH := Lib.hid hsh
  have HNT := Lib.hid hnt
  generalize nbits m = r at *
  have hq : ((r : Int) == 0) = false := by simp; omega
  have hd : ¬ (k : Int) ≤ -(r : Int) := by omega
  have HC := Lib.hid hc
  have HF := Lib.hid hf
  have HBT := Lib.hid hbt
  obtain ⟨A, c, rfl, _⟩ := ha
  clear hc hf hbt lm
  clear h0 hl hlq hsh hnt
  generalize (dig B32 m).length = L at *
  go_enter Try.func49, Try.ntmps49
  go_wp2_with (fail)
  refine (HC.out).mono ?_
  rintro e w1 ⟨rfl, rfl⟩
  go_wp2_with (fail)
  refine (HF.out).mono ?_
  rintro e w2 ⟨v1, rfl, hv1, hb2⟩
  have b2 := below_at hbA (Nat.le_refl _) hb2
  have k1_2 := hv1.is
  go_wp2_with (fail)
  refine (HBT.out _ _ k1_2).mono ?_
  rintro e w3 ⟨rfl, rfl⟩
  go_wp2_with (fail)
  refine (HSH.out _ _ k1_2).mono ?_
  rintro e w4 ⟨v2, rfl, hv2, hb4⟩
  have b4 := below_at b2 (Nat.le_refl _) hb4
  have k1_4 := k1_2.keep hb4
  have k2_4 := hv2.is
  go_wp2_with (fail)
  refine (HNT.out _ _ k2_4).mono ?_
  rintro e w5 ⟨v3, rfl, hv3, hb5⟩
  have b5 := below_at b4 (Nat.le_refl _) hb5
  have k1_5 := k1_4.keep hb5
  have k2_5 := k2_4.keep hb5
  go_wp2
  go_ret2
  exact ⟨_, rfl, hv3.mono b4.size, b5⟩

end Go.Proofs.Ytaegkhdkhgemmaa

namespace Go.Proofs.Ytaegkhdkhgemmaa
open Go.RowKit Num

theorem len32_mono {m n : Nat} (h : m ≤ n) : (dig B32 m).length ≤ (dig B32 n).length := dig_len_le b32_two (Nat.lt_of_le_of_lt h (dig_len_lt b32_two))
theorem pow_lt_b32 {k j : Nat} (h : k < 32 * j) : 2 ^ k < B32 ^ j := by
  have e : B32 ^ j = 2 ^ (32 * j) := by rw [Nat.pow_mul]; rfl
  rw [e]; exact Nat.pow_lt_pow_right (by omega) h
theorem limbs_empty (w : World) : Limbs (w.alloc (.cells #[] 56)) (.slice (some ⟨w.heap.size, 0, none⟩) 0 0) (dig B32 0) := by
  rw [dig_zero]
  exact ⟨_, _, rfl, Nat.le_refl _, by simp, Nums.nil⟩

set_option maxHeartbeats 2000000 in
set_option maxRecDepth 100000 in
theorem shifts_bad (A : Option Addr) (c L : Nat) (n : Int) (xs : List Nat) (w : World) (hA : Nums .u32 w A xs) (hL : L = xs.length) (hc : L ≤ c) (hnil : A = none → c = 0) (hbad : chk (xs.take 24) ≠ 0) : Calls Try.prog 7 #[.slice A L c, .int .i64 n] w (LivesPost w) := by
  have hcut := fun w' (h : Below w.heap.size w w') => cut_any A c L 24 xs w' (hA.keep h) hL hc hnil (by omega)
  have l1 : (xs.take 24).length ≤ 24 := by rw [List.length_take]; omega
  generalize xs.take 24 = us at *
  have hlu : ∀ B w' a, OwnLs B w' a us → Limbs w' a us := fun B w' a h => h.limbs (by omega)
  have h27 := fun a w h => refCheck_l a us w h
  have h49 := fun a w h => shift_bad a n us w h hbad
  generalize chk us = r at *
  have hq : (r == 0) = false := by simp [hbad]
  have hq1 : (r != 0) = true := by simp [hbad]
  have h41 := fun b w => is_err b r w hbad
  have HCUT := Lib.hid hcut
  have HLU := Lib.hid hlu
  have H27 := Lib.hid h27
  have H49 := Lib.hid h49
  have H41 := Lib.hid h41
  have HBAD := Lib.hid hbad
  clear hcut hlu h27 h49 h41 hbad
  clear hA hL hnil l1
  go_enter Try.func7, Try.ntmps7
  go_wp2_with (fail)
  refine (HCUT.out _ (Below.refl _ _)).mono ?_
  rintro e w1 ⟨va, rfl, hva, hb1⟩
  have b1 := below_at (Below.refl _ _) (Nat.le_refl _) hb1
  have ka_1 := HLU.out _ _ _ hva
  go_wp2_with (fail)
  refine (H27.out _ _ ka_1).mono ?_
  rintro e w2 ⟨rfl, rfl⟩
  go_wp2_with (fail)
  refine (lives_any _).mono ?_
  rintro e w3 ⟨rfl, hb3⟩
  have b3 := below_at b1 (Nat.le_refl _) hb3
  have ka_3 := ka_1.keep hb3
  go_wp2_with (fail)
  refine (H49.out _ _ ka_3).mono ?_
  rintro e w4 ⟨rfl, hb4⟩
  have b4 := below_at b3 (Nat.le_refl _) hb4
  have ka_4 := ka_3.keep hb4
  go_wp2_with (fail)
  refine (H41.out _ _).mono ?_
  rintro e w5 ⟨rfl, hb5⟩
  have b5 := below_at b4 (Nat.le_refl _) hb5
  have ka_5 := ka_4.keep hb5
  go_wp2
  go_ret
  exact ⟨rfl, b5⟩

set_option maxHeartbeats 2000000 in
set_option maxRecDepth 100000 in
theorem shifts_zero (A : Option Addr) (c L : Nat) (n : Int) (xs : List Nat) (w : World) (hA : Nums .u32 w A xs) (hL : L = xs.length) (hc : L ≤ c) (hnil : A = none → c = 0) (m : Nat) (hm : xs.take 24 = dig B32 m) (h0 : m = 0) : Calls Try.prog 7 #[.slice A L c, .int .i64 n] w (LivesPost w) := by
  have hcut := fun w' (h : Below w.heap.size w w') => cut_any A c L 24 xs w' (hA.keep h) hL hc hnil (by omega)
  have l1 : (xs.take 24).length ≤ 24 := by rw [List.length_take]; omega
  rw [hm] at hcut l1
  have hlu : ∀ B w' a, OwnLs B w' a (dig B32 m) → Limbs w' a (dig B32 m) := fun B w' a h => h.limbs (by omega)
  have h27 := fun a w h => refCheck_l a (dig B32 m) w h
  rw [chk_dig (by omega)] at h27
  have lb : nbits m ≤ 768 := Nat.le_trans (bits_of_len l1) (by omega)
  have h49 := fun a w' (h : Limbs w' a (dig B32 m)) => shift_zero a m n w' h.is (by omega) h0
  have h41 := fun a w' (h : N32 w' a 0) (b : Value) (k : Limbs w' b (dig B32 0)) => is_ok a b 0 w' h k (by rw [dig_zero]; simp)
  obtain ⟨D, hD⟩ : ∃ D, (dig B32 m).length = D := ⟨_, rfl⟩
  have hd0 : D = 0 := by rw [← hD, h0, dig_zero]; rfl
  subst hd0
  have H49 := Lib.hid h49
  have H41 := Lib.hid h41
  clear h49 h41 h0
  have HCUT := Lib.hid hcut
  have HLU := Lib.hid hlu
  have H27 := Lib.hid h27
  have HD := Lib.hid hD
  clear hcut hlu h27 hD
  clear hA hL hnil l1 hm lb
  go_enter Try.func7, Try.ntmps7
  go_wp2_with (fail)
  refine (HCUT.out _ (Below.refl _ _)).mono ?_
  rintro e w1 ⟨va, rfl, hva, hb1⟩
  have b1 := below_at (Below.refl _ _) (Nat.le_refl _) hb1
  have ka_1 := HLU.out _ _ _ hva
  have kk := ka_1
  obtain ⟨A1, c1, hve, hq1, _, _⟩ := kk
  rw [HD.out] at hve hq1
  subst hve
  go_wp2_with (fail)
  refine (H27.out _ _ ka_1).mono ?_
  rintro e w2 ⟨rfl, rfl⟩
  go_wp2_with (fail)
  refine (lives_any _).mono ?_
  rintro e w3 ⟨rfl, hb3⟩
  have b3 := below_at b1 (Nat.le_refl _) hb3
  have ka_3 := ka_1.keep hb3
  go_wp2_with (fail)
  refine (H49.out _ _ ka_3).mono ?_
  rintro e w4 ⟨vs, rfl, hvs, hb4⟩
  have b4 := below_at b3 (Nat.le_refl _) hb4
  have ks_4 := hvs.is
  go_wp2_with (fail)
  refine (H41.out _ _ (ks_4.keep (below_new _ (.cells #[] 56))) _ (limbs_empty _)).mono ?_
  rintro e w5 ⟨rfl, hb5'⟩
  have hb5 := below_at (below_new _ (.cells #[] 56)) (Nat.le_refl _) hb5'
  have b5 := below_at b4 (Nat.le_refl _) hb5
  have ks_5 := ks_4.keep hb5
  go_wp2
  go_ret
  exact ⟨rfl, b5⟩

set_option maxHeartbeats 2000000 in
set_option maxRecDepth 100000 in
theorem shifts_long (A : Option Addr) (c L : Nat) (n : Int) (xs : List Nat) (w : World) (hA : Nums .u32 w A xs) (hL : L = xs.length) (hc : L ≤ c) (hnil : A = none → c = 0) (m : Nat) (hm : xs.take 24 = dig B32 m) (h0 : m ≠ 0) (hn : 8388608 < n) : Calls Try.prog 7 #[.slice A L c, .int .i64 n] w (LivesPost w) := by
  have hcut := fun w' (h : Below w.heap.size w w') => cut_any A c L 24 xs w' (hA.keep h) hL hc hnil (by omega)
  have l1 : (xs.take 24).length ≤ 24 := by rw [List.length_take]; omega
  rw [hm] at hcut l1
  have hlu : ∀ B w' a, OwnLs B w' a (dig B32 m) → Limbs w' a (dig B32 m) := fun B w' a h => h.limbs (by omega)
  have h27 := fun a w h => refCheck_l a (dig B32 m) w h
  rw [chk_dig (by omega)] at h27
  have lb : nbits m ≤ 768 := Nat.le_trans (bits_of_len l1) (by omega)
  have h49 := fun a w' (h : Limbs w' a (dig B32 m)) => shift_long a m n w' h.is (by omega) h0 (by omega)
  have h41 := fun b w => is_err b 3 w (by omega)
  have H49 := Lib.hid h49
  have H41 := Lib.hid h41
  clear h49 h41
  obtain ⟨D, hD⟩ : ∃ D, (dig B32 m).length = D := ⟨_, rfl⟩
  have hd0 : 0 < D := by rw [← hD]; exact Nat.pos_of_ne_zero fun h => h0 ((dig_nil_iff b32_two).1 (List.eq_nil_of_length_eq_zero h))
  clear h0
  have HCUT := Lib.hid hcut
  have HLU := Lib.hid hlu
  have H27 := Lib.hid h27
  have HD := Lib.hid hD
  clear hcut hlu h27 hD
  clear hA hL hnil l1 hm lb
  go_enter Try.func7, Try.ntmps7
  go_wp2_with (fail)
  refine (HCUT.out _ (Below.refl _ _)).mono ?_
  rintro e w1 ⟨va, rfl, hva, hb1⟩
  have b1 := below_at (Below.refl _ _) (Nat.le_refl _) hb1
  have ka_1 := HLU.out _ _ _ hva
  have kk := ka_1
  obtain ⟨A1, c1, hve, hq1, _, _⟩ := kk
  rw [HD.out] at hve hq1
  subst hve
  go_wp2_with (fail)
  refine (H27.out _ _ ka_1).mono ?_
  rintro e w2 ⟨rfl, rfl⟩
  go_wp2_with (fail)
  refine (lives_any _).mono ?_
  rintro e w3 ⟨rfl, hb3⟩
  have b3 := below_at b1 (Nat.le_refl _) hb3
  have ka_3 := ka_1.keep hb3
  go_wp2_with (fail)
  refine (H49.out _ _ ka_3).mono ?_
  rintro e w4 ⟨rfl, hb4⟩
  have b4 := below_at b3 (Nat.le_refl _) hb4
  go_wp2_with (fail)
  refine (H41.out _ _).mono ?_
  rintro e w5 ⟨rfl, hb5⟩
  have b5 := below_at b4 (Nat.le_refl _) hb5
  go_wp2
  go_ret
  exact ⟨rfl, b5⟩

set_option maxHeartbeats 2000000 in
set_option maxRecDepth 100000 in
theorem shifts_low (A : Option Addr) (c L : Nat) (n : Int) (xs : List Nat) (w : World) (hA : Nums .u32 w A xs) (hL : L = xs.length) (hc : L ≤ c) (hnil : A = none → c = 0) (m : Nat) (hm : xs.take 24 = dig B32 m) (h0 : m ≠ 0) (hn : n < -2000) : Calls Try.prog 7 #[.slice A L c, .int .i64 n] w (LivesPost w) := by
  have hcut := fun w' (h : Below w.heap.size w w') => cut_any A c L 24 xs w' (hA.keep h) hL hc hnil (by omega)
  have l1 : (xs.take 24).length ≤ 24 := by rw [List.length_take]; omega
  rw [hm] at hcut l1
  have hlu : ∀ B w' a, OwnLs B w' a (dig B32 m) → Limbs w' a (dig B32 m) := fun B w' a h => h.limbs (by omega)
  have h27 := fun a w h => refCheck_l a (dig B32 m) w h
  rw [chk_dig (by omega)] at h27
  have lb : nbits m ≤ 768 := Nat.le_trans (bits_of_len l1) (by omega)
  have h49 := fun a w' (h : Limbs w' a (dig B32 m)) => shift_low a m n w' h.is (by omega) h0 (by omega)
  have h41 := fun a w' (h : N32 w' a 0) (b : Value) (k : Limbs w' b (dig B32 0)) => is_ok a b 0 w' h k (by rw [dig_zero]; simp)
  have H49 := Lib.hid h49
  have H41 := Lib.hid h41
  clear h49 h41
  obtain ⟨D, hD⟩ : ∃ D, (dig B32 m).length = D := ⟨_, rfl⟩
  have hd0 : 0 < D := by rw [← hD]; exact Nat.pos_of_ne_zero fun h => h0 ((dig_nil_iff b32_two).1 (List.eq_nil_of_length_eq_zero h))
  clear h0
  have HCUT := Lib.hid hcut
  have HLU := Lib.hid hlu
  have H27 := Lib.hid h27
  have HD := Lib.hid hD
  clear hcut hlu h27 hD
  clear hA hL hnil l1 hm lb
  go_enter Try.func7, Try.ntmps7
  go_wp2_with (fail)
  refine (HCUT.out _ (Below.refl _ _)).mono ?_
  rintro e w1 ⟨va, rfl, hva, hb1⟩
  have b1 := below_at (Below.refl _ _) (Nat.le_refl _) hb1
  have ka_1 := HLU.out _ _ _ hva
  have kk := ka_1
  obtain ⟨A1, c1, hve, hq1, _, _⟩ := kk
  rw [HD.out] at hve hq1
  subst hve
  go_wp2_with (fail)
  refine (H27.out _ _ ka_1).mono ?_
  rintro e w2 ⟨rfl, rfl⟩
  go_wp2_with (fail)
  refine (lives_any _).mono ?_
  rintro e w3 ⟨rfl, hb3⟩
  have b3 := below_at b1 (Nat.le_refl _) hb3
  have ka_3 := ka_1.keep hb3
  go_wp2_with (fail)
  refine (H49.out _ _ ka_3).mono ?_
  rintro e w4 ⟨vs, rfl, hvs, hb4⟩
  have b4 := below_at b3 (Nat.le_refl _) hb4
  have ks_4 := hvs.is
  go_wp2_with (fail)
  refine (H41.out _ _ (ks_4.keep (below_new _ (.cells #[] 56))) _ (limbs_empty _)).mono ?_
  rintro e w5 ⟨rfl, hb5'⟩
  have hb5 := below_at (below_new _ (.cells #[] 56)) (Nat.le_refl _) hb5'
  have b5 := below_at b4 (Nat.le_refl _) hb5
  have ks_5 := ks_4.keep hb5
  go_wp2
  go_ret
  exact ⟨rfl, b5⟩

set_option maxHeartbeats 2000000 in
set_option maxRecDepth 100000 in
theorem shifts_up (A : Option Addr) (c L : Nat) (n : Int) (xs : List Nat) (w : World) (hA : Nums .u32 w A xs) (hL : L = xs.length) (hc : L ≤ c) (hnil : A = none → c = 0) (m : Nat) (hm : xs.take 24 = dig B32 m) (h0 : m ≠ 0) (k : Nat) (hk : k ≤ 4000) (hn : n = (k : Int)) : Calls Try.prog 7 #[.slice A L c, .int .i64 n] w (LivesPost w) := by
  have hcut := fun w' (h : Below w.heap.size w w') => cut_any A c L 24 xs w' (hA.keep h) hL hc hnil (by omega)
  have l1 : (xs.take 24).length ≤ 24 := by rw [List.length_take]; omega
  rw [hm] at hcut l1
  have hlu : ∀ B w' a, OwnLs B w' a (dig B32 m) → Limbs w' a (dig B32 m) := fun B w' a h => h.limbs (by omega)
  have h27 := fun a w h => refCheck_l a (dig B32 m) w h
  rw [chk_dig (by omega)] at h27
  have lb : nbits m ≤ 768 := Nat.le_trans (bits_of_len l1) (by omega)
  have h49 : ∀ a w', Limbs w' a (dig B32 m) → Calls Try.prog 49 #[a, .int .i64 n] w' (NatOk w' (m * 2 ^ k)) := fun a w' h => by rw [hn]; exact shift_up a m k w' h.is (by omega) h0 (by omega)
  have h50 : ∀ a w', Limbs w' a (dig B32 m) → Calls Try.prog 50 #[a, .int .i64 n] w' (LsPost w' (dig B32 (m * 2 ^ k))) := fun a w' h => by rw [hn]; exact left_any a m k w' h.is (by omega) (by omega)
  have hlr : (dig B32 (m * 2 ^ k)).length ≤ 1000 := Nat.le_trans (prod_len l1 (dig_len_le b32_two (n := 2 ^ k) (k := 200) (pow_lt_b32 (show k < 32 * 200 by omega)))) (by omega)
  have h41 : ∀ (B : Nat) (a : Value) (w' : World), N32 w' a (m * 2 ^ k) → ∀ b, OwnLs B w' b (dig B32 (m * 2 ^ k)) → Calls Try.prog 41 #[a, .int .i64 0, b, .int .i64 0] w' (LivesPost w') := fun B a w' h b kk => is_ok a b (m * 2 ^ k) w' h (kk.limbs (by omega)) (by omega)
  have H49 := Lib.hid h49
  have H41 := Lib.hid h41
  clear h49 h41
  have H50 := Lib.hid h50
  clear h50 hlr
  have hn0 : 0 ≤ n := by omega
  have hn1 : n ≤ 4000 := by omega
  clear hn
  obtain ⟨D, hD⟩ : ∃ D, (dig B32 m).length = D := ⟨_, rfl⟩
  have hd0 : 0 < D := by rw [← hD]; exact Nat.pos_of_ne_zero fun h => h0 ((dig_nil_iff b32_two).1 (List.eq_nil_of_length_eq_zero h))
  clear h0
  have HCUT := Lib.hid hcut
  have HLU := Lib.hid hlu
  have H27 := Lib.hid h27
  have HD := Lib.hid hD
  clear hcut hlu h27 hD
  clear hA hL hnil l1 hm lb
  go_enter Try.func7, Try.ntmps7
  go_wp2_with (fail)
  refine (HCUT.out _ (Below.refl _ _)).mono ?_
  rintro e w1 ⟨va, rfl, hva, hb1⟩
  have b1 := below_at (Below.refl _ _) (Nat.le_refl _) hb1
  have ka_1 := HLU.out _ _ _ hva
  have kk := ka_1
  obtain ⟨A1, c1, hve, hq1, _, _⟩ := kk
  rw [HD.out] at hve hq1
  subst hve
  go_wp2_with (fail)
  refine (H27.out _ _ ka_1).mono ?_
  rintro e w2 ⟨rfl, rfl⟩
  go_wp2_with (fail)
  refine (lives_any _).mono ?_
  rintro e w3 ⟨rfl, hb3⟩
  have b3 := below_at b1 (Nat.le_refl _) hb3
  have ka_3 := ka_1.keep hb3
  go_wp2_with (fail)
  refine (H49.out _ _ ka_3).mono ?_
  rintro e w4 ⟨vs, rfl, hvs, hb4⟩
  have b4 := below_at b3 (Nat.le_refl _) hb4
  have ka_4 := ka_3.keep hb4
  have ks_4 := hvs.is
  go_wp2_with (fail)
  refine (H50.out _ _ ka_4).mono ?_
  rintro e w5 ⟨vr, rfl, hvr, hb5⟩
  have b5 := below_at b4 (Nat.le_refl _) hb5
  have ks_5 := ks_4.keep hb5
  go_wp2_with (fail)
  refine (H41.out _ _ _ ks_5 _ hvr).mono ?_
  rintro e w6 ⟨rfl, hb6⟩
  have b6 := below_at b5 (Nat.le_refl _) hb6
  go_wp2
  go_ret
  exact ⟨rfl, b6⟩

set_option maxHeartbeats 2000000 in
set_option maxRecDepth 100000 in
theorem shifts_mod (A : Option Addr) (c L : Nat) (n : Int) (xs : List Nat) (w : World) (hA : Nums .u32 w A xs) (hL : L = xs.length) (hc : L ≤ c) (hnil : A = none → c = 0) (m : Nat) (hm : xs.take 24 = dig B32 m) (h0 : m ≠ 0) (k : Nat) (hk : k + 1 ≤ 4000) (hn : 4000 < n) (hn2 : n ≤ 8388608) (he : n % 4000 = (k : Int)) : Calls Try.prog 7 #[.slice A L c, .int .i64 n] w (LivesPost w) := by
  have hcut := fun w' (h : Below w.heap.size w w') => cut_any A c L 24 xs w' (hA.keep h) hL hc hnil (by omega)
  have l1 : (xs.take 24).length ≤ 24 := by rw [List.length_take]; omega
  rw [hm] at hcut l1
  have hlu : ∀ B w' a, OwnLs B w' a (dig B32 m) → Limbs w' a (dig B32 m) := fun B w' a h => h.limbs (by omega)
  have h27 := fun a w h => refCheck_l a (dig B32 m) w h
  rw [chk_dig (by omega)] at h27
  have lb : nbits m ≤ 768 := Nat.le_trans (bits_of_len l1) (by omega)
  have hs : (k : Int) + 1 = ((k + 1 : Nat) : Int) := by omega
  have h49 : ∀ a w', Limbs w' a (dig B32 m) → Calls Try.prog 49 #[a, .int .i64 ((k : Int) + 1)] w' (NatOk w' (m * 2 ^ (k + 1))) := fun a w' h => by rw [hs]; exact shift_up a m (k + 1) w' h.is (by omega) h0 (by omega)
  have h50 : ∀ a w', Limbs w' a (dig B32 m) → Calls Try.prog 50 #[a, .int .i64 ((k : Int) + 1)] w' (LsPost w' (dig B32 (m * 2 ^ (k + 1)))) := fun a w' h => by rw [hs]; exact left_any a m (k + 1) w' h.is (by omega) (by omega)
  have hlr : (dig B32 (m * 2 ^ (k + 1))).length ≤ 1000 := Nat.le_trans (prod_len l1 (dig_len_le b32_two (n := 2 ^ (k + 1)) (k := 200) (pow_lt_b32 (show k + 1 < 32 * 200 by omega)))) (by omega)
  have h41 : ∀ (B : Nat) (a : Value) (w' : World), N32 w' a (m * 2 ^ (k + 1)) → ∀ b, OwnLs B w' b (dig B32 (m * 2 ^ (k + 1))) → Calls Try.prog 41 #[a, .int .i64 0, b, .int .i64 0] w' (LivesPost w') := fun B a w' h b kk => is_ok a b (m * 2 ^ (k + 1)) w' h (kk.limbs (by omega)) (by omega)
  have H49 := Lib.hid h49
  have H41 := Lib.hid h41
  clear h49 h41
  have H50 := Lib.hid h50
  clear h50 hlr
  clear hs
  obtain ⟨D, hD⟩ : ∃ D, (dig B32 m).length = D := ⟨_, rfl⟩
  have hd0 : 0 < D := by rw [← hD]; exact Nat.pos_of_ne_zero fun h => h0 ((dig_nil_iff b32_two).1 (List.eq_nil_of_length_eq_zero h))
  clear h0
  have HCUT := Lib.hid hcut
  have HLU := Lib.hid hlu
  have H27 := Lib.hid h27
  have HD := Lib.hid hD
  clear hcut hlu h27 hD
  clear hA hL hnil l1 hm lb
  go_enter Try.func7, Try.ntmps7
  go_wp2_with (fail)
  refine (HCUT.out _ (Below.refl _ _)).mono ?_
  rintro e w1 ⟨va, rfl, hva, hb1⟩
  have b1 := below_at (Below.refl _ _) (Nat.le_refl _) hb1
  have ka_1 := HLU.out _ _ _ hva
  have kk := ka_1
  obtain ⟨A1, c1, hve, hq1, _, _⟩ := kk
  rw [HD.out] at hve hq1
  subst hve
  go_wp2_with (fail)
  refine (H27.out _ _ ka_1).mono ?_
  rintro e w2 ⟨rfl, rfl⟩
  go_wp2_with (fail)
  refine (lives_any _).mono ?_
  rintro e w3 ⟨rfl, hb3⟩
  have b3 := below_at b1 (Nat.le_refl _) hb3
  have ka_3 := ka_1.keep hb3
  go_wp2_with (fail)
  refine (H49.out _ _ ka_3).mono ?_
  rintro e w4 ⟨vs, rfl, hvs, hb4⟩
  have b4 := below_at b3 (Nat.le_refl _) hb4
  have ka_4 := ka_3.keep hb4
  have ks_4 := hvs.is
  go_wp2_with (fail)
  refine (H50.out _ _ ka_4).mono ?_
  rintro e w5 ⟨vr, rfl, hvr, hb5⟩
  have b5 := below_at b4 (Nat.le_refl _) hb5
  have ks_5 := ks_4.keep hb5
  go_wp2_with (fail)
  refine (H41.out _ _ _ ks_5 _ hvr).mono ?_
  rintro e w6 ⟨rfl, hb6⟩
  have b6 := below_at b5 (Nat.le_refl _) hb6
  go_wp2
  go_ret
  exact ⟨rfl, b6⟩

set_option maxHeartbeats 2000000 in
set_option maxRecDepth 100000 in
theorem shifts_down (A : Option Addr) (c L : Nat) (n : Int) (xs : List Nat) (w : World) (hA : Nums .u32 w A xs) (hL : L = xs.length) (hc : L ≤ c) (hnil : A = none → c = 0) (m : Nat) (hm : xs.take 24 = dig B32 m) (h0 : m ≠ 0) (k : Nat) (hk : 1 ≤ k) (hk2 : k ≤ 2000) (hn : n = -(k : Int)) : Calls Try.prog 7 #[.slice A L c, .int .i64 n] w (LivesPost w) := by
  have hcut := fun w' (h : Below w.heap.size w w') => cut_any A c L 24 xs w' (hA.keep h) hL hc hnil (by omega)
  have l1 : (xs.take 24).length ≤ 24 := by rw [List.length_take]; omega
  rw [hm] at hcut l1
  have hlu : ∀ B w' a, OwnLs B w' a (dig B32 m) → Limbs w' a (dig B32 m) := fun B w' a h => h.limbs (by omega)
  have h27 := fun a w h => refCheck_l a (dig B32 m) w h
  rw [chk_dig (by omega)] at h27
  have lb : nbits m ≤ 768 := Nat.le_trans (bits_of_len l1) (by omega)
  have h49 : ∀ a w', Limbs w' a (dig B32 m) → Calls Try.prog 49 #[a, .int .i64 n] w' (NatOk w' (m / 2 ^ k)) := fun a w' h => by
    subst hn
    by_cases hb : k < nbits m
    · exact shift_down a m k w' h.is (by omega) h0 hk hb
    · have := shift_low a m (-(k : Int)) w' h.is (by omega) h0 (by omega)
      have hz : m / 2 ^ k = 0 := Nat.div_eq_of_lt (lt_of_nbits (by omega))
      rw [hz]; exact this
  have h50 := fun a w' (h : Limbs w' a (dig B32 m)) => right_any a m k w' h.is (by omega) (by omega)
  have hlr : (dig B32 (m / 2 ^ k)).length ≤ 1000 := Nat.le_trans (len32_mono (Nat.div_le_self _ _)) (by omega)
  have h41 : ∀ (B : Nat) (a : Value) (w' : World), N32 w' a (m / 2 ^ k) → ∀ b, OwnLs B w' b (dig B32 (m / 2 ^ k)) → Calls Try.prog 41 #[a, .int .i64 0, b, .int .i64 0] w' (LivesPost w') := fun B a w' h b kk => is_ok a b (m / 2 ^ k) w' h (kk.limbs (by omega)) (by omega)
  have H49 := Lib.hid h49
  have H41 := Lib.hid h41
  clear h49 h41
  have H50 := Lib.hid h50
  clear h50 hlr
  obtain ⟨D, hD⟩ : ∃ D, (dig B32 m).length = D := ⟨_, rfl⟩
  have hd0 : 0 < D := by rw [← hD]; exact Nat.pos_of_ne_zero fun h => h0 ((dig_nil_iff b32_two).1 (List.eq_nil_of_length_eq_zero h))
  clear h0
  subst hn
  have HCUT := Lib.hid hcut
  have HLU := Lib.hid hlu
  have H27 := Lib.hid h27
  have HD := Lib.hid hD
  clear hcut hlu h27 hD
  clear hA hL hnil l1 hm lb
  go_enter Try.func7, Try.ntmps7
  go_wp2_with (fail)
  refine (HCUT.out _ (Below.refl _ _)).mono ?_
  rintro e w1 ⟨va, rfl, hva, hb1⟩
  have b1 := below_at (Below.refl _ _) (Nat.le_refl _) hb1
  have ka_1 := HLU.out _ _ _ hva
  have kk := ka_1
  obtain ⟨A1, c1, hve, hq1, _, _⟩ := kk
  rw [HD.out] at hve hq1
  subst hve
  go_wp2_with (fail)
  refine (H27.out _ _ ka_1).mono ?_
  rintro e w2 ⟨rfl, rfl⟩
  go_wp2_with (fail)
  refine (lives_any _).mono ?_
  rintro e w3 ⟨rfl, hb3⟩
  have b3 := below_at b1 (Nat.le_refl _) hb3
  have ka_3 := ka_1.keep hb3
  go_wp2_with (fail)
  refine (H49.out _ _ ka_3).mono ?_
  rintro e w4 ⟨vs, rfl, hvs, hb4⟩
  have b4 := below_at b3 (Nat.le_refl _) hb4
  have ka_4 := ka_3.keep hb4
  have ks_4 := hvs.is
  go_wp2_with (fail)
  refine (H50.out _ _ ka_4).mono ?_
  rintro e w5 ⟨vr, rfl, hvr, hb5⟩
  have b5 := below_at b4 (Nat.le_refl _) hb5
  have ks_5 := ks_4.keep hb5
  go_wp2_with (fail)
  refine (H41.out _ _ _ ks_5 _ hvr).mono ?_
  rintro e w6 ⟨rfl, hb6⟩
  have b6 := below_at b5 (Nat.le_refl _) hb6
  go_wp2
  go_ret
  exact ⟨rfl, b6⟩

/-- The law NatShifts, for whatever limbs and whatever number of places. -/
theorem shifts_walk (A : Option Addr) (c L : Nat) (n : Int) (xs : List Nat) (w : World) (hA : Nums .u32 w A xs) (hL : L = xs.length) (hc : L ≤ c) (hnil : A = none → c = 0) (hlow : Low B32 xs) : Calls Try.prog 7 #[.slice A L c, .int .i64 n] w (LivesPost w) := by
  by_cases hb : chk (xs.take 24) = 0
  · have hm := chk_zero (hlow.take 24) hb
    by_cases h0 : val B32 (xs.take 24) = 0
    · exact shifts_zero A c L n xs w hA hL hc hnil _ hm h0
    · rcases Int.lt_or_le 8388608 n with h1 | h1
      · exact shifts_long A c L n xs w hA hL hc hnil _ hm h0 h1
      · rcases Int.lt_or_le 4000 n with h2 | h2
        · exact shifts_mod A c L n xs w hA hL hc hnil _ hm h0 (n % 4000).toNat (by omega) h2 h1 (by omega)
        · rcases Int.lt_or_le n 0 with h3 | h3
          · rcases Int.lt_or_le n (-2000) with h4 | h4
            · exact shifts_low A c L n xs w hA hL hc hnil _ hm h0 h4
            · exact shifts_down A c L n xs w hA hL hc hnil _ hm h0 (-n).toNat (by omega) (by omega) (by omega)
          · exact shifts_up A c L n xs w hA hL hc hnil _ hm h0 n.toNat (by omega) (by omega)
  · exact shifts_bad A c L n xs w hA hL hc hnil hb
end Go.Proofs.Ytaegkhdkhgemmaa
