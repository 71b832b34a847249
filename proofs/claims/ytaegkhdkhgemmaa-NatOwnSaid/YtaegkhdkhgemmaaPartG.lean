/- Part of the proof of NatOwn: KarQ, Blk, MulAll, OwnGcd, RootLaws, RootW, RefSub, AddsW. -/
import Derived.Test.YtaegkhdkhgemmaaPartF
import Derived.Test.YtaegkhdkhgemmaaPartB
import Derived.Test.YtaegkhdkhgemmaaPartE
import Derived.Test.YtaegkhdkhgemmaaPartC
namespace Go.Proofs.Ytaegkhdkhgemmaa
open Go.RowKit Num
theorem high_none (A : Option Addr) (n h : Nat) (w : World) (hl : (dig B64 n).length ≤ h) : W64 w (.slice A 0 0) (n / B64 ^ h) := by
  have e : n / B64 ^ h = 0 := Nat.div_eq_of_lt (lt_of_wlen hl)
  rw [e]
  refine ⟨A, 0, ?_, ?_, ?_⟩
  all_goals rw [dig_zero]
  all_goals first | rfl | exact Nats.nil | exact Nums.nil | exact Nat.le_refl _
set_option maxHeartbeats 4000000 in
set_option maxRecDepth 100000 in
theorem kara_eq {K : Nat} (HM : MulSpec K) (ga oa c gb ob c' La Lb m n : Nat) (w : World) (hA : Nums .u64 w (some ⟨ga, oa, none⟩) (dig B64 m)) (hB : Nums .u64 w (some ⟨gb, ob, none⟩) (dig B64 n))
    (hLa : La = (dig B64 m).length) (hLb : Lb = (dig B64 n).length) (h80 : 80 ≤ Lb) (_hle : Lb ≤ La) (h2 : La < 2 * Lb) (hc : La ≤ c) (hc' : Lb ≤ c') (hbig : La ≤ 1000000000) (hK : (La + 1) / 2 + 1 ≤ K) (hcb : c' = (La + 1) / 2) :
    Calls Try.prog 130 #[.slice (some ⟨ga, oa, none⟩) La c, .slice (some ⟨gb, ob, none⟩) Lb c'] w (SumPost w (m * n)) := by
  obtain ⟨h, hh⟩ : ∃ h, (La + 1) / 2 = h := ⟨_, rfl⟩
  have hhi : ((La : Int) + 1) / 2 = (h : Int) := by omega
  have hca : ¬ c = h := by omega
  rw [hh] at hcb hK
  subst c'
  have b1 : h ≤ Lb := by omega
  have b2 : h < La := by omega
  have b3 : 40 ≤ h := by omega
  have b4 : La - h ≤ h := by omega
  have b5 : Lb - h ≤ h := by omega
  have ha0 := fun w (hA : Nums .u64 w (some ⟨ga, oa, none⟩) (dig B64 m)) => low_half _ c m h w hA (by omega) (by omega) (by omega)
  have hb0 := fun w (hB : Nums .u64 w (some ⟨gb, ob, none⟩) (dig B64 n)) => low_half _ h n h w hB (by omega) (by omega) (by omega)
  have ia0 := fun w (hA : Nums .u64 w (some ⟨ga, oa, none⟩) (dig B64 m)) => low_is _ c m h w hA (by omega) (by omega)
  have ib0 := fun w (hB : Nums .u64 w (some ⟨gb, ob, none⟩) (dig B64 n)) => low_is _ h n h w hB (by omega) (by omega)
  have ia1 := fun w (hA : Nums .u64 w (some ⟨ga, oa, none⟩) (dig B64 m)) => high_is ga oa c m h w hA (by omega)
  have ib1 := fun (w : World) (_ : Nums .u64 w (some ⟨gb, ob, none⟩) (dig B64 n)) => high_none (some ⟨gb, ob, none⟩) n h w (by omega)
  rw [← hLa] at ia1
  have lm0 := dig_len_mod b64_two m h
  have ln0 := dig_len_mod b64_two n h
  have lm1 := dig_len_div b64_two m h
  have ln1 := dig_len_div b64_two n h
  rw [← hLa] at lm1
  rw [← hLb] at ln1
  have em := Nat.mod_add_div m (B64 ^ h)
  have en := Nat.mod_add_div n (B64 ^ h)
  have hlt := Nat.mul_lt_mul_of_lt_of_lt (dig_len_lt b64_two (n := m)) (dig_len_lt b64_two (n := n))
  rw [← hLa, ← hLb, ← Nat.pow_add] at hlt
  generalize m % B64 ^ h = m0 at *
  generalize n % B64 ^ h = n0 at *
  generalize m / B64 ^ h = m1 at *
  generalize n / B64 ^ h = n1 at *
  have ls1 : (dig B64 (m0 + m1)).length ≤ h + 1 := wlen_add lm0 (by omega)
  have ls2 : (dig B64 (n0 + n1)).length ≤ h + 1 := wlen_add ln0 (by omega)
  have M1 : ∀ a b w, W64 w a m0 → W64 w b n0 → Calls Try.prog 111 #[a, b] w (SumPost w (m0 * n0)) := fun a b w h k => HM a b m0 n0 w h k (by omega) (by omega)
  have M2 : ∀ a b w, W64 w a m1 → W64 w b n1 → Calls Try.prog 111 #[a, b] w (SumPost w (m1 * n1)) := fun a b w h k => HM a b m1 n1 w h k (by omega) (by omega)
  have M3 : ∀ a b w, W64 w a (m0 + m1) → W64 w b (n0 + n1) → Calls Try.prog 111 #[a, b] w (SumPost w ((m0 + m1) * (n0 + n1))) := fun a b w h k => HM a b _ _ w h k (by omega) (by omega)
  have S1 : ∀ a b w, W64 w a m0 → W64 w b m1 → Calls Try.prog 82 #[a, b] w (SumPost w (m0 + m1)) := fun a b w h k => sum_any a b m0 m1 w h k (by omega) (by omega)
  have S2 : ∀ a b w, W64 w a n0 → W64 w b n1 → Calls Try.prog 82 #[a, b] w (SumPost w (n0 + n1)) := fun a b w h k => sum_any a b n0 n1 w h k (by omega) (by omega)
  have hmk := make64 (La + Lb) (by omega)
  push_cast at hmk
  have hbits : m0 * n0 < B64 ^ (2 * h) ∧ m1 * n1 < B64 ^ (La + Lb - 2 * h) ∧ (m0 + m1) * (n0 + n1) < B64 ^ (2 * h + 2) := by
    refine ⟨?_, ?_, ?_⟩
    · rw [show 2 * h = h + h by omega, Nat.pow_add]
      exact Nat.mul_lt_mul_of_lt_of_lt (lt_of_wlen lm0) (lt_of_wlen ln0)
    · rw [show La + Lb - 2 * h = (La - h) + (Lb - h) by omega, Nat.pow_add]
      exact Nat.mul_lt_mul_of_lt_of_lt (lt_of_wlen (by omega)) (lt_of_wlen (by omega))
    · rw [show 2 * h + 2 = (h + 1) + (h + 1) by omega, Nat.pow_add]
      exact Nat.mul_lt_mul_of_lt_of_lt (lt_of_wlen ls1) (lt_of_wlen ls2)
  have HA := Lib.hid hA
  have HB := Lib.hid hB
  have H0 := Lib.hid ha0
  have H1 := Lib.hid hb0
  have IA0 := Lib.hid ia0
  have IB0 := Lib.hid ib0
  have IA1 := Lib.hid ia1
  have IB1 := Lib.hid ib1
  have HLA := Lib.hid hLa
  have HLB := Lib.hid hLb
  have HH := Lib.hid hh
  have HM1 := Lib.hid M1
  have HM2 := Lib.hid M2
  have HM3 := Lib.hid M3
  have HS1 := Lib.hid S1
  have HS2 := Lib.hid S2
  have HEM := Lib.hid em
  have HEN := Lib.hid en
  have HLT := Lib.hid hlt
  have HBI := Lib.hid hbits
  have below0 : ∀ k, Below w.heap.size w (w.drewN k) := fun k => below_drewN (Below.refl _ _) k
  have HBE := Lib.hid below0
  clear ha0 hb0 ia0 ib0 ia1 ib1 hLa hLb hh M1 M2 M3 S1 S2 em en hlt hbits HM below0 hA hB lm1 ln1
  go_enter Try.func130, Try.ntmps130
  go_wp2
  go_quiet ((go_at_call 78; exact quiet_l (H0.out _ (HA.out.keep (HBE.out _)))))
  go_wp2
  go_quiet ((go_at_call 78; exact quiet_a (H1.out _ (HB.out.keep (HBE.out _)))))
  go_wp2_with (fail)
  refine (HM1.out _ _ _ (IA0.out _ (HA.out.keep (HBE.out _))) (IB0.out _ (HB.out.keep (HBE.out _)))).mono ?_
  rintro e w1 ⟨v1, rfl, hv1, hb1⟩
  have c1 : Below w.heap.size w w1 := (HBE.out _).trans (hb1.mono (HBE.out _).size)
  obtain ⟨A1, d1, rfl, hd1, k1⟩ := hv1.is
  clear hv1
  have ll1 : (dig B64 (m0 * n0)).length ≤ 2 * h := dig_len_le b64_two HBI.out.1
  obtain ⟨l1, hl1⟩ : ∃ l, (dig B64 (m0 * n0)).length = l := ⟨_, rfl⟩
  have HL1 := Lib.hid hl1
  rw [hl1] at hd1 ll1 ⊢
  clear hl1
  go_wp2_with (fail)
  refine (HM2.out _ _ _ (IA1.out _ (HA.out.keep c1)) (IB1.out _ (HB.out.keep c1))).mono ?_
  rintro e w2 ⟨v2, rfl, hv2, hb2⟩
  have c2 := below_at c1 (Nat.le_refl _) hb2
  have k1' := k1.keep hb2
  obtain ⟨A2, d2', rfl, hd2, k2⟩ := hv2.is
  clear hv2 k1
  have ll2 : (dig B64 (m1 * n1)).length ≤ La + Lb - 2 * h := dig_len_le b64_two HBI.out.2.1
  obtain ⟨l2, hl2⟩ : ∃ l, (dig B64 (m1 * n1)).length = l := ⟨_, rfl⟩
  have HL2 := Lib.hid hl2
  rw [hl2] at hd2 ll2 ⊢
  clear hl2
  go_wp2_with (fail)
  refine (HS1.out _ _ _ (IA0.out _ (HA.out.keep c2)) (IA1.out _ (HA.out.keep c2))).mono ?_
  rintro e w3 ⟨v3, rfl, hv3, hb3⟩
  have c3 := below_at c2 (Nat.le_refl _) hb3
  go_wp2_with (fail)
  refine (HS2.out _ _ _ (IB0.out _ (HB.out.keep c3)) (IB1.out _ (HB.out.keep c3))).mono ?_
  rintro e w4 ⟨v4, rfl, hv4, hb4⟩
  have c4 := below_at c3 (Nat.le_refl _) hb4
  go_wp2_with (fail)
  refine (HM3.out _ _ _ (hv3.is.keep hb4) hv4.is).mono ?_
  rintro e w5 ⟨v5, rfl, ⟨g5, c5, zs5, rfl, hc5, hcz5, hg5, hr5, hl5, ht5⟩, hb5⟩
  have c5' := below_at c4 (Nat.le_refl _) hb5
  clear hv3 hv4
  have hK2 := kara_mid m0 m1 n0 n1
  have hmid5 : RawAt w5 g5 zs5 (dig B64 ((m0 + m1) * (n0 + n1))).length ((m0 + m1) * (n0 + n1)) := ⟨hr5, hl5, by omega, by
    have : seg zs5 0 (dig B64 ((m0 + m1) * (n0 + n1))).length = zs5.take (dig B64 ((m0 + m1) * (n0 + n1))).length := by simp [seg]
    rw [this, ht5, val_dig b64_two]⟩
  have lmid : (dig B64 ((m0 + m1) * (n0 + n1))).length ≤ 2 * h + 2 := dig_len_le b64_two HBI.out.2.2
  have w2g : w2.heap.size ≤ g5 := Nat.le_trans hb3.size (Nat.le_trans hb4.size hg5)
  have d2 : Below w2.heap.size w2 w5 := (hb3.trans (hb4.mono hb3.size)).trans (hb5.mono (Nat.le_trans hb3.size hb4.size))
  have HK2 := Lib.hid hK2
  have HT5 := Lib.hid ht5
  clear hK2 ht5 hr5
  generalize (dig B64 ((m0 + m1) * (n0 + n1))).length = lm at *
  subst hcz5
  go_wp2_with (fail)
  refine (subFrom_raw g5 lm _ (m0 * n0) _ zs5 _ w2 _ hmid5 ⟨_, _, by rw [HL1.out], by rw [HL1.out]; exact hd1, k1'⟩ d2 w2g HK2.out.2.1 (by omega)).mono ?_
  rintro e w6 ⟨zs6, rfl, hmid6, hlen6, hgr6⟩
  have d3 : Below w2.heap.size w2 w6 := d2.grown hgr6 d2.size (fun k hk => by injection hk with hk; omega)
  go_wp2_with (fail)
  refine (subFrom_raw g5 lm _ (m1 * n1) _ zs6 _ w2 _ hmid6 ⟨_, _, by rw [HL2.out], by rw [HL2.out]; exact hd2, k2⟩ d3 w2g HK2.out.2.2 (by omega)).mono ?_
  rintro e w7 ⟨zs7, rfl, hmid7, hlen7, hgr7⟩
  have d4 : Below w2.heap.size w2 w7 := d3.grown hgr7 d3.size (fun k hk => by injection hk with hk; omega)
  rw [HK2.out.1] at hmid7
  have k1z := k1'.keep d4
  have k2z := k2.keep d4
  have hr0 := Row.made w7 .u64 (La + Lb) 24
  have hbA : Below w7.heap.size w7 (w7.alloc (.cells (madeCells #[.int .u64 0] (La + Lb)) 24)) := (Below.refl _ _).alloc (Nat.le_refl _) _
  have q1 := k1z.keep hbA
  have q2 := k2z.keep hbA
  have HR0 := Lib.hid hr0
  have hn1 : (lay (List.replicate (La + Lb) 0) 0 (dig B64 (m0 * n0))).length = La + Lb := by rw [lay_len (by simp only [List.length_replicate, HL1.out]; omega)]; simp
  have HN1 := Lib.hid hn1
  clear hr0 hn1
  go_wp2_with (first
    | (refine wpList_copy_row rfl (.tmp 57) (.tmp 58) rfl _ _ _ _ _ _ rfl rfl _ 0 _ _ HR0.out q1 HL1.out.symm (by omega) (fun _ => rfl) (by simp only [List.length_replicate]; omega) ?_
       intro w8 hr8 hg8
       have hb8 : Below w7.heap.size w7 w8 := hbA.grown hg8 hbA.size (by simp)
       have q3 := q2.grown (nums_ne k2z (Nat.le_refl _)) hg8)
    | (refine wpList_copy_row rfl (.tmp 63) (.tmp 64) rfl _ _ _ _ _ _ rfl rfl _ (2 * h) _ _ (by assumption) (by assumption) HL2.out.symm (by omega) (fun _ => rfl) (by rw [HN1.out]; omega) ?_
       intro w9 hr9 hg9
       have hb9 : Below w7.heap.size w7 w9 := hb8.grown hg9 hb8.size (by simp)))
  have ev : (h : Int) ≤ (La : Int) + (Lb : Int) := by omega
  have nv : ¬ La + Lb = h := by omega
  have q5 : Row .u64 24 w9.drew g5 zs7 := (hmid7.row.below hb9 hmid7.row.lt).drew
  have q6 := q5.nums0 lm
  have t1 := trim_any (some ⟨g5, 0, none⟩) zs5.length lm (zs7.take lm) w9.drew q6 (hmid7.low.take lm) (by rw [List.length_take, Nat.min_eq_left hmid7.le]) (by have := hmid7.le; omega) (by omega)
  have t2 : val B64 (zs7.take lm) = m0 * n1 + m1 * n0 := by have := hmid7.eq; simpa [seg] using this
  rw [t2] at t1
  have hmn : m * n = m0 * n0 + B64 ^ h * B64 ^ h * (m1 * n1) + B64 ^ h * (m0 * n1 + m1 * n0) := by
    have := kara_sum m0 m1 n0 n1 (B64 ^ h)
    rwa [HEM.out, HEN.out] at this
  have hml : m0 * n1 + m1 * n0 < B64 ^ (La + Lb - h) := mid_lt hmn (by rw [show h + (La + Lb - h) = La + Lb by omega]; exact HLT.out)
  have hl3 : (dig B64 (m0 * n1 + m1 * n0)).length ≤ La + Lb - h := dig_len_le b64_two hml
  have q7 := q6.take (dig B64 (m0 * n1 + m1 * n0)).length
  have q8 := trim_take b64_two (hmid7.low.take lm)
  rw [t2] at q8
  rw [q8] at q7
  obtain ⟨Z, hZ⟩ : ∃ Z, lay (lay (List.replicate (La + Lb) 0) 0 (dig B64 (m0 * n0))) (2 * h) (dig B64 (m1 * n1)) = Z := ⟨_, rfl⟩
  have zl : Z.length = La + Lb := by rw [← hZ, lay_len (by rw [HN1.out, HL2.out]; omega), HN1.out]
  have zlow : Low B64 Z := by rw [← hZ]; exact lay_low (lay_low (Low.replicate b64_pos _) (dig_low64 _)) (dig_low64 _)
  have zv : val B64 Z = m0 * n0 + B64 ^ h * B64 ^ h * (m1 * n1) := by
    rw [← hZ, val_two (by rw [HL1.out]; omega) (by rw [HL2.out]; omega), val_dig b64_two, val_dig b64_two, show 2 * h = h + h by omega, Nat.pow_add]
  have zv2 : val B64 Z + B64 ^ h * val B64 (dig B64 (m0 * n1 + m1 * n0)) = m * n := by rw [zv, hmn, val_dig b64_two]
  have zlt : m * n < B64 ^ Z.length := by rw [zl]; exact HLT.out
  rw [hZ] at hr9
  have hr10 := hr9.drew
  have g2 : w.heap.size ≤ g5 := Nat.le_trans c2.size w2g
  have c6 : Below w.heap.size w w7 := (c5'.grown hgr6 c5'.size (fun k hk => by injection hk with hk; omega)) |>.grown hgr7 (by have := c5'.size; have := hgr6.size; omega) (fun k hk => by injection hk with hk; omega)
  have c9 : Below w.heap.size w w9 := below_at c6 (Nat.le_refl _) hb9
  have c10 : Below w.heap.size w w9.drew := c9.drew
  have g7 : w.heap.size ≤ w7.heap.size := c6.size
  have g57 : g5 < w7.heap.size := hmid7.row.lt
  have TT := Lib.hid t1
  have T2 := Lib.hid t2
  have ZL := Lib.hid zl
  have ZV := Lib.hid zv2
  clear t1 t2 hmn q8 hZ zl zv zv2 hr9
  go_still_tail 5, (by kernel_rfl)
  still_call (TT.out.mono fun _ _ ⟨he, hm⟩ => ⟨he, hm.symm⟩)
  refine wpStill_nil ?_
  change wpList _ _ _ _ _ w9.drew
  generalize w9.drew = w10 at *
  go_wp2_with (first
    | (go_at_call 106
       refine (addTo_any w7.heap.size h (La + Lb - h) (La + Lb - h) _ _ Z _ _ _ hr10 zlow (by rw [ZL.out]; omega) q7 (dig_low64 _) (fun _ a ha => by injection ha with ha; subst ha; exact Nat.ne_of_lt g57) rfl hl3 (by omega)).mono ?_
       rintro e w11 ⟨zs', cy, rfl, hst, hr11, hg11⟩
       have hb11 : Below w.heap.size w w11 := c10.grown hg11 c10.size (fun k hk => by injection hk with hk; omega)
       have hl11 := hst.len.trans ZL.out
       have hn11 : Nums .u64 w11 (some ⟨w7.heap.size, 0, none⟩) zs' := by have := hr11.nums0 zs'.length; rwa [List.take_length] at this
       have HL11 := Lib.hid hl11
       clear hl11)
    | (go_at_call 78
       refine (trim_any _ (La + Lb) (La + Lb) zs' _ (by assumption) hst.low HL11.out.symm (Nat.le_refl _) (by omega)).mono ?_
       rintro e w12 ⟨rfl, rfl⟩))
  go_ret
  have hv := hst.whole (by rw [ZL.out]; omega) hl3 ZV.out zlt
  rw [← hv]
  refine ⟨_, rfl, ?_, hb11⟩
  have := own_of_trim b64_two hr11 hst.low g7
  rw [HL11.out] at this
  exact this
end Go.Proofs.Ytaegkhdkhgemmaa

namespace Go.Proofs.Ytaegkhdkhgemmaa
open Go.RowKit Num

/-- One block of a number. -/
theorem block_is (ga oa c m i j : Nat) (w : World) (hA : Nums .u64 w (some ⟨ga, oa, none⟩) (dig B64 m)) (hc : (dig B64 m).length ≤ c) (hij : i + j ≤ (dig B64 m).length) (hbig : (dig B64 m).length ≤ 1000000000) :
    (Calls Try.prog 78 #[.slice (some ⟨ga, oa + i, none⟩) j (c - i)] w fun e w' => e = .returned (.slice (some ⟨ga, oa + i, none⟩) (dig B64 (m / B64 ^ i % B64 ^ j)).length (c - i)) ∧ w = w')
    ∧ W64 w (.slice (some ⟨ga, oa + i, none⟩) (dig B64 (m / B64 ^ i % B64 ^ j)).length (c - i)) (m / B64 ^ i % B64 ^ j) := by
  obtain ⟨A, d, e, _, hN⟩ := high_is ga oa c m i w hA hc
  injection e with e1 e2 e3
  subst e1 e3
  have hl := dig_len_div b64_two m i
  exact ⟨low_half _ _ _ j w hN (by omega) (by omega) (by omega), low_is _ _ _ j w hN (by omega) (by omega)⟩
theorem mod_block (b m i j : Nat) : m % b ^ i + b ^ i * (m / b ^ i % b ^ j) = m % b ^ (i + j) := by
  rw [Nat.pow_add, Nat.mod_mul]

set_option maxHeartbeats 4000000 in
set_option maxRecDepth 100000 in
theorem blocks_any {K : Nat} (HM : MulSpec K) (ga oa c gb ob c' La Lb m n : Nat) (w : World) (hA : Nums .u64 w (some ⟨ga, oa, none⟩) (dig B64 m)) (hB : Nums .u64 w (some ⟨gb, ob, none⟩) (dig B64 n))
    (hLa : La = (dig B64 m).length) (hLb : Lb = (dig B64 n).length) (h80 : 80 ≤ Lb) (h2 : 2 * Lb ≤ La) (hc : La ≤ c) (hc' : Lb ≤ c') (hbig : La ≤ 1000000000) (hK : Lb ≤ K) :
    Calls Try.prog 129 #[.slice (some ⟨ga, oa, none⟩) La c, .slice (some ⟨gb, ob, none⟩) Lb c'] w (SumPost w (m * n)) := by
  have hmk := make64 (La + Lb) (by omega)
  push_cast at hmk
  have hr0 := Row.made w .u64 (La + Lb) 24
  have hbA : Below w.heap.size w (w.alloc (.cells (madeCells #[.int .u64 0] (La + Lb)) 24)) := (Below.refl _ _).alloc (Nat.le_refl _) _
  have hv0 : val B64 (List.replicate (La + Lb) 0) = m % B64 ^ 0 * n := by rw [val_replicate, Nat.pow_zero, Nat.mod_one, Nat.zero_mul]
  have hlt := Nat.mul_lt_mul_of_lt_of_lt (dig_len_lt b64_two (n := m)) (dig_len_lt b64_two (n := n))
  rw [← hLa, ← hLb, ← Nat.pow_add] at hlt
  have HLT := Lib.hid hlt
  have HV0 := Lib.hid hv0
  have HR0 := Lib.hid hr0
  have HA := Lib.hid hA
  have HB := Lib.hid hB
  have HLA := Lib.hid hLa
  have HLB := Lib.hid hLb
  have HMM := Lib.hid HM
  clear hA hB hLa hLb HM hr0 hv0 hlt
  go_enter Try.func129, Try.ntmps129
  go_wp2
  go_loopw [6] (fun t wr => ∃ (i : Nat) (zs : List Nat), i ≤ La + Lb ∧ t = .int .i64 (i : Int) ∧ zs.length = La + Lb ∧ Low B64 zs ∧ val B64 zs = m % B64 ^ i * n ∧ Row .u64 24 wr w.heap.size zs ∧ Below w.heap.size w wr) (fun t _ => La + Lb - (intOf t).toNat)
  case atStart => exact ⟨0, _, Nat.zero_le _, rfl, by simp, Low.replicate b64_pos _, HV0.out, HR0.out, hbA⟩
  case round =>
    clear HR0 HV0 hbA hmk
    obtain ⟨i, zs, hi, rfl, hzl, hzlow, hzv, hrow, hbl⟩ := hrel
    have HZL := Lib.hid hzl
    have HZV := Lib.hid hzv
    clear hzl hzv
    by_cases hlt : i < La
    · have hci : ¬ c = i := by omega
      have ev : (i : Int) ≤ (La : Int) + (Lb : Int) := by omega
      have nv : ¬ La + Lb = i := by omega
      obtain ⟨j, hj⟩ : ∃ j, (min ((i : Int) + (Lb : Int)) (La : Int)).toNat - i = j := ⟨_, rfl⟩
      have j1 : j ≤ Lb := by omega
      have j2 : i + j ≤ La := by omega
      have j3 : i + j = La ∨ j = Lb := by omega
      have HJ := Lib.hid hj
      have J3 := Lib.hid j3
      have bc := fun w (hA : Nums .u64 w (some ⟨ga, oa, none⟩) (dig B64 m)) => block_is ga oa c m i j w hA (by rw [← HLA.out]; exact hc) (by rw [← HLA.out]; exact j2) (by rw [← HLA.out]; exact hbig)
      have bl : (dig B64 (m / B64 ^ i % B64 ^ j)).length ≤ j := dig_len_mod b64_two _ _
      have bm := mod_block B64 m i j
      obtain ⟨mb, hmb⟩ : ∃ mb, m / B64 ^ i % B64 ^ j = mb := ⟨_, rfl⟩
      rw [hmb] at bc bl bm
      have BC := Lib.hid bc
      have BM := Lib.hid bm
      have hpl : (dig B64 (mb * n)).length ≤ La + Lb - i := by
        refine dig_len_le b64_two ?_
        have h1 := Nat.mul_lt_mul_of_lt_of_lt (lt_of_wlen bl) (dig_len_lt b64_two (n := n))
        rw [← HLB.out, ← Nat.pow_add] at h1
        exact Nat.lt_of_lt_of_le h1 (Nat.pow_le_pow_right b64_pos (by omega))
      clear hj j3 bc bm hmb
      go_wp2_with (go_at_call 78; rw [HJ.out]; refine ((BC.out _ (HA.out.keep hbl)).1).mono ?_; rintro e w1 ⟨rfl, rfl⟩)
      have hrow1 := hrow.drew
      have hbl1 : Below w.heap.size w wr.drew := hbl.drew
      have hgz : w.heap.size < wr.drew.heap.size := hrow1.lt
      clear hrow hbl
      have hmul := HMM.out _ _ mb n wr.drew ((BC.out _ (HA.out.keep hbl1)).2) ⟨_, _, by rw [← HLB.out], by rw [← HLB.out]; exact hc', HB.out.keep hbl1⟩ (by omega) (by rw [← HLB.out]; exact hK)
      have HMUL := Lib.hid hmul
      clear hmul
      go_region_with (first
        | (go_at_call 111
           refine HMUL.out.mono ?_
           rintro e w2 ⟨v2, rfl, ⟨g2, c2, zs2, rfl, hc2, hcz2, hg2, hr2, hl2, ht2⟩, hb2⟩
           have hrow2 := hrow1.below hb2 hgz
           have hn2 : Nums .u64 w2 (some ⟨g2, 0, none⟩) (dig B64 (mb * n)) := by have := hr2.nums0 (dig B64 (mb * n)).length; rwa [ht2] at this
           have hbl2 : Below w.heap.size w w2 := below_at hbl1 (Nat.le_refl _) hb2
           have HC2 := Lib.hid hcz2
           clear hcz2 ht2 hr2)
        | (go_at_call 106
           refine (addTo_any w.heap.size i (La + Lb - i) (La + Lb - i) _ _ zs _ _ _ hrow2 hzlow (by rw [HZL.out]; omega) hn2 (dig_low64 _) (fun _ a ha => by injection ha with ha; subst ha; exact Nat.ne_of_gt (Nat.lt_of_lt_of_le hgz hg2)) rfl hpl (by omega)).mono ?_
           rintro e w3 ⟨zs', cy, rfl, hst, hr3, hg3⟩
           have hbl3 : Below w.heap.size w w3 := hbl2.grown hg3 hbl2.size (fun k hk => by injection hk with hk; omega)))
      go_wp2_with (fail)
      go_roundw
      case rel =>
        refine ⟨i + Lb, zs', by omega, by go_num, hst.len.trans HZL.out, hst.low, ?_, hr3, hbl3⟩
        have e1 : m % B64 ^ (i + Lb) = m % B64 ^ (i + j) := by
          rcases J3.out with h | h
          · have hm : m < B64 ^ La := lt_of_wlen (by rw [← HLA.out]; exact Nat.le_refl _)
            rw [h, Nat.mod_eq_of_lt hm, Nat.mod_eq_of_lt (Nat.lt_of_lt_of_le hm (Nat.pow_le_pow_right b64_pos (by omega)))]
          · rw [h]
        refine hst.whole (by rw [HZL.out]; omega) hpl ?_ ?_
        · rw [HZV.out, val_dig b64_two, e1, ← BM.out, Nat.add_mul, Nat.mul_assoc]
        · rw [HZL.out]
          exact Nat.lt_of_le_of_lt (Nat.mul_le_mul_right _ (Nat.mod_le _ _)) HLT.out
      case measure => simp [intOf]; omega
    · have hm : m < B64 ^ La := lt_of_wlen (by rw [← HLA.out]; exact Nat.le_refl _)
      have hv : val B64 zs = m * n := by rw [HZV.out, Nat.mod_eq_of_lt (Nat.lt_of_lt_of_le hm (Nat.pow_le_pow_right b64_pos (by omega)))]
      have hn := hrow.nums0 zs.length
      rw [List.take_length] at hn
      have HV := Lib.hid hv
      clear hv
      go_wp2_with (go_at_call 78
                   refine (trim_any _ (La + Lb) (La + Lb) zs _ hn hzlow HZL.out.symm (Nat.le_refl _) (by omega)).mono ?_
                   rintro e w1 ⟨rfl, rfl⟩)
      go_ret
      rw [← HV.out]
      refine ⟨_, rfl, ?_, hbl⟩
      have := own_of_trim b64_two hrow hzlow (Nat.le_refl w.heap.size)
      rw [HZL.out] at this
      exact this
end Go.Proofs.Ytaegkhdkhgemmaa

namespace Go.Proofs.Ytaegkhdkhgemmaa
open Go.RowKit Num

/-- Karatsuba's and the blocks' method, whichever multiply picks. -/
theorem big_ways {N : Nat} (HM : MulSpec (N - 1)) (A A' : Option Addr) (c c' La Lb m n : Nat) (w : World) (hA : Nums .u64 w A (dig B64 m)) (hB : Nums .u64 w A' (dig B64 n)) (hLa : La = (dig B64 m).length) (hLb : Lb = (dig B64 n).length)
    (h80 : 80 ≤ Lb) (hle : Lb ≤ La) (hc : La ≤ c) (hc' : Lb ≤ c') (hbig : La ≤ 1000000000) (hN : La ≤ N) :
    (La < 2 * Lb → Calls Try.prog 130 #[.slice A La c, .slice A' Lb c'] w (SumPost w (m * n))) ∧ (2 * Lb ≤ La → Calls Try.prog 129 #[.slice A La c, .slice A' Lb c'] w (SumPost w (m * n))) := by
  obtain ⟨ga, oa, rfl, _, _⟩ := hA (by omega)
  obtain ⟨gb, ob, rfl, _, _⟩ := hB (by omega)
  refine ⟨fun h2 => ?_, fun h2 => blocks_any HM ga oa c gb ob c' La Lb m n w hA hB hLa hLb h80 h2 hc hc' hbig (by omega)⟩
  by_cases hcb : c' = (La + 1) / 2
  · exact kara_eq HM ga oa c gb ob c' La Lb m n w hA hB hLa hLb h80 hle h2 hc hc' hbig (by omega) hcb
  · exact kara_any HM ga oa c gb ob c' La Lb m n w hA hB hLa hLb h80 hle h2 hc hc' hbig (by omega) hcb

set_option maxHeartbeats 400000 in
theorem mul_step {N : Nat} (HM : MulSpec (N - 1)) (a b : Value) (m n : Nat) (w : World) (ha : W64 w a m) (hb : W64 w b n) (hm : (dig B64 m).length ≤ N) (hn : (dig B64 n).length ≤ N) (hbig : N ≤ 1000000000)
    (h80 : 80 ≤ (dig B64 m).length) (h80' : 80 ≤ (dig B64 n).length) : Calls Try.prog 111 #[a, b] w (SumPost w (m * n)) := by
  obtain ⟨A, c, rfl, hc, hA⟩ := ha
  obtain ⟨A', c', rfl, hc', hA'⟩ := hb
  generalize hL : (dig B64 m).length = L at *
  generalize hL' : (dig B64 n).length = L' at *
  by_cases hlt : L < L'
  · have h := big_ways HM A' A c' c L' L n m w hA' hA hL'.symm hL.symm h80 (by omega) hc' hc (by omega) hn
    rw [Nat.mul_comm n m] at h
    have H := Lib.hid h
    clear h hL hL' HM hA hA'
    by_cases h2 : L' < 2 * L
    · go_enter Try.func111, Try.ntmps111
      go_wp2_with (go_at_call 130; refine (H.out.1 h2).mono ?_; rintro e w1 ⟨v, rfl, hv, hb1⟩)
      go_ret
      exact ⟨_, rfl, hv, hb1⟩
    · go_enter Try.func111, Try.ntmps111
      go_wp2_with (go_at_call 129; refine (H.out.2 (by omega)).mono ?_; rintro e w1 ⟨v, rfl, hv, hb1⟩)
      go_ret
      exact ⟨_, rfl, hv, hb1⟩
  · have h := big_ways HM A A' c c' L L' m n w hA hA' hL.symm hL'.symm h80' (by omega) hc hc' (by omega) hm
    have H := Lib.hid h
    clear h hL hL' HM hA hA'
    by_cases h2 : L < 2 * L'
    · go_enter Try.func111, Try.ntmps111
      go_wp2_with (go_at_call 130; refine (H.out.1 h2).mono ?_; rintro e w1 ⟨v, rfl, hv, hb1⟩)
      go_ret
      exact ⟨_, rfl, hv, hb1⟩
    · go_enter Try.func111, Try.ntmps111
      go_wp2_with (go_at_call 129; refine (H.out.2 (by omega)).mono ?_; rintro e w1 ⟨v, rfl, hv, hb1⟩)
      go_ret
      exact ⟨_, rfl, hv, hb1⟩

/-- multiply, whatever the factors' lengths. -/
theorem mulSpec_all : ∀ N, N ≤ 1000000000 → MulSpec N := by
  intro N
  induction N with
  | zero => exact fun _ a b m n w ha hb hm hn => mul_short a b m n w ha hb (by omega) (by omega) (.inl (by omega))
  | succ N ih =>
    intro h a b m n w ha hb hm hn
    by_cases h1 : (dig B64 m).length ≤ 79
    · exact mul_short a b m n w ha hb (by omega) (by omega) (.inl h1)
    · by_cases h2 : (dig B64 n).length ≤ 79
      · exact mul_short a b m n w ha hb (by omega) (by omega) (.inr h2)
      · exact mul_step (N := N + 1) (ih (by omega)) a b m n w ha hb hm hn h (by omega) (by omega)
theorem mulAt_all {m n : Nat} (hm : (dig B64 m).length ≤ 1000000000) (hn : (dig B64 n).length ≤ 1000000000) : MulAt m n := fun a b w ha hb => mulSpec_all _ (Nat.le_refl _) a b m n w ha hb hm hn
end Go.Proofs.Ytaegkhdkhgemmaa

namespace Go.Proofs.Ytaegkhdkhgemmaa
open Go.RowKit Num

set_option maxHeartbeats 1000000 in
set_option maxRecDepth 100000 in
theorem gcd_bad (a b : Value) (xs ys : List Nat) (w : World) (ha : Limbs w a xs) (hb : Limbs w b ys) (h0 : chk2 xs ys ≠ 0) : Calls Try.prog 58 #[a, b] w (NatErr w (chk2 xs ys)) := by
  have hc := checkAll_any w.heap.size 2 2 _ _ (nats2 ha hb) rfl (by omega)
  rw [chkAll2] at hc
  generalize chk2 xs ys = r at *
  have hbA := below_new w (.cells #[a, b] 23)
  have hq : (r != 0) = true := by simp [h0]
  have HC := Lib.hid hc
  have H0 := Lib.hid h0
  obtain ⟨A, c, rfl, _⟩ := ha
  obtain ⟨A', c', rfl, _⟩ := hb
  clear hc h0
  generalize xs.length = L at *
  generalize ys.length = L' at *
  go_enter Try.func58, Try.ntmps58
  go_wp2_with (go_at_call 75; refine HC.out.mono ?_; rintro e w1 ⟨rfl, rfl⟩)
  go_ret2
  exact ⟨rfl, hbA⟩

set_option maxHeartbeats 1000000 in
set_option maxRecDepth 100000 in
theorem lcm_bad (a b : Value) (xs ys : List Nat) (w : World) (ha : Limbs w a xs) (hb : Limbs w b ys) (h0 : chk2 xs ys ≠ 0) : Calls Try.prog 59 #[a, b] w (NatErr w (chk2 xs ys)) := by
  have hc := checkAll_any w.heap.size 2 2 _ _ (nats2 ha hb) rfl (by omega)
  rw [chkAll2] at hc
  generalize chk2 xs ys = r at *
  have hbA := below_new w (.cells #[a, b] 23)
  have hq : (r != 0) = true := by simp [h0]
  have HC := Lib.hid hc
  have H0 := Lib.hid h0
  obtain ⟨A, c, rfl, _⟩ := ha
  obtain ⟨A', c', rfl, _⟩ := hb
  clear hc h0
  generalize xs.length = L at *
  generalize ys.length = L' at *
  go_enter Try.func59, Try.ntmps59
  go_wp2_with (go_at_call 75; refine HC.out.mono ?_; rintro e w1 ⟨rfl, rfl⟩)
  go_ret2
  exact ⟨rfl, hbA⟩

theorem natOk_nil (w : World) : OwnL w.heap.size w (.slice none 0 0) 0 := by
  unfold OwnL
  rw [dig_zero]
  exact ⟨rfl, .inl ⟨rfl, rfl⟩⟩
theorem nbits_mul_le (m n : Nat) : nbits (m * n) ≤ nbits m + nbits n := by
  refine nbits_le ?_
  rw [Nat.pow_add]
  exact Nat.mul_lt_mul_of_lt_of_lt (nbits_lt m) (nbits_lt n)
theorem dig_len_pos32 {n : Nat} (h : 0 < n) : 0 < (dig B32 n).length := by
  rcases Nat.eq_zero_or_pos (dig B32 n).length with k | k
  · have := (dig_nil_iff b32_two).1 (List.eq_nil_of_length_eq_zero k); omega
  · exact k
theorem gcd_words {m n : Nat} (hm : (dig B64 m).length ≤ 10) (hn : (dig B64 n).length ≤ 10) : (dig B64 (Nat.gcd m n)).length ≤ 10 := by
  rcases Nat.eq_zero_or_pos m with h | h
  · subst h; rw [Nat.gcd_zero_left]; exact hn
  · exact Nat.le_trans (dig_len_mono (Nat.gcd_le_left n h)) hm

set_option maxHeartbeats 2000000 in
set_option maxRecDepth 100000 in
theorem gcd_ok (a b : Value) (m n : Nat) (w : World) (ha : N32 w a m) (hb : N32 w b n) (hm : (dig B32 m).length ≤ 20) (hn : (dig B32 n).length ≤ 20) : Calls Try.prog 58 #[a, b] w (NatOk w (Nat.gcd m n)) := by
  have hc := checkAll_any w.heap.size 2 2 _ _ (nats2 (Limbs.num ha (by omega)) (Limbs.num hb (by omega))) rfl (by omega)
  rw [chkAll2, chk2, if_pos (chk_dig (by omega)), chk_dig (by omega)] at hc
  have hbA := below_new w (.cells #[a, b] 23)
  have ha1 := ha.keep hbA
  have hb1 := hb.keep hbA
  have lm : (dig B64 m).length ≤ 10 := words_le (by omega)
  have ln : (dig B64 n).length ≤ 10 := words_le (by omega)
  have hf1 := fun w' (h : N32 w' a m) => fromNat_any a m w' h (by omega)
  have hf2 := fun w' (h : N32 w' b n) => fromNat_any b n w' h (by omega)
  have hgc := fun v u w' (h : W64 w' v m) (k : W64 w' u n) (sv : SomeS v) (su : SomeS u) => gcd_any v u m n w' h k sv su (by omega) (by omega)
  have lg := gcd_words lm ln
  have hnt := fun v w' (h : W64 w' v (Nat.gcd m n)) => nat_any v (Nat.gcd m n) w' h (by omega)
  have HC := Lib.hid hc
  have HA := Lib.hid ha1
  have HB := Lib.hid hb1
  have HF1 := Lib.hid hf1
  have HF2 := Lib.hid hf2
  have HG := Lib.hid hgc
  have HN := Lib.hid hnt
  obtain ⟨A, c, rfl, _⟩ := ha
  obtain ⟨A', c', rfl, _⟩ := hb
  clear hc ha1 hb1 hf1 hf2 hgc hnt lm ln lg
  generalize (dig B32 m).length = L at *
  generalize (dig B32 n).length = L' at *
  go_enter Try.func58, Try.ntmps58
  go_wp2_with (go_at_call 75; refine HC.out.mono ?_; rintro e w1 ⟨rfl, rfl⟩)
  go_wp2_with (fail)
  refine (HF1.out _ HA.out).mono ?_
  rintro e w1 ⟨v1, rfl, hv1, hb1⟩
  go_wp2_with (fail)
  refine (HF2.out _ (HB.out.keep hb1)).mono ?_
  rintro e w2 ⟨v2, rfl, hv2, hb2⟩
  go_wp2_with (fail)
  refine (HG.out _ _ _ (hv1.is.keep hb2) hv2.is hv1.some hv2.some).mono ?_
  rintro e w3 ⟨v3, rfl, hv3, hb3⟩
  go_wp2_with (fail)
  refine (HN.out _ _ hv3).mono ?_
  rintro e w4 ⟨v4, rfl, hv4, hb4⟩
  go_wp2
  go_ret2
  have b3 := below_at (below_at (below_at hbA (Nat.le_refl _) hb1) (Nat.le_refl _) hb2) (Nat.le_refl _) hb3
  exact ⟨_, rfl, hv4.mono b3.size, below_at b3 (Nat.le_refl _) hb4⟩

set_option maxHeartbeats 2000000 in
set_option maxRecDepth 100000 in
theorem lcm_zero (a b : Value) (m n : Nat) (w : World) (ha : N32 w a m) (hb : N32 w b n) (hm : (dig B32 m).length ≤ 20) (hn : (dig B32 n).length ≤ 20) (h0 : m = 0 ∨ n = 0) : Calls Try.prog 59 #[a, b] w (NatOk w 0) := by
  have hc := checkAll_any w.heap.size 2 2 _ _ (nats2 (Limbs.num ha (by omega)) (Limbs.num hb (by omega))) rfl (by omega)
  rw [chkAll2, chk2, if_pos (chk_dig (by omega)), chk_dig (by omega)] at hc
  have hbA := below_new w (.cells #[a, b] 23)
  have ha1 := ha.keep hbA
  have hb1 := hb.keep hbA
  have lm : (dig B64 m).length ≤ 10 := words_le (by omega)
  have ln : (dig B64 n).length ≤ 10 := words_le (by omega)
  have hf1 := fun w' (h : N32 w' a m) => fromNat_any a m w' h (by omega)
  have hf2 := fun w' (h : N32 w' b n) => fromNat_any b n w' h (by omega)
  have hgc := fun v u w' (h : W64 w' v m) (k : W64 w' u n) (sv : SomeS v) (su : SomeS u) => gcd_any v u m n w' h k sv su (by omega) (by omega)
  have hz : (dig B32 m).length = 0 ∨ (dig B32 n).length = 0 := by
    rcases h0 with h | h
    · left; rw [h, dig_zero]; rfl
    · right; rw [h, dig_zero]; rfl
  have HC := Lib.hid hc
  obtain ⟨A, c, rfl, _⟩ := ha
  obtain ⟨A', c', rfl, _⟩ := hb
  clear hc ha1 hb1 hf1 hf2 hgc lm ln h0
  generalize (dig B32 m).length = L at *
  generalize (dig B32 n).length = L' at *
  by_cases hL : L = 0
  · subst hL
    go_enter Try.func59, Try.ntmps59
    go_wp2_with (go_at_call 75; refine HC.out.mono ?_; rintro e w1 ⟨rfl, rfl⟩)
    go_ret2
    exact ⟨_, rfl, (natOk_nil _).mono hbA.size, hbA⟩
  · obtain rfl : L' = 0 := by omega
    have hL1 : ((L : Int) == 0) = false := by simp; omega
    go_enter Try.func59, Try.ntmps59
    go_wp2_with (go_at_call 75; refine HC.out.mono ?_; rintro e w1 ⟨rfl, rfl⟩)
    go_ret2
    exact ⟨_, rfl, (natOk_nil _).mono hbA.size, hbA⟩

set_option maxHeartbeats 2000000 in
set_option maxRecDepth 100000 in
theorem lcm_ok (a b : Value) (m n : Nat) (w : World) (ha : N32 w a m) (hb : N32 w b n) (hm : (dig B32 m).length ≤ 20) (hn : (dig B32 n).length ≤ 20) (h0 : 0 < m) (h0' : 0 < n) : Calls Try.prog 59 #[a, b] w (NatOk w (m / Nat.gcd m n * n)) := by
  have hc := checkAll_any w.heap.size 2 2 _ _ (nats2 (Limbs.num ha (by omega)) (Limbs.num hb (by omega))) rfl (by omega)
  rw [chkAll2, chk2, if_pos (chk_dig (by omega)), chk_dig (by omega)] at hc
  have hbA := below_new w (.cells #[a, b] 23)
  have ha1 := ha.keep hbA
  have hb1 := hb.keep hbA
  have lm : (dig B64 m).length ≤ 10 := words_le (by omega)
  have ln : (dig B64 n).length ≤ 10 := words_le (by omega)
  have hf1 := fun w' (h : N32 w' a m) => fromNat_any a m w' h (by omega)
  have hf2 := fun w' (h : N32 w' b n) => fromNat_any b n w' h (by omega)
  have hgc := fun v u w' (h : W64 w' v m) (k : W64 w' u n) (sv : SomeS v) (su : SomeS u) => gcd_any v u m n w' h k sv su (by omega) (by omega)
  have lg := gcd_words lm ln
  have hgp : 0 < Nat.gcd m n := Nat.gcd_pos_of_pos_left n h0
  have lq : (dig B64 (m / Nat.gcd m n)).length ≤ 10 := Nat.le_trans (dig_len_mono (Nat.div_le_self _ _)) lm
  have hdv := fun v u w' (h : W64 w' v m) (k : W64 w' u (Nat.gcd m n)) => divide_any v u m (Nat.gcd m n) w' h k hgp (by omega) (by omega) (.inl (by omega))
  have hnb : nbits (m / Nat.gcd m n * n) ≤ 8388608 := by
    have l1 := len_bits_le (n := m / Nat.gcd m n) lq
    have l2 := len_bits_le (n := n) ln
    have := nbits_mul_le (m / Nat.gcd m n) n
    omega
  have hpr := fun v u w' (h : W64 w' v (m / Nat.gcd m n)) (k : W64 w' u n) => product_at (N := 10) v u (m / Nat.gcd m n) n w' (mulAt_all (by omega) (by omega)) (by omega) h k lq ln hnb
  have hp0 := dig_len_pos32 (n := m) h0
  have hp1 := dig_len_pos32 (n := n) h0'
  have HC := Lib.hid hc
  have HA := Lib.hid ha1
  have HB := Lib.hid hb1
  have HF1 := Lib.hid hf1
  have HF2 := Lib.hid hf2
  have HG := Lib.hid hgc
  have HD := Lib.hid hdv
  have HP := Lib.hid hpr
  obtain ⟨A, c, rfl, _⟩ := ha
  obtain ⟨A', c', rfl, _⟩ := hb
  clear hc ha1 hb1 hf1 hf2 hgc hdv hpr lm ln lg lq hgp hnb h0 h0'
  generalize (dig B32 m).length = D at *
  generalize (dig B32 n).length = D' at *
  have hd0 : ((D : Int) == 0) = false := by simp; omega
  have hd1 : ((D' : Int) == 0) = false := by simp; omega
  go_enter Try.func59, Try.ntmps59
  go_wp2_with (go_at_call 75; refine HC.out.mono ?_; rintro e w1 ⟨rfl, rfl⟩)
  go_wp2_with (fail)
  refine (HF1.out _ HA.out).mono ?_
  rintro e w1 ⟨v1, rfl, hv1, hb1⟩
  go_wp2_with (fail)
  refine (HF2.out _ (HB.out.keep hb1)).mono ?_
  rintro e w2 ⟨v2, rfl, hv2, hb2⟩
  have k1 := hv1.is.keep hb2
  have k2 := hv2.is
  go_wp2_with (fail)
  refine (HG.out _ _ _ k1 k2 hv1.some hv2.some).mono ?_
  rintro e w3 ⟨v3, rfl, hv3, hb3⟩
  go_wp2_with (fail)
  refine (HD.out _ _ _ (k1.keep hb3) hv3).mono ?_
  rintro e w4 ⟨v4, u4, rfl, hv4, hu4, hb4⟩
  go_wp2_with (fail)
  refine (HP.out _ _ _ hv4 ((k2.keep hb3).keep hb4)).mono ?_
  rintro e w5 ⟨v5, rfl, hv5, hb5⟩
  go_wp2
  go_ret2
  have b4 := below_at (below_at (below_at (below_at hbA (Nat.le_refl _) hb1) (Nat.le_refl _) hb2) (Nat.le_refl _) hb3) (Nat.le_refl _) hb4
  exact ⟨_, rfl, hv5.mono b4.size, below_at b4 (Nat.le_refl _) hb5⟩

end Go.Proofs.Ytaegkhdkhgemmaa

/- Plain laws of roots: Newton's step from above. -/
namespace Go.Proofs.Num

/-- r is the integer part of the nth root of a. -/
def IsRoot (n a r : Nat) : Prop := r ^ n ≤ a ∧ a < (r + 1) ^ n

theorem pow_lt_iff {n x y : Nat} (h : x ^ n < y ^ n) : x < y := by
  rcases Nat.lt_or_ge x y with h1 | h1
  · exact h1
  · have := Nat.pow_le_pow_left h1 n; omega
theorem IsRoot.unique {n a r s : Nat} (h : IsRoot n a r) (k : IsRoot n a s) : r = s := by
  have h1 := pow_lt_iff (Nat.lt_of_le_of_lt h.1 k.2)
  have h2 := pow_lt_iff (Nat.lt_of_le_of_lt k.1 h.2)
  omega
theorem root_exists (n a : Nat) (hn : 0 < n) : ∃ r, IsRoot n a r := by
  induction a with
  | zero => exact ⟨0, by simp [IsRoot, Nat.zero_pow hn]⟩
  | succ a ih =>
    obtain ⟨r, h1, h2⟩ := ih
    by_cases h : a + 1 < (r + 1) ^ n
    · exact ⟨r, by omega, h⟩
    · refine ⟨r + 1, by omega, ?_⟩
      have : (r + 1) ^ n < (r + 1 + 1) ^ n := Nat.pow_lt_pow_left (by omega) (by omega)
      omega
/-- The root of the high part is the high part of the root. -/
theorem IsRoot.high {n a r : Nat} (h : IsRoot n a r) (l : Nat) : IsRoot n (a / 2 ^ (n * l)) (r / 2 ^ l) := by
  have hp : 0 < 2 ^ l := Nat.two_pow_pos l
  have e : 2 ^ (n * l) = (2 ^ l) ^ n := by rw [← Nat.pow_mul, Nat.mul_comm]
  have hq : 0 < (2 ^ l) ^ n := Nat.pow_pos hp
  rw [e]
  generalize 2 ^ l = P at *
  constructor
  · rw [Nat.le_div_iff_mul_le hq, ← Nat.mul_pow]
    exact Nat.le_trans (Nat.pow_le_pow_left (Nat.div_mul_le_self r P) n) h.1
  · rw [Nat.div_lt_iff_lt_mul hq, ← Nat.mul_pow]
    have h1 := Nat.lt_div_mul_add (a := r) hp
    refine Nat.lt_of_lt_of_le h.2 (Nat.pow_le_pow_left ?_ n)
    rw [Nat.add_mul, Nat.one_mul]
    omega

/-- The step does not go below the root. -/
theorem tangent {R x : Nat} (h : R ≤ x) (n : Nat) : (n + 1) * R * x ^ n ≤ R ^ (n + 1) + n * x ^ (n + 1) := by
  induction n with
  | zero => simp
  | succ n ih =>
    have h1 := Nat.mul_le_mul_right x ih
    have h2 : R ^ (n + 1) * x + R * x ^ (n + 1) ≤ R ^ (n + 1) * R + x ^ (n + 1) * x := by
      have hp : R ^ (n + 1) ≤ x ^ (n + 1) := Nat.pow_le_pow_left h _
      obtain ⟨d, rfl⟩ : ∃ d, x = R + d := ⟨x - R, by omega⟩
      generalize (R + d) ^ (n + 1) = X at *
      generalize R ^ (n + 1) = Y at *
      have := Nat.mul_le_mul_right d hp
      rw [Nat.mul_add, Nat.mul_add, Nat.mul_comm R X]
      omega
    have e1 : (n + 1) * R * x ^ n * x = (n + 1) * (R * x ^ (n + 1)) := by rw [Nat.pow_succ]; grind
    have e2 : (R ^ (n + 1) + n * x ^ (n + 1)) * x = R ^ (n + 1) * x + n * (x ^ (n + 1) * x) := by grind
    have e3 : (n + 1 + 1) * R * x ^ (n + 1) = (n + 1) * (R * x ^ (n + 1)) + R * x ^ (n + 1) := by grind
    have e4 : R ^ (n + 1 + 1) + (n + 1) * x ^ (n + 1 + 1) = R ^ (n + 1) * R + (n * (x ^ (n + 1) * x) + x ^ (n + 1) * x) := by rw [Nat.pow_succ R, Nat.pow_succ x]; grind
    rw [e1, e2] at h1
    rw [e3, e4]
    omega
theorem newton_ge {a n R x : Nat} (h : R ^ (n + 1) ≤ a) (hx : R ≤ x) (hx0 : 0 < x) : R ≤ (n * x + a / x ^ n) / (n + 1) := by
  rw [Nat.le_div_iff_mul_le (by omega)]
  have hp : 0 < x ^ n := Nat.pow_pos hx0
  have t := tangent hx n
  have e : n * x ^ (n + 1) = n * x * x ^ n := by rw [Nat.pow_succ]; grind
  rw [e] at t
  rcases Nat.lt_or_ge (n * x) (R * (n + 1)) with h1 | h1
  · obtain ⟨d, hd⟩ : ∃ d, R * (n + 1) = n * x + d := ⟨R * (n + 1) - n * x, by omega⟩
    have h2 : d ≤ a / x ^ n := by
      rw [Nat.le_div_iff_mul_le hp]
      have e2 : (n + 1) * R * x ^ n = n * x * x ^ n + d * x ^ n := by rw [Nat.mul_comm (n + 1), hd, Nat.add_mul]
      rw [e2, Nat.add_comm (R ^ (n + 1))] at t
      exact Nat.le_trans (Nat.le_of_add_le_add_left t) h
    rw [hd]
    exact Nat.add_le_add_left h2 _
  · exact Nat.le_trans h1 (Nat.le_add_right _ _)

/-- Three terms of the binomial. -/
theorem binom3 (S y m : Nat) : S ^ m * (2 * S * S + 2 * m * S * y + m * (m - 1) * y * y) ≤ 2 * S * S * (S + y) ^ m := by
  induction m with
  | zero => simp
  | succ m ih =>
    have h1 := Nat.mul_le_mul_right (S + y) ih
    have e1 : 2 * S * S * (S + y) ^ m * (S + y) = 2 * S * S * (S + y) ^ (m + 1) := by rw [Nat.pow_succ]; grind
    rw [e1] at h1
    refine Nat.le_trans ?_ h1
    have e2 : (m + 1) * (m + 1 - 1) = m * (m - 1) + 2 * m := by
      cases m with
      | zero => rfl
      | succ k => simp only [Nat.add_sub_cancel]; grind
    rw [e2]
    generalize m * (m - 1) = c at *
    rw [Nat.pow_succ, Nat.mul_assoc (S ^ m), Nat.mul_assoc (S ^ m)]
    refine Nat.mul_le_mul_left _ ?_
    have e3 : (2 * S * S + 2 * m * S * y + c * y * y) * (S + y) = S * (2 * S * S + 2 * (m + 1) * S * y + (c + 2 * m) * y * y) + c * y * y * y := by grind
    rw [e3]
    exact Nat.le_add_right _ _
theorem newton_key {S y m : Nat} (hS : 0 < S) (h : m * (y * y) ≤ 2 * S) : m * y ≤ S + m ∧ S ^ (m + 1) ≤ (S + m + 1 - m * y) * (S + y) ^ m := by
  have hmy : m * y ≤ S + m := by
    rcases Nat.lt_or_ge y 2 with h1 | h1
    · have : m * y ≤ m * 1 := Nat.mul_le_mul_left _ (by omega); omega
    · have h2 : m * (2 * y) ≤ m * (y * y) := Nat.mul_le_mul_left _ (Nat.mul_le_mul_right _ h1)
      have e : m * (2 * y) = 2 * (m * y) := by grind
      omega
  refine ⟨hmy, ?_⟩
  obtain ⟨F, hF⟩ : ∃ F, S + m + 1 = F + m * y := ⟨S + m + 1 - m * y, by omega⟩
  rw [hF, Nat.add_sub_cancel]
  have hb := binom3 S y m
  obtain ⟨A, hA⟩ : ∃ A, 2 * S * S + 2 * m * S * y + m * (m - 1) * y * y = A := ⟨_, rfl⟩
  rw [hA] at hb
  have key : 2 * S * S * S ≤ F * A := by
    cases m with
    | zero =>
      simp at hA hF
      rw [← hA, ← hF]
      have : 2 * S * S * S ≤ (S + 1) * (2 * S * S) := by rw [Nat.add_mul, Nat.mul_comm S]; omega
      omega
    | succ k =>
      simp only [Nat.add_sub_cancel] at hA
      have g1 : (k + 1) * (y * y) * ((k + 2) * S) ≤ 2 * S * ((k + 2) * S) := Nat.mul_le_mul_right _ h
      have g2 : (k + 1) * (y * y) * ((k + 1) * k * y) ≤ 2 * S * ((k + 1) * k * y) := Nat.mul_le_mul_right _ h
      have e1 : (S + (k + 1) + 1) * A = (F + (k + 1) * y) * A := by rw [hF]
      have e2 : (S + (k + 1) + 1) * A = 2 * S * S * S + (k + 1) * y * A + (2 * S * ((k + 2) * S) + 2 * (k + 1) * (k + 2) * S * y + (k + 1) * k * (k + 2) * y * y) - ((k + 1) * (y * y) * ((k + 2) * S) + (k + 1) * (y * y) * ((k + 1) * k * y)) := by
        have : (S + (k + 1) + 1) * A + ((k + 1) * (y * y) * ((k + 2) * S) + (k + 1) * (y * y) * ((k + 1) * k * y)) = 2 * S * S * S + (k + 1) * y * A + (2 * S * ((k + 2) * S) + 2 * (k + 1) * (k + 2) * S * y + (k + 1) * k * (k + 2) * y * y) := by rw [← hA]; grind
        omega
      have g3 : 2 * S * ((k + 1) * k * y) ≤ 2 * (k + 1) * (k + 2) * S * y := by
        have e : 2 * S * ((k + 1) * k * y) = 2 * (k + 1) * k * S * y := by grind
        rw [e]
        exact Nat.mul_le_mul_right _ (Nat.mul_le_mul_right _ (Nat.mul_le_mul_left _ (by omega)))
      rw [Nat.add_mul F] at e1
      omega
  have h3 : S ^ m * (2 * S * S * S) ≤ F * (2 * S * S * (S + y) ^ m) := by
    have a1 := Nat.mul_le_mul_left (S ^ m) key
    have a2 := Nat.mul_le_mul_left F hb
    have e : S ^ m * (F * A) = F * (S ^ m * A) := by grind
    omega
  have e1 : S ^ m * (2 * S * S * S) = 2 * S * S * S ^ (m + 1) := by rw [Nat.pow_succ]; grind
  have e2 : F * (2 * S * S * (S + y) ^ m) = 2 * S * S * (F * (S + y) ^ m) := by grind
  rw [e1, e2] at h3
  exact Nat.le_of_mul_le_mul_left h3 (Nat.mul_pos (Nat.mul_pos (by omega) hS) hS)
/-- The step from near above goes at most one above. -/
theorem newton_le {a n R x : Nat} (h : a < (R + 1) ^ (n + 1)) (hx : R < x) (hy : n * ((x - (R + 1)) * (x - (R + 1))) ≤ 2 * (R + 1)) : (n * x + a / x ^ n) / (n + 1) ≤ R + 1 := by
  obtain ⟨y, rfl⟩ : ∃ y, x = R + 1 + y := ⟨x - (R + 1), by omega⟩
  rw [Nat.add_sub_cancel_left] at hy
  obtain ⟨k1, k2⟩ := newton_key (S := R + 1) (by omega) hy
  generalize R + 1 = S at *
  have hp : 0 < (S + y) ^ n := Nat.pow_pos (by omega)
  have h2 : a / (S + y) ^ n < S + n + 1 - n * y := Nat.div_lt_of_lt_mul (by rw [Nat.mul_comm]; omega)
  have h3 : n * (S + y) + a / (S + y) ^ n < (S + 1) * (n + 1) := by
    rw [Nat.mul_add]
    have : (S + 1) * (n + 1) = n * S + S + n + 1 := by grind
    omega
  have := (Nat.div_lt_iff_lt_mul (show 0 < n + 1 by omega)).2 h3
  omega
end Go.Proofs.Num

namespace Go.Proofs.Ytaegkhdkhgemmaa
open Go.RowKit Num

theorem own_v (v : Nat) (h0 : 0 < v) (hv : v < B64) (w : World) : W64 (w.alloc (.cells #[.int .u64 (v : Int)] 24)) (.slice (some ⟨w.heap.size, 0, none⟩) 1 1) v := by
  have hr := row_one w v
  have hlow : Low B64 [v] := Low.cons hv (Low.nil _)
  have := (own_of_trim b64_two hr hlow (Nat.le_refl w.heap.size)).is
  have hval : val B64 [v] = v := by simp [val]
  have hd : dig B64 v = [v] := dig1 b64_two (by omega) hv
  rw [hval, hd] at this
  exact this
/-- The numbers of a root that is not found at once. -/
theorem root_numbers {n m r : Nat} (h : IsRoot n m r) (hn : 0 < n) (hs : n < nbits m) : ∃ D, (nbits m - 1) / n + 1 = D ∧ 2 ^ (D - 1) ≤ r ∧ r < 2 ^ D ∧ n * (D - 1) ≤ nbits m - 1 ∧ 2 ≤ D ∧ D ≤ nbits m := by
  have hm0 : m ≠ 0 := fun h0 => by rw [h0] at hs; simp [nbits] at hs
  have h1 := nbits_ge hm0
  have h2 := nbits_lt m
  have hd := Nat.div_add_mod (nbits m - 1) n
  have hr := Nat.mod_lt (nbits m - 1) hn
  have hge : 1 ≤ (nbits m - 1) / n := (Nat.le_div_iff_mul_le hn).2 (by omega)
  have hle := Nat.div_le_self (nbits m - 1) n
  refine ⟨_, rfl, ?_, ?_, ?_, by omega, by omega⟩
  all_goals generalize (nbits m - 1) / n = q at *
  · have : 2 ^ q < r + 1 := by
      refine pow_lt_iff (n := n) (Nat.lt_of_le_of_lt ?_ h.2)
      rw [← Nat.pow_mul, Nat.mul_comm]
      exact Nat.le_trans (Nat.pow_le_pow_right (by omega) (by omega)) h1
    rw [Nat.add_sub_cancel]; omega
  · refine pow_lt_iff (n := n) (Nat.lt_of_le_of_lt h.1 (Nat.lt_of_lt_of_le h2 ?_))
    rw [← Nat.pow_mul, Nat.mul_comm]
    refine Nat.pow_le_pow_right (by omega) ?_
    rw [Nat.mul_add]; omega
  · rw [Nat.add_sub_cancel]; omega
theorem pow_len {n m r : Nat} (h : r ^ n ≤ m) (h0 : 0 < r) (hn : n ≤ nbits m) (hb : nbits m ≤ 8000) : ∀ y, y ≤ 2 * r → ∀ j, j ≤ n → (dig B64 (y ^ j)).length ≤ 251 := by
  intro y hy j hj
  refine dig_len_le b64_two ?_
  have h1 : y ^ j ≤ (2 * r) ^ n := Nat.le_trans (Nat.pow_le_pow_left hy j) (Nat.pow_le_pow_right (by omega) hj)
  rw [Nat.mul_pow] at h1
  have h2 := Nat.mul_le_mul_left (2 ^ n) h
  have h3 : 2 ^ n * m < 2 ^ n * 2 ^ nbits m := Nat.mul_lt_mul_of_pos_left (nbits_lt m) (Nat.two_pow_pos n)
  rw [← Nat.pow_add] at h3
  have h4 : ∀ K, n + nbits m ≤ 64 * K → y ^ j < B64 ^ K := fun K hK => by
    rw [← pow_b64]
    exact Nat.lt_of_le_of_lt (Nat.le_trans h1 h2) (Nat.lt_of_lt_of_le h3 (Nat.pow_le_pow_right (by omega) hK))
  exact h4 251 (by omega)
theorem newton_y {D L low n r : Nat} (hn : n + 1 < 2 ^ L) (hl : 2 * low + L ≤ D) (hr : 2 ^ (D - 1) ≤ r) (hD : 1 ≤ D) (X : Nat) (hX : X = (r / 2 ^ low + 1) * 2 ^ low) : r < X ∧ X ≤ r + 2 ^ low ∧ n * ((X - (r + 1)) * (X - (r + 1))) ≤ 2 * (r + 1) := by
  have hp := Nat.two_pow_pos low
  have h1 := Nat.lt_div_mul_add (a := r) hp
  have h2 := Nat.div_mul_le_self r (2 ^ low)
  rw [Nat.add_mul, Nat.one_mul] at hX
  refine ⟨by omega, by omega, ?_⟩
  have h3 : X - (r + 1) ≤ 2 ^ low := by omega
  have h4 : n * ((X - (r + 1)) * (X - (r + 1))) ≤ 2 ^ L * (2 ^ low * 2 ^ low) := Nat.mul_le_mul (by omega) (Nat.mul_le_mul h3 h3)
  rw [← Nat.pow_add, ← Nat.pow_add] at h4
  have h5 : 2 ^ (L + (low + low)) ≤ 2 ^ D := Nat.pow_le_pow_right (by omega) (by omega)
  have h6 : 2 ^ D = 2 * 2 ^ (D - 1) := by rw [← Nat.pow_succ']; congr 1; omega
  omega

set_option maxHeartbeats 2000000 in
set_option maxRecDepth 100000 in
theorem newton_any (a x : Value) (m n k X : Nat) (w : World) (ha : W64 w a m) (hx : W64 w x X) (hk : n = k + 1) (hk0 : 0 < k) (hn : n ≤ 10000) (hX : 0 < X) (hm : (dig B64 m).length ≤ 190) (hp : ∀ j, j ≤ k → (dig B64 (X ^ j)).length ≤ 300) (hp1 : (dig B64 X).length ≤ 300) :
    Calls Try.prog 117 #[a, .int .i64 (n : Int), x] w (NumPost w ((k * X + m / X ^ k) / n)) := by
  have e1 : (n : Int) - 1 = (k : Int) := by omega
  have e2 : IntKind.u64.wrap (k : Int) = (k : Int) := by rw [IntKind.wrap_u64]; omega
  have e3 : IntKind.u64.wrap (n : Int) = (n : Int) := by rw [IntKind.wrap_u64]; omega
  have hpw := fun w' (h : W64 w' x X) => power_any (mulSpec_all 300 (by omega)) x X k w' h (by omega) hp1 hp
  have hXk : 0 < X ^ k := Nat.pow_pos hX
  have hdv := fun v w' (h : W64 w' a m) (l : W64 w' v (X ^ k)) => divide_any a v m _ w' h l hXk (by have := hp k (Nat.le_refl _); omega) (by omega) (.inr (by omega))
  have hok := fun w' => own_v k hk0 (by unfold B64; omega) w'
  have hkl : (dig B64 k).length ≤ 1 := small64 (by unfold B64; omega)
  have hmu := fun v w' (h : W64 w' x X) (l : W64 w' v k) => mulAt_all (m := X) (n := k) (by omega) (by omega) x v w' h l
  have hxl : (dig B64 (X * k)).length ≤ 301 := by
    have g : ∀ K, (dig B64 X).length ≤ K → (dig B64 (X * k)).length ≤ K + 1 := fun K hK => by
      refine dig_len_le b64_two ?_
      have h1 := Nat.lt_of_lt_of_le (dig_len_lt b64_two (n := X)) (Nat.pow_le_pow_right b64_pos hK)
      rw [Nat.pow_succ]
      exact Nat.mul_lt_mul_of_lt_of_lt h1 (by unfold B64; omega)
    exact g 300 hp1
  have hql : (dig B64 (m / X ^ k)).length ≤ 190 := Nat.le_trans (lenm (Nat.div_le_self _ _)) hm
  have hsu := fun u v w' (h : W64 w' u (X * k)) (l : W64 w' v (m / X ^ k)) => sum_any u v _ _ w' h l (by omega) (by omega)
  have g2 : ∀ K, (dig B64 (X * k)).length ≤ K → (dig B64 (m / X ^ k)).length ≤ K → (dig B64 (X * k + m / X ^ k)).length ≤ K + 1 := fun K h1 h2 =>
    dig_len_le b64_two (two_pow_lt b64_two (Nat.lt_of_lt_of_le (dig_len_lt b64_two) (Nat.pow_le_pow_right b64_pos h1)) (Nat.lt_of_lt_of_le (dig_len_lt b64_two) (Nat.pow_le_pow_right b64_pos h2)))
  have hsl := g2 301 hxl (by omega)
  clear g2
  have hdw := fun u w' (h : W64 w' u (X * k + m / X ^ k)) => divideWord_call u _ n w' h (by omega) (by omega) (by unfold B64; omega)
  rw [Nat.mul_comm k X]
  generalize X * k + m / X ^ k = S at *
  generalize m / X ^ k = Q at *
  generalize X ^ k = P at *
  generalize X * k = M at *
  have HPW := Lib.hid hpw
  have HDV := Lib.hid hdv
  have HOK := Lib.hid hok
  have HMU := Lib.hid hmu
  have HSU := Lib.hid hsu
  have HDW := Lib.hid hdw
  clear hpw hdv hok hmu hsu hdw
  have HA := Lib.hid ha
  have HX := Lib.hid hx
  clear hp hp1 hkl hxl hql hsl hXk hm ha hx hk hX
  go_enter Try.func117, Try.ntmps117
  go_wp2_with (fail)
  refine (HPW.out _ HX.out).mono ?_
  rintro e w1 ⟨v1, rfl, hv1, hb1⟩
  have b1 := below_at (Below.refl _ _) (Nat.le_refl _) hb1
  have ka_1 := HA.out.keep hb1
  have kx_1 := HX.out.keep hb1
  have k1_1 := hv1.is
  go_wp2_with (fail)
  refine (HDV.out _ _ ka_1 k1_1).mono ?_
  rintro e w2 ⟨q, r, rfl, hq, _, hb2⟩
  have b2 := below_at b1 (Nat.le_refl _) hb2
  have kx_2 := kx_1.keep hb2
  have kq_2 := hq
  go_wp2_with (fail)
  refine (HMU.out _ _ (kx_2.keep (below_new _ (.cells #[.int .u64 (k : Int)] 24))) (HOK.out _)).mono ?_
  rintro e w3 ⟨v3, rfl, hv3, hb3⟩
  have b3 := below_at (b2.alloc b2.size _) (Nat.le_refl _) hb3
  have kq_3 := (kq_2.keep (below_new _ (.cells #[.int .u64 (k : Int)] 24))).keep hb3
  have k3_3 := hv3.is
  go_wp2_with (fail)
  refine (HSU.out _ _ _ k3_3 kq_3).mono ?_
  rintro e w4 ⟨v4, rfl, hv4, hb4⟩
  have b4 := below_at b3 (Nat.le_refl _) hb4
  have k4_4 := hv4.is
  go_wp2_with (fail)
  refine (HDW.out _ _ k4_4).mono ?_
  rintro e w5 ⟨v5, rfl, hv5, hb5⟩
  have b5 := below_at b4 (Nat.le_refl _) hb5
  have k4_5 := k4_4.keep hb5
  go_wp2
  go_ret
  exact ⟨_, rfl, hv5.is, b5⟩

set_option maxHeartbeats 1200000 in
set_option maxRecDepth 100000 in
theorem root_a0 (N : Nat) (IH : ∀ m, m < N → ∀ (n r : Nat) (a : Value) (w : World), W64 w a m → 0 < m → 0 < n → nbits m ≤ 8000 → IsRoot n m r → Calls Try.prog 97 #[a, .int .i64 (n : Int)] w (NumPost w r)) (m n r D L low : Nat) (a : Value) (w : World) (hmN : m ≤ N) (ha : W64 w a m) (hr : IsRoot n m r) (hn2 : 2 ≤ n) (hns : n < nbits m) (hb : nbits m ≤ 8000) (hD : (nbits m - 1) / n + 1 = D) (hr1 : 2 ^ (D - 1) ≤ r) (hnD : n * (D - 1) ≤ nbits m - 1) (hD2 : 2 ≤ D) (hDs : D ≤ nbits m) (hL : nbits n = L) (hl : 2 * low + L ≤ D) (hl2 : D ≤ 2 * low + L + 1) (hl1 : 1 ≤ low) (hz : ((n - 1) * ((r / 2 ^ low + 1) * 2 ^ low) + m / ((r / 2 ^ low + 1) * 2 ^ low) ^ (n - 1)) / n = r) :
    Calls Try.prog 97 #[a, .int .i64 (n : Int)] w (NumPost w r) := by
  have hm0 : 0 < m := by
    rcases Nat.eq_zero_or_pos m with h | h
    · rw [h] at hns; simp [nbits] at hns
    · exact h
  have hr0 : 0 < r := Nat.lt_of_lt_of_le (Nat.two_pow_pos _) hr1
  have hpl := pow_len hr.1 hr0 (Nat.le_of_lt hns) hb
  have hbm := nbits_ge (Nat.pos_iff_ne_zero.1 hm0)
  have hwl : (dig B64 m).length ≤ 125 := len_of_bits (by omega)
  have hLn : n < 2 ^ L := by rw [← hL]; exact nbits_lt n
  have hL64 : L ≤ 13 := by rw [← hL]; exact nbits_le (by omega)
  have hbits := fun w' (h : W64 w' a m) => bits_call a m w' h (by omega)
  have hlen := fun w' => len_nat n w' (by unfold B64; omega)
  rw [hL] at hlen
  have hwn : IntKind.u64.wrap (n : Int) = (n : Int) := by rw [IntKind.wrap_u64]; omega
  have hdd : ((nbits m : Nat) : Int) - 1 = ((nbits m - 1 : Nat) : Int) := by omega
  have hdq : ((nbits m - 1 : Nat) : Int) / (n : Int) = (((nbits m - 1) / n : Nat) : Int) := (Int.natCast_ediv _ _).symm
  have hn0 : ((n : Int) == 0) = false := by simp; omega
  have hn1 : ((n : Int) == 1) = false := by simp; omega
  have hrl : (dig B64 r).length ≤ 251 := by have := hpl r (by omega) 1 (by omega); rwa [Nat.pow_one] at this
  have hown := fun w' => own_v 1 (by omega) (by unfold B64; omega) w'
  have h1l : (dig B64 1).length ≤ 1 := small64 (by unfold B64; omega)
  obtain ⟨X, hX⟩ : ∃ X, (r / 2 ^ low + 1) * 2 ^ low = X := ⟨_, rfl⟩
  have hlr : 2 ^ low ≤ r := Nat.le_trans (Nat.pow_le_pow_right (by omega) (by omega)) hr1
  have hy := newton_y (n := n - 1) (by omega) hl hr1 (by omega) X hX.symm
  have hl0 : low < D := by omega
  obtain ⟨nl, hnl⟩ : ∃ nl, n * low = nl := ⟨_, rfl⟩
  have hnl1 : nl ≤ nbits m - 1 := by rw [← hnl]; exact Nat.le_trans (Nat.mul_le_mul_left n (by omega)) hnD
  have hnl2 : 1 ≤ nl := by rw [← hnl]; exact Nat.mul_pos (by omega) hl1
  have hnlI : (n : Int) * (low : Int) = (nl : Int) := by rw [← hnl]; exact (Int.natCast_mul n low).symm
  have hhigh := hr.high low
  rw [hnl] at hhigh
  have hm1 : 0 < m / 2 ^ nl := Nat.div_pos (Nat.le_trans (Nat.pow_le_pow_right (by omega) hnl1) hbm) (Nat.two_pow_pos _)
  have hm2 : m / 2 ^ nl < N := Nat.lt_of_lt_of_le (Nat.div_lt_self hm0 (Nat.one_lt_two_pow (by omega))) hmN
  have hb1 : nbits (m / 2 ^ nl) ≤ 8000 := Nat.le_trans (nbits_le (Nat.lt_of_le_of_lt (Nat.div_le_self _ _) (nbits_lt m))) hb
  have hsr := fun w' (h : W64 w' a m) => shiftRight_any a m nl w' h (by omega) (by omega)
  have hrt := fun v w' (h : W64 w' v (m / 2 ^ nl)) => IH _ hm2 n _ v w' h hm1 (by omega) hb1 hhigh
  have hrr : (dig B64 (r / 2 ^ low)).length ≤ 251 := Nat.le_trans (lenm (Nat.div_le_self _ _)) hrl
  have hs1 := fun u v w' (h : W64 w' u (r / 2 ^ low)) (l : W64 w' v 1) => sum_any u v _ 1 w' h l (by omega) (by omega)
  have hXl : (dig B64 X).length ≤ 251 := by have := hpl X (by omega) 1 (by omega); rwa [Nat.pow_one] at this
  have hpp : r / 2 ^ low + 1 ≤ X := by rw [← hX]; exact Nat.le_mul_of_pos_right _ (Nat.two_pow_pos low)
  have hal : (dig B64 (r / 2 ^ low + 1)).length ≤ 251 := Nat.le_trans (lenm hpp) hXl
  have hsl := fun v w' (h : W64 w' v (r / 2 ^ low + 1)) => shiftLeft_any v _ low w' h (by omega) (by omega)
  rw [hX] at hsl hz
  have hnw := fun v w' (h : W64 w' a m) (l : W64 w' v X) => newton_any a v m n (n - 1) X w' h l (by omega) (by omega) (by omega) (by omega) (by omega) (fun j hj => Nat.le_trans (hpl X (by omega) j (by omega)) (by omega)) (by omega)
  rw [hz] at hnw
  have hlq : (D : Int) - (L : Int) = ((D - L : Nat) : Int) := by omega
  have hl5 : ((D - L : Nat) : Int) / 2 = (low : Int) := by omega
  have hl6 : ((D - L : Nat) : Int).tdiv 2 = (low : Int) := by rw [Int.tdiv_eq_ediv_of_nonneg (by omega)]; exact hl5
  have hpw := fun v w' (h : W64 w' v (r)) => power_any (mulSpec_all 251 (by omega)) v (r) n w' h (by omega) (by have := hpl (r) (by omega) 1 (by omega); rwa [Nat.pow_one] at this) (fun j hj => hpl (r) (by omega) j hj)
  have hzl := hpl (r) (by omega) n (Nat.le_refl _)
  have hcm := fun v w' (h : W64 w' v ((r) ^ n)) (k : W64 w' a m) => cmp64_call v a _ m w' h k (by omega) (by omega)
  have hcc : cmpN (r ^ n) m ≤ 0 := by
    rcases Nat.lt_or_ge (r ^ n) m with h | h
    · rw [cmpN_lt h]; omega
    · rw [show r ^ n = m from Nat.le_antisymm hr.1 h, cmpN_eq]; omega
  generalize cmpN (r ^ n) m = cc at *
  have HBITS := Lib.hid hbits
  have HLEN := Lib.hid hlen
  have HOWN := Lib.hid hown
  have HSR := Lib.hid hsr
  have HRT := Lib.hid hrt
  have HS1 := Lib.hid hs1
  have HSL := Lib.hid hsl
  have HNW := Lib.hid hnw
  have HPW := Lib.hid hpw
  have HCM := Lib.hid hcm
  clear hbits hlen hown hsr hrt hs1 hsl hnw hpw hcm
  have HA := Lib.hid ha
  obtain ⟨sz, hsz⟩ : ∃ sz, nbits m = sz := ⟨_, rfl⟩
  obtain ⟨A, c, rfl, _⟩ := ha
  rw [hsz] at HBITS hdd hdq hD hns hDs hb hnD hnl1
  obtain ⟨sm, hsm⟩ : ∃ sm, sz - 1 = sm := ⟨_, rfl⟩
  rw [hsm] at hdd hdq hD hnl1
  obtain ⟨q, hq⟩ : ∃ q, sm / n = q := ⟨_, rfl⟩
  rw [hq] at hdq hD
  have hD' : (q : Int) + 1 = (D : Int) := by omega
  have hqt : (sm : Int).tdiv (n : Int) = (q : Int) := by rw [Int.tdiv_eq_ediv_of_nonneg (by omega)]; exact hdq
  have hns' : ¬ sz ≤ n := by omega
  clear hsz hsm hq hD hr hr1 hnD hL hpl hbm hLn hrl h1l hz hzl hal hrr hb1 hm1 hm2 hhigh IH hwl hmN hr0 hm0 hX hlr hy hl0 hnl hXl hpp
  generalize (dig B64 m).length = LL at *
  obtain ⟨x, hx⟩ : ∃ x, D - L = x := ⟨_, rfl⟩
  rw [hx] at hlq hl5 hl6
  clear hx
  go_enter Try.func97, Try.ntmps97
  go_wp2_with (fail)
  refine (HBITS.out _ HA.out).mono ?_
  rintro e w1 ⟨rfl, rfl⟩
  go_wp2_with (fail)
  refine (HLEN.out _).mono ?_
  rintro e w2 ⟨rfl, rfl⟩
  go_wp2_with (fail)
  refine (HSR.out _ HA.out).mono ?_
  rintro e w3 ⟨v3, rfl, hv3, hb3⟩
  have b3 := below_at (Below.refl _ _) (Nat.le_refl _) hb3
  have ka_3 := HA.out.keep hb3
  have k3_3 := hv3
  go_wp2_with (fail)
  refine (HRT.out _ _ k3_3).mono ?_
  rintro e w4 ⟨v4, rfl, hv4, hb4⟩
  have b4 := below_at b3 (Nat.le_refl _) hb4
  have ka_4 := ka_3.keep hb4
  have k4_4 := hv4
  go_wp2_with (fail)
  refine (HS1.out _ _ _ (k4_4.keep (below_new _ (.cells #[.int .u64 1] 24))) (HOWN.out _)).mono ?_
  rintro e w5 ⟨v5, rfl, hv5, hb5⟩
  have b5 := below_at (Below.alloc b4 b4.size _) (Nat.le_refl _) hb5
  have ka_5 := (ka_4.keep (below_new _ (.cells #[.int .u64 1] 24))).keep hb5
  have k5_5 := hv5.is
  go_wp2_with (fail)
  refine (HSL.out _ _ k5_5).mono ?_
  rintro e w6 ⟨v6, rfl, hv6, hb6⟩
  have b6 := below_at b5 (Nat.le_refl _) hb6
  have ka_6 := ka_5.keep hb6
  have k6_6 := hv6.is
  go_wp2_with (fail)
  refine (HNW.out _ _ ka_6 k6_6).mono ?_
  rintro e w7 ⟨v7, rfl, hv7, hb7⟩
  have b7 := below_at b6 (Nat.le_refl _) hb7
  have ka_7 := ka_6.keep hb7
  have kz_7 := hv7
  go_wp2_with (fail)
  refine (HPW.out _ _ kz_7).mono ?_
  rintro e w8 ⟨v8, rfl, hv8, hb8⟩
  have b8 := below_at b7 (Nat.le_refl _) hb8
  have ka_8 := ka_7.keep hb8
  have kz_8 := kz_7.keep hb8
  have k8_8 := hv8.is
  go_wp2_with (fail)
  refine (HCM.out _ _ k8_8 ka_8).mono ?_
  rintro e w9 ⟨rfl, hb9⟩
  have b9 := below_at b8 (Nat.le_refl _) hb9
  have kz_9 := kz_8.keep hb9
  go_wp2
  go_ret
  exact ⟨_, rfl, kz_9, b9⟩

set_option maxHeartbeats 1200000 in
set_option maxRecDepth 100000 in
theorem root_a1 (N : Nat) (IH : ∀ m, m < N → ∀ (n r : Nat) (a : Value) (w : World), W64 w a m → 0 < m → 0 < n → nbits m ≤ 8000 → IsRoot n m r → Calls Try.prog 97 #[a, .int .i64 (n : Int)] w (NumPost w r)) (m n r D L low : Nat) (a : Value) (w : World) (hmN : m ≤ N) (ha : W64 w a m) (hr : IsRoot n m r) (hn2 : 2 ≤ n) (hns : n < nbits m) (hb : nbits m ≤ 8000) (hD : (nbits m - 1) / n + 1 = D) (hr1 : 2 ^ (D - 1) ≤ r) (hnD : n * (D - 1) ≤ nbits m - 1) (hD2 : 2 ≤ D) (hDs : D ≤ nbits m) (hL : nbits n = L) (hl : 2 * low + L ≤ D) (hl2 : D ≤ 2 * low + L + 1) (hl1 : 1 ≤ low) (hz : ((n - 1) * ((r / 2 ^ low + 1) * 2 ^ low) + m / ((r / 2 ^ low + 1) * 2 ^ low) ^ (n - 1)) / n = r + 1) :
    Calls Try.prog 97 #[a, .int .i64 (n : Int)] w (NumPost w r) := by
  have hm0 : 0 < m := by
    rcases Nat.eq_zero_or_pos m with h | h
    · rw [h] at hns; simp [nbits] at hns
    · exact h
  have hr0 : 0 < r := Nat.lt_of_lt_of_le (Nat.two_pow_pos _) hr1
  have hpl := pow_len hr.1 hr0 (Nat.le_of_lt hns) hb
  have hbm := nbits_ge (Nat.pos_iff_ne_zero.1 hm0)
  have hwl : (dig B64 m).length ≤ 125 := len_of_bits (by omega)
  have hLn : n < 2 ^ L := by rw [← hL]; exact nbits_lt n
  have hL64 : L ≤ 13 := by rw [← hL]; exact nbits_le (by omega)
  have hbits := fun w' (h : W64 w' a m) => bits_call a m w' h (by omega)
  have hlen := fun w' => len_nat n w' (by unfold B64; omega)
  rw [hL] at hlen
  have hwn : IntKind.u64.wrap (n : Int) = (n : Int) := by rw [IntKind.wrap_u64]; omega
  have hdd : ((nbits m : Nat) : Int) - 1 = ((nbits m - 1 : Nat) : Int) := by omega
  have hdq : ((nbits m - 1 : Nat) : Int) / (n : Int) = (((nbits m - 1) / n : Nat) : Int) := (Int.natCast_ediv _ _).symm
  have hn0 : ((n : Int) == 0) = false := by simp; omega
  have hn1 : ((n : Int) == 1) = false := by simp; omega
  have hrl : (dig B64 r).length ≤ 251 := by have := hpl r (by omega) 1 (by omega); rwa [Nat.pow_one] at this
  have hown := fun w' => own_v 1 (by omega) (by unfold B64; omega) w'
  have h1l : (dig B64 1).length ≤ 1 := small64 (by unfold B64; omega)
  obtain ⟨X, hX⟩ : ∃ X, (r / 2 ^ low + 1) * 2 ^ low = X := ⟨_, rfl⟩
  have hlr : 2 ^ low ≤ r := Nat.le_trans (Nat.pow_le_pow_right (by omega) (by omega)) hr1
  have hy := newton_y (n := n - 1) (by omega) hl hr1 (by omega) X hX.symm
  have hl0 : low < D := by omega
  obtain ⟨nl, hnl⟩ : ∃ nl, n * low = nl := ⟨_, rfl⟩
  have hnl1 : nl ≤ nbits m - 1 := by rw [← hnl]; exact Nat.le_trans (Nat.mul_le_mul_left n (by omega)) hnD
  have hnl2 : 1 ≤ nl := by rw [← hnl]; exact Nat.mul_pos (by omega) hl1
  have hnlI : (n : Int) * (low : Int) = (nl : Int) := by rw [← hnl]; exact (Int.natCast_mul n low).symm
  have hhigh := hr.high low
  rw [hnl] at hhigh
  have hm1 : 0 < m / 2 ^ nl := Nat.div_pos (Nat.le_trans (Nat.pow_le_pow_right (by omega) hnl1) hbm) (Nat.two_pow_pos _)
  have hm2 : m / 2 ^ nl < N := Nat.lt_of_lt_of_le (Nat.div_lt_self hm0 (Nat.one_lt_two_pow (by omega))) hmN
  have hb1 : nbits (m / 2 ^ nl) ≤ 8000 := Nat.le_trans (nbits_le (Nat.lt_of_le_of_lt (Nat.div_le_self _ _) (nbits_lt m))) hb
  have hsr := fun w' (h : W64 w' a m) => shiftRight_any a m nl w' h (by omega) (by omega)
  have hrt := fun v w' (h : W64 w' v (m / 2 ^ nl)) => IH _ hm2 n _ v w' h hm1 (by omega) hb1 hhigh
  have hrr : (dig B64 (r / 2 ^ low)).length ≤ 251 := Nat.le_trans (lenm (Nat.div_le_self _ _)) hrl
  have hs1 := fun u v w' (h : W64 w' u (r / 2 ^ low)) (l : W64 w' v 1) => sum_any u v _ 1 w' h l (by omega) (by omega)
  have hXl : (dig B64 X).length ≤ 251 := by have := hpl X (by omega) 1 (by omega); rwa [Nat.pow_one] at this
  have hpp : r / 2 ^ low + 1 ≤ X := by rw [← hX]; exact Nat.le_mul_of_pos_right _ (Nat.two_pow_pos low)
  have hal : (dig B64 (r / 2 ^ low + 1)).length ≤ 251 := Nat.le_trans (lenm hpp) hXl
  have hsl := fun v w' (h : W64 w' v (r / 2 ^ low + 1)) => shiftLeft_any v _ low w' h (by omega) (by omega)
  rw [hX] at hsl hz
  have hnw := fun v w' (h : W64 w' a m) (l : W64 w' v X) => newton_any a v m n (n - 1) X w' h l (by omega) (by omega) (by omega) (by omega) (by omega) (fun j hj => Nat.le_trans (hpl X (by omega) j (by omega)) (by omega)) (by omega)
  rw [hz] at hnw
  have hlq : (D : Int) - (L : Int) = ((D - L : Nat) : Int) := by omega
  have hl5 : ((D - L : Nat) : Int) / 2 = (low : Int) := by omega
  have hl6 : ((D - L : Nat) : Int).tdiv 2 = (low : Int) := by rw [Int.tdiv_eq_ediv_of_nonneg (by omega)]; exact hl5
  have hpw := fun v w' (h : W64 w' v (r + 1)) => power_any (mulSpec_all 251 (by omega)) v (r + 1) n w' h (by omega) (by have := hpl (r + 1) (by omega) 1 (by omega); rwa [Nat.pow_one] at this) (fun j hj => hpl (r + 1) (by omega) j hj)
  have hzl := hpl (r + 1) (by omega) n (Nat.le_refl _)
  have hcm := fun v w' (h : W64 w' v ((r + 1) ^ n)) (k : W64 w' a m) => cmp64_call v a _ m w' h k (by omega) (by omega)
  have hcc : cmpN ((r + 1) ^ n) m = 1 := cmpN_gt hr.2
  rw [hcc] at hcm
  have hdf := fun u v w' (h : W64 w' u (r + 1)) (k : W64 w' v 1) => diff_any u v (r + 1) 1 w' h k (by have := hpl (r + 1) (by omega) 1 (by omega); rw [Nat.pow_one] at this; omega) (by omega)
  rw [Nat.add_sub_cancel] at hdf
  have HBITS := Lib.hid hbits
  have HLEN := Lib.hid hlen
  have HOWN := Lib.hid hown
  have HSR := Lib.hid hsr
  have HRT := Lib.hid hrt
  have HS1 := Lib.hid hs1
  have HSL := Lib.hid hsl
  have HNW := Lib.hid hnw
  have HPW := Lib.hid hpw
  have HCM := Lib.hid hcm
  have HDF := Lib.hid hdf
  clear hbits hlen hown hsr hrt hs1 hsl hnw hpw hcm hdf
  have HA := Lib.hid ha
  obtain ⟨sz, hsz⟩ : ∃ sz, nbits m = sz := ⟨_, rfl⟩
  obtain ⟨A, c, rfl, _⟩ := ha
  rw [hsz] at HBITS hdd hdq hD hns hDs hb hnD hnl1
  obtain ⟨sm, hsm⟩ : ∃ sm, sz - 1 = sm := ⟨_, rfl⟩
  rw [hsm] at hdd hdq hD hnl1
  obtain ⟨q, hq⟩ : ∃ q, sm / n = q := ⟨_, rfl⟩
  rw [hq] at hdq hD
  have hD' : (q : Int) + 1 = (D : Int) := by omega
  have hqt : (sm : Int).tdiv (n : Int) = (q : Int) := by rw [Int.tdiv_eq_ediv_of_nonneg (by omega)]; exact hdq
  have hns' : ¬ sz ≤ n := by omega
  clear hsz hsm hq hD hr hr1 hnD hL hpl hbm hLn hrl h1l hz hzl hal hrr hb1 hm1 hm2 hhigh IH hwl hmN hr0 hm0 hX hlr hy hl0 hnl hXl hpp hcc
  generalize (dig B64 m).length = LL at *
  obtain ⟨x, hx⟩ : ∃ x, D - L = x := ⟨_, rfl⟩
  rw [hx] at hlq hl5 hl6
  clear hx
  go_enter Try.func97, Try.ntmps97
  go_wp2_with (fail)
  refine (HBITS.out _ HA.out).mono ?_
  rintro e w1 ⟨rfl, rfl⟩
  go_wp2_with (fail)
  refine (HLEN.out _).mono ?_
  rintro e w2 ⟨rfl, rfl⟩
  go_wp2_with (fail)
  refine (HSR.out _ HA.out).mono ?_
  rintro e w3 ⟨v3, rfl, hv3, hb3⟩
  have b3 := below_at (Below.refl _ _) (Nat.le_refl _) hb3
  have ka_3 := HA.out.keep hb3
  have k3_3 := hv3
  go_wp2_with (fail)
  refine (HRT.out _ _ k3_3).mono ?_
  rintro e w4 ⟨v4, rfl, hv4, hb4⟩
  have b4 := below_at b3 (Nat.le_refl _) hb4
  have ka_4 := ka_3.keep hb4
  have k4_4 := hv4
  go_wp2_with (fail)
  refine (HS1.out _ _ _ (k4_4.keep (below_new _ (.cells #[.int .u64 1] 24))) (HOWN.out _)).mono ?_
  rintro e w5 ⟨v5, rfl, hv5, hb5⟩
  have b5 := below_at (Below.alloc b4 b4.size _) (Nat.le_refl _) hb5
  have ka_5 := (ka_4.keep (below_new _ (.cells #[.int .u64 1] 24))).keep hb5
  have k5_5 := hv5.is
  go_wp2_with (fail)
  refine (HSL.out _ _ k5_5).mono ?_
  rintro e w6 ⟨v6, rfl, hv6, hb6⟩
  have b6 := below_at b5 (Nat.le_refl _) hb6
  have ka_6 := ka_5.keep hb6
  have k6_6 := hv6.is
  go_wp2_with (fail)
  refine (HNW.out _ _ ka_6 k6_6).mono ?_
  rintro e w7 ⟨v7, rfl, hv7, hb7⟩
  have b7 := below_at b6 (Nat.le_refl _) hb7
  have ka_7 := ka_6.keep hb7
  have kz_7 := hv7
  go_wp2_with (fail)
  refine (HPW.out _ _ kz_7).mono ?_
  rintro e w8 ⟨v8, rfl, hv8, hb8⟩
  have b8 := below_at b7 (Nat.le_refl _) hb8
  have ka_8 := ka_7.keep hb8
  have kz_8 := kz_7.keep hb8
  have k8_8 := hv8.is
  go_wp2_with (fail)
  refine (HCM.out _ _ k8_8 ka_8).mono ?_
  rintro e w9 ⟨rfl, hb9⟩
  have b9 := below_at b8 (Nat.le_refl _) hb9
  have kz_9 := kz_8.keep hb9
  go_wp2_with (fail)
  refine (HDF.out _ _ _ (kz_9.keep (below_new _ (.cells #[.int .u64 1] 24))) (HOWN.out _)).mono ?_
  rintro e w10 ⟨v9, rfl, hv9, hb10⟩
  have b10 := below_at (Below.alloc b9 b9.size _) (Nat.le_refl _) hb10
  have k9_10 := hv9.is
  go_wp2
  go_ret
  exact ⟨_, rfl, k9_10, b10⟩

set_option maxHeartbeats 1200000 in
set_option maxRecDepth 100000 in
theorem root_b0 (N : Nat) (IH : ∀ m, m < N → ∀ (n r : Nat) (a : Value) (w : World), W64 w a m → 0 < m → 0 < n → nbits m ≤ 8000 → IsRoot n m r → Calls Try.prog 97 #[a, .int .i64 (n : Int)] w (NumPost w r)) (m n r D L : Nat) (a : Value) (w : World) (hmN : m ≤ N) (ha : W64 w a m) (hr : IsRoot n m r) (hn2 : 2 ≤ n) (hns : n < nbits m) (hb : nbits m ≤ 8000) (hD : (nbits m - 1) / n + 1 = D) (hr1 : 2 ^ (D - 1) ≤ r) (hnD : n * (D - 1) ≤ nbits m - 1) (hD2 : 2 ≤ D) (hDs : D ≤ nbits m) (hL : nbits n = L) (hl : D < L + 2) (hz : r / 2 * 2 + 1 = r) :
    Calls Try.prog 97 #[a, .int .i64 (n : Int)] w (NumPost w r) := by
  have hm0 : 0 < m := by
    rcases Nat.eq_zero_or_pos m with h | h
    · rw [h] at hns; simp [nbits] at hns
    · exact h
  have hr0 : 0 < r := Nat.lt_of_lt_of_le (Nat.two_pow_pos _) hr1
  have hpl := pow_len hr.1 hr0 (Nat.le_of_lt hns) hb
  have hbm := nbits_ge (Nat.pos_iff_ne_zero.1 hm0)
  have hwl : (dig B64 m).length ≤ 125 := len_of_bits (by omega)
  have hLn : n < 2 ^ L := by rw [← hL]; exact nbits_lt n
  have hL64 : L ≤ 13 := by rw [← hL]; exact nbits_le (by omega)
  have hbits := fun w' (h : W64 w' a m) => bits_call a m w' h (by omega)
  have hlen := fun w' => len_nat n w' (by unfold B64; omega)
  rw [hL] at hlen
  have hwn : IntKind.u64.wrap (n : Int) = (n : Int) := by rw [IntKind.wrap_u64]; omega
  have hdd : ((nbits m : Nat) : Int) - 1 = ((nbits m - 1 : Nat) : Int) := by omega
  have hdq : ((nbits m - 1 : Nat) : Int) / (n : Int) = (((nbits m - 1) / n : Nat) : Int) := (Int.natCast_ediv _ _).symm
  have hn0 : ((n : Int) == 0) = false := by simp; omega
  have hn1 : ((n : Int) == 1) = false := by simp; omega
  have hrl : (dig B64 r).length ≤ 251 := by have := hpl r (by omega) 1 (by omega); rwa [Nat.pow_one] at this
  have hown := fun w' => own_v 1 (by omega) (by unfold B64; omega) w'
  have h1l : (dig B64 1).length ≤ 1 := small64 (by unfold B64; omega)
  have hhigh := hr.high 1
  rw [Nat.mul_one, Nat.pow_one] at hhigh
  have hm1 : 0 < m / 2 ^ n := Nat.div_pos (Nat.le_trans (Nat.pow_le_pow_right (by omega) (by omega)) hbm) (Nat.two_pow_pos _)
  have hm2 : m / 2 ^ n < N := Nat.lt_of_lt_of_le (Nat.div_lt_self hm0 (Nat.one_lt_two_pow (by omega))) hmN
  have hb1 : nbits (m / 2 ^ n) ≤ 8000 := Nat.le_trans (nbits_le (Nat.lt_of_le_of_lt (Nat.div_le_self _ _) (nbits_lt m))) hb
  have hsr := fun w' (h : W64 w' a m) => shiftRight_any a m n w' h (by omega) (by omega)
  have hrt := fun v w' (h : W64 w' v (m / 2 ^ n)) => IH _ hm2 n _ v w' h hm1 (by omega) hb1 hhigh
  have hrr : (dig B64 (r / 2)).length ≤ 251 := Nat.le_trans (lenm (Nat.div_le_self _ _)) hrl
  have hsl := fun v w' (h : W64 w' v (r / 2)) => shiftLeft_any v _ 1 w' h (by omega) (by omega)
  rw [Nat.pow_one] at hsl
  have hal : (dig B64 (r / 2 * 2)).length ≤ 251 := Nat.le_trans (lenm (Nat.div_mul_le_self _ _)) hrl
  have hs1 := fun u v w' (h : W64 w' u (r / 2 * 2)) (l : W64 w' v 1) => sum_any u v _ 1 w' h l (by omega) (by omega)
  rw [hz] at hs1
  obtain ⟨sd, hsd⟩ : ∃ sd : Int, (D : Int) - (L : Int) = sd := ⟨_, rfl⟩
  have hsd1 : -13 ≤ sd := by omega
  have hsd2 : sd ≤ 1 := by omega
  obtain ⟨t, ht⟩ : ∃ t : Int, sd.tdiv 2 = t := ⟨_, rfl⟩
  have ht0 : t ≤ 0 := by
    rw [← ht]
    rcases Int.lt_or_le sd 0 with h | h
    · obtain ⟨u, rfl⟩ : ∃ u, sd = -u := ⟨-sd, by omega⟩
      rw [Int.neg_tdiv, Int.tdiv_eq_ediv_of_nonneg (by omega)]; omega
    · rw [Int.tdiv_eq_ediv_of_nonneg h]; omega
  have ht1 : -10 ≤ t := by
    rw [← ht]
    rcases Int.lt_or_le sd 0 with h | h
    · obtain ⟨u, rfl⟩ : ∃ u, sd = -u := ⟨-sd, by omega⟩
      rw [Int.neg_tdiv, Int.tdiv_eq_ediv_of_nonneg (by omega)]; omega
    · rw [Int.tdiv_eq_ediv_of_nonneg h]; omega
  have hpw := fun v w' (h : W64 w' v (r)) => power_any (mulSpec_all 251 (by omega)) v (r) n w' h (by omega) (by have := hpl (r) (by omega) 1 (by omega); rwa [Nat.pow_one] at this) (fun j hj => hpl (r) (by omega) j hj)
  have hzl := hpl (r) (by omega) n (Nat.le_refl _)
  have hcm := fun v w' (h : W64 w' v ((r) ^ n)) (k : W64 w' a m) => cmp64_call v a _ m w' h k (by omega) (by omega)
  have hcc : cmpN (r ^ n) m ≤ 0 := by
    rcases Nat.lt_or_ge (r ^ n) m with h | h
    · rw [cmpN_lt h]; omega
    · rw [show r ^ n = m from Nat.le_antisymm hr.1 h, cmpN_eq]; omega
  generalize cmpN (r ^ n) m = cc at *
  have HBITS := Lib.hid hbits
  have HLEN := Lib.hid hlen
  have HOWN := Lib.hid hown
  have HSR := Lib.hid hsr
  have HRT := Lib.hid hrt
  have HS1 := Lib.hid hs1
  have HSL := Lib.hid hsl
  have HPW := Lib.hid hpw
  have HCM := Lib.hid hcm
  clear hbits hlen hown hsr hrt hs1 hsl hpw hcm
  have HA := Lib.hid ha
  obtain ⟨sz, hsz⟩ : ∃ sz, nbits m = sz := ⟨_, rfl⟩
  obtain ⟨A, c, rfl, _⟩ := ha
  rw [hsz] at HBITS hdd hdq hD hns hDs hb hnD 
  obtain ⟨sm, hsm⟩ : ∃ sm, sz - 1 = sm := ⟨_, rfl⟩
  rw [hsm] at hdd hdq hD 
  obtain ⟨q, hq⟩ : ∃ q, sm / n = q := ⟨_, rfl⟩
  rw [hq] at hdq hD
  have hD' : (q : Int) + 1 = (D : Int) := by omega
  have hqt : (sm : Int).tdiv (n : Int) = (q : Int) := by rw [Int.tdiv_eq_ediv_of_nonneg (by omega)]; exact hdq
  have hns' : ¬ sz ≤ n := by omega
  clear hsz hsm hq hD hr hr1 hnD hL hpl hbm hLn hrl h1l hz hzl hal hrr hb1 hm1 hm2 hhigh IH hwl hmN hr0 hm0
  generalize (dig B64 m).length = LL at *
  go_enter Try.func97, Try.ntmps97
  go_wp2_with (fail)
  refine (HBITS.out _ HA.out).mono ?_
  rintro e w1 ⟨rfl, rfl⟩
  go_wp2_with (fail)
  refine (HLEN.out _).mono ?_
  rintro e w2 ⟨rfl, rfl⟩
  go_wp2_with (fail)
  refine (HSR.out _ HA.out).mono ?_
  rintro e w3 ⟨v3, rfl, hv3, hb3⟩
  have b3 := below_at (Below.refl _ _) (Nat.le_refl _) hb3
  have ka_3 := HA.out.keep hb3
  have k3_3 := hv3
  go_wp2_with (fail)
  refine (HRT.out _ _ k3_3).mono ?_
  rintro e w4 ⟨v4, rfl, hv4, hb4⟩
  have b4 := below_at b3 (Nat.le_refl _) hb4
  have ka_4 := ka_3.keep hb4
  have k4_4 := hv4
  go_wp2_with (fail)
  refine (HSL.out _ _ k4_4).mono ?_
  rintro e w5 ⟨v5, rfl, hv5, hb5⟩
  have b5 := below_at b4 (Nat.le_refl _) hb5
  have ka_5 := ka_4.keep hb5
  have k5_5 := hv5.is
  go_wp2_with (fail)
  refine (HS1.out _ _ _ (k5_5.keep (below_new _ (.cells #[.int .u64 1] 24))) (HOWN.out _)).mono ?_
  rintro e w6 ⟨v7, rfl, hv7, hb6⟩
  have b6 := below_at (Below.alloc b5 b5.size _) (Nat.le_refl _) hb6
  have ka_6 := (ka_5.keep (below_new _ (.cells #[.int .u64 1] 24))).keep hb6
  have kz_6 := hv7.is
  go_wp2_with (fail)
  refine (HPW.out _ _ kz_6).mono ?_
  rintro e w7 ⟨v8, rfl, hv8, hb7⟩
  have b7 := below_at b6 (Nat.le_refl _) hb7
  have ka_7 := ka_6.keep hb7
  have kz_7 := kz_6.keep hb7
  have k8_7 := hv8.is
  go_wp2_with (fail)
  refine (HCM.out _ _ k8_7 ka_7).mono ?_
  rintro e w8 ⟨rfl, hb8⟩
  have b8 := below_at b7 (Nat.le_refl _) hb8
  have kz_8 := kz_7.keep hb8
  go_wp2
  go_ret
  exact ⟨_, rfl, kz_8, b8⟩

set_option maxHeartbeats 1200000 in
set_option maxRecDepth 100000 in
theorem root_b1 (N : Nat) (IH : ∀ m, m < N → ∀ (n r : Nat) (a : Value) (w : World), W64 w a m → 0 < m → 0 < n → nbits m ≤ 8000 → IsRoot n m r → Calls Try.prog 97 #[a, .int .i64 (n : Int)] w (NumPost w r)) (m n r D L : Nat) (a : Value) (w : World) (hmN : m ≤ N) (ha : W64 w a m) (hr : IsRoot n m r) (hn2 : 2 ≤ n) (hns : n < nbits m) (hb : nbits m ≤ 8000) (hD : (nbits m - 1) / n + 1 = D) (hr1 : 2 ^ (D - 1) ≤ r) (hnD : n * (D - 1) ≤ nbits m - 1) (hD2 : 2 ≤ D) (hDs : D ≤ nbits m) (hL : nbits n = L) (hl : D < L + 2) (hz : r / 2 * 2 + 1 = r + 1) :
    Calls Try.prog 97 #[a, .int .i64 (n : Int)] w (NumPost w r) := by
  have hm0 : 0 < m := by
    rcases Nat.eq_zero_or_pos m with h | h
    · rw [h] at hns; simp [nbits] at hns
    · exact h
  have hr0 : 0 < r := Nat.lt_of_lt_of_le (Nat.two_pow_pos _) hr1
  have hpl := pow_len hr.1 hr0 (Nat.le_of_lt hns) hb
  have hbm := nbits_ge (Nat.pos_iff_ne_zero.1 hm0)
  have hwl : (dig B64 m).length ≤ 125 := len_of_bits (by omega)
  have hLn : n < 2 ^ L := by rw [← hL]; exact nbits_lt n
  have hL64 : L ≤ 13 := by rw [← hL]; exact nbits_le (by omega)
  have hbits := fun w' (h : W64 w' a m) => bits_call a m w' h (by omega)
  have hlen := fun w' => len_nat n w' (by unfold B64; omega)
  rw [hL] at hlen
  have hwn : IntKind.u64.wrap (n : Int) = (n : Int) := by rw [IntKind.wrap_u64]; omega
  have hdd : ((nbits m : Nat) : Int) - 1 = ((nbits m - 1 : Nat) : Int) := by omega
  have hdq : ((nbits m - 1 : Nat) : Int) / (n : Int) = (((nbits m - 1) / n : Nat) : Int) := (Int.natCast_ediv _ _).symm
  have hn0 : ((n : Int) == 0) = false := by simp; omega
  have hn1 : ((n : Int) == 1) = false := by simp; omega
  have hrl : (dig B64 r).length ≤ 251 := by have := hpl r (by omega) 1 (by omega); rwa [Nat.pow_one] at this
  have hown := fun w' => own_v 1 (by omega) (by unfold B64; omega) w'
  have h1l : (dig B64 1).length ≤ 1 := small64 (by unfold B64; omega)
  have hhigh := hr.high 1
  rw [Nat.mul_one, Nat.pow_one] at hhigh
  have hm1 : 0 < m / 2 ^ n := Nat.div_pos (Nat.le_trans (Nat.pow_le_pow_right (by omega) (by omega)) hbm) (Nat.two_pow_pos _)
  have hm2 : m / 2 ^ n < N := Nat.lt_of_lt_of_le (Nat.div_lt_self hm0 (Nat.one_lt_two_pow (by omega))) hmN
  have hb1 : nbits (m / 2 ^ n) ≤ 8000 := Nat.le_trans (nbits_le (Nat.lt_of_le_of_lt (Nat.div_le_self _ _) (nbits_lt m))) hb
  have hsr := fun w' (h : W64 w' a m) => shiftRight_any a m n w' h (by omega) (by omega)
  have hrt := fun v w' (h : W64 w' v (m / 2 ^ n)) => IH _ hm2 n _ v w' h hm1 (by omega) hb1 hhigh
  have hrr : (dig B64 (r / 2)).length ≤ 251 := Nat.le_trans (lenm (Nat.div_le_self _ _)) hrl
  have hsl := fun v w' (h : W64 w' v (r / 2)) => shiftLeft_any v _ 1 w' h (by omega) (by omega)
  rw [Nat.pow_one] at hsl
  have hal : (dig B64 (r / 2 * 2)).length ≤ 251 := Nat.le_trans (lenm (Nat.div_mul_le_self _ _)) hrl
  have hs1 := fun u v w' (h : W64 w' u (r / 2 * 2)) (l : W64 w' v 1) => sum_any u v _ 1 w' h l (by omega) (by omega)
  rw [hz] at hs1
  obtain ⟨sd, hsd⟩ : ∃ sd : Int, (D : Int) - (L : Int) = sd := ⟨_, rfl⟩
  have hsd1 : -13 ≤ sd := by omega
  have hsd2 : sd ≤ 1 := by omega
  obtain ⟨t, ht⟩ : ∃ t : Int, sd.tdiv 2 = t := ⟨_, rfl⟩
  have ht0 : t ≤ 0 := by
    rw [← ht]
    rcases Int.lt_or_le sd 0 with h | h
    · obtain ⟨u, rfl⟩ : ∃ u, sd = -u := ⟨-sd, by omega⟩
      rw [Int.neg_tdiv, Int.tdiv_eq_ediv_of_nonneg (by omega)]; omega
    · rw [Int.tdiv_eq_ediv_of_nonneg h]; omega
  have ht1 : -10 ≤ t := by
    rw [← ht]
    rcases Int.lt_or_le sd 0 with h | h
    · obtain ⟨u, rfl⟩ : ∃ u, sd = -u := ⟨-sd, by omega⟩
      rw [Int.neg_tdiv, Int.tdiv_eq_ediv_of_nonneg (by omega)]; omega
    · rw [Int.tdiv_eq_ediv_of_nonneg h]; omega
  have hpw := fun v w' (h : W64 w' v (r + 1)) => power_any (mulSpec_all 251 (by omega)) v (r + 1) n w' h (by omega) (by have := hpl (r + 1) (by omega) 1 (by omega); rwa [Nat.pow_one] at this) (fun j hj => hpl (r + 1) (by omega) j hj)
  have hzl := hpl (r + 1) (by omega) n (Nat.le_refl _)
  have hcm := fun v w' (h : W64 w' v ((r + 1) ^ n)) (k : W64 w' a m) => cmp64_call v a _ m w' h k (by omega) (by omega)
  have hcc : cmpN ((r + 1) ^ n) m = 1 := cmpN_gt hr.2
  rw [hcc] at hcm
  have hdf := fun u v w' (h : W64 w' u (r + 1)) (k : W64 w' v 1) => diff_any u v (r + 1) 1 w' h k (by have := hpl (r + 1) (by omega) 1 (by omega); rw [Nat.pow_one] at this; omega) (by omega)
  rw [Nat.add_sub_cancel] at hdf
  have HBITS := Lib.hid hbits
  have HLEN := Lib.hid hlen
  have HOWN := Lib.hid hown
  have HSR := Lib.hid hsr
  have HRT := Lib.hid hrt
  have HS1 := Lib.hid hs1
  have HSL := Lib.hid hsl
  have HPW := Lib.hid hpw
  have HCM := Lib.hid hcm
  have HDF := Lib.hid hdf
  clear hbits hlen hown hsr hrt hs1 hsl hpw hcm hdf
  have HA := Lib.hid ha
  obtain ⟨sz, hsz⟩ : ∃ sz, nbits m = sz := ⟨_, rfl⟩
  obtain ⟨A, c, rfl, _⟩ := ha
  rw [hsz] at HBITS hdd hdq hD hns hDs hb hnD 
  obtain ⟨sm, hsm⟩ : ∃ sm, sz - 1 = sm := ⟨_, rfl⟩
  rw [hsm] at hdd hdq hD 
  obtain ⟨q, hq⟩ : ∃ q, sm / n = q := ⟨_, rfl⟩
  rw [hq] at hdq hD
  have hD' : (q : Int) + 1 = (D : Int) := by omega
  have hqt : (sm : Int).tdiv (n : Int) = (q : Int) := by rw [Int.tdiv_eq_ediv_of_nonneg (by omega)]; exact hdq
  have hns' : ¬ sz ≤ n := by omega
  clear hsz hsm hq hD hr hr1 hnD hL hpl hbm hLn hrl h1l hz hzl hal hrr hb1 hm1 hm2 hhigh IH hwl hmN hr0 hm0 hcc
  generalize (dig B64 m).length = LL at *
  go_enter Try.func97, Try.ntmps97
  go_wp2_with (fail)
  refine (HBITS.out _ HA.out).mono ?_
  rintro e w1 ⟨rfl, rfl⟩
  go_wp2_with (fail)
  refine (HLEN.out _).mono ?_
  rintro e w2 ⟨rfl, rfl⟩
  go_wp2_with (fail)
  refine (HSR.out _ HA.out).mono ?_
  rintro e w3 ⟨v3, rfl, hv3, hb3⟩
  have b3 := below_at (Below.refl _ _) (Nat.le_refl _) hb3
  have ka_3 := HA.out.keep hb3
  have k3_3 := hv3
  go_wp2_with (fail)
  refine (HRT.out _ _ k3_3).mono ?_
  rintro e w4 ⟨v4, rfl, hv4, hb4⟩
  have b4 := below_at b3 (Nat.le_refl _) hb4
  have ka_4 := ka_3.keep hb4
  have k4_4 := hv4
  go_wp2_with (fail)
  refine (HSL.out _ _ k4_4).mono ?_
  rintro e w5 ⟨v5, rfl, hv5, hb5⟩
  have b5 := below_at b4 (Nat.le_refl _) hb5
  have ka_5 := ka_4.keep hb5
  have k5_5 := hv5.is
  go_wp2_with (fail)
  refine (HS1.out _ _ _ (k5_5.keep (below_new _ (.cells #[.int .u64 1] 24))) (HOWN.out _)).mono ?_
  rintro e w6 ⟨v7, rfl, hv7, hb6⟩
  have b6 := below_at (Below.alloc b5 b5.size _) (Nat.le_refl _) hb6
  have ka_6 := (ka_5.keep (below_new _ (.cells #[.int .u64 1] 24))).keep hb6
  have kz_6 := hv7.is
  go_wp2_with (fail)
  refine (HPW.out _ _ kz_6).mono ?_
  rintro e w7 ⟨v8, rfl, hv8, hb7⟩
  have b7 := below_at b6 (Nat.le_refl _) hb7
  have ka_7 := ka_6.keep hb7
  have kz_7 := kz_6.keep hb7
  have k8_7 := hv8.is
  go_wp2_with (fail)
  refine (HCM.out _ _ k8_7 ka_7).mono ?_
  rintro e w8 ⟨rfl, hb8⟩
  have b8 := below_at b7 (Nat.le_refl _) hb8
  have kz_8 := kz_7.keep hb8
  go_wp2_with (fail)
  refine (HDF.out _ _ _ (kz_8.keep (below_new _ (.cells #[.int .u64 1] 24))) (HOWN.out _)).mono ?_
  rintro e w9 ⟨v9, rfl, hv9, hb9⟩
  have b9 := below_at (Below.alloc b8 b8.size _) (Nat.le_refl _) hb9
  have k9_9 := hv9.is
  go_wp2
  go_ret
  exact ⟨_, rfl, k9_9, b9⟩

set_option maxHeartbeats 1000000 in
set_option maxRecDepth 100000 in
theorem root_id (a : Value) (m : Nat) (w : World) (ha : W64 w a m) (hb : nbits m ≤ 8000) (h1 : 1 < nbits m) : Calls Try.prog 97 #[a, .int .i64 1] w (NumPost w m) := by
  have hwl : (dig B64 m).length ≤ 125 := len_of_bits (by omega)
  have hbits := bits_call a m w ha (by omega)
  have HB := Lib.hid hbits
  have HA := Lib.hid ha
  obtain ⟨A, c, rfl, _⟩ := ha
  clear hbits
  generalize (dig B64 m).length = LL at *
  generalize nbits m = sz at *
  have h2 : ¬ sz ≤ 1 := by omega
  go_enter Try.func97, Try.ntmps97
  go_wp2_with (go_at_call 91; refine HB.out.mono ?_; rintro e w1 ⟨rfl, rfl⟩)
  go_ret
  exact ⟨_, rfl, HA.out, Below.refl _ _⟩

/-- root: the integer part of the nth root. -/
theorem root_all (N : Nat) : ∀ m, m ≤ N → ∀ (n r : Nat) (a : Value) (w : World), W64 w a m → 0 < m → 0 < n → nbits m ≤ 8000 → IsRoot n m r → Calls Try.prog 97 #[a, .int .i64 (n : Int)] w (NumPost w r) := by
  induction N with
  | zero => intro m h n r a w _ h0; omega
  | succ N ih =>
    intro m hm n r a w ha h0 hn hb hr
    have IH : ∀ m', m' < N + 1 → ∀ (n r : Nat) (a : Value) (w : World), W64 w a m' → 0 < m' → 0 < n → nbits m' ≤ 8000 → IsRoot n m' r → Calls Try.prog 97 #[a, .int .i64 (n : Int)] w (NumPost w r) := fun m' h => ih m' (by omega)
    rcases Nat.lt_or_ge n (nbits m) with hs | hs
    · rcases Nat.lt_or_ge n 2 with h2 | h2
      · obtain rfl : n = 1 := by omega
        have e : r = m := hr.unique ⟨by rw [Nat.pow_one]; exact Nat.le_refl _, by rw [Nat.pow_one]; omega⟩
        rw [e]
        exact root_id a m w ha hb hs
      · obtain ⟨D, hD, k1, _, k3, k4, k5⟩ := root_numbers hr hn hs
        have hr0 : 0 < r := Nat.lt_of_lt_of_le (Nat.two_pow_pos _) k1
        rcases Nat.lt_or_ge D (nbits n + 2) with hl | hl
        · have hz : r / 2 * 2 + 1 = r ∨ r / 2 * 2 + 1 = r + 1 := by omega
          rcases hz with hz | hz
          · exact root_b0 (N + 1) IH m n r D _ a w hm ha hr h2 hs hb hD k1 k3 k4 k5 rfl hl hz
          · exact root_b1 (N + 1) IH m n r D _ a w hm ha hr h2 hs hb hD k1 k3 k4 k5 rfl hl hz
        · obtain ⟨low, hlow⟩ : ∃ low, (D - nbits n) / 2 = low := ⟨_, rfl⟩
          have hLn := nbits_lt n
          obtain ⟨X, hX⟩ : ∃ X, (r / 2 ^ low + 1) * 2 ^ low = X := ⟨_, rfl⟩
          have hy := newton_y (D := D) (L := nbits n) (low := low) (n := n - 1) (r := r) (by omega) (by omega) k1 (by omega) X hX.symm
          have g1 : r ≤ ((n - 1) * X + m / X ^ (n - 1)) / (n - 1 + 1) := newton_ge (by rw [show n - 1 + 1 = n by omega]; exact hr.1) (by omega) (by omega)
          have g2 : ((n - 1) * X + m / X ^ (n - 1)) / (n - 1 + 1) ≤ r + 1 := newton_le (by rw [show n - 1 + 1 = n by omega]; exact hr.2) hy.1 hy.2.2
          rw [show n - 1 + 1 = n by omega] at g1 g2
          have hz : ((n - 1) * X + m / X ^ (n - 1)) / n = r ∨ ((n - 1) * X + m / X ^ (n - 1)) / n = r + 1 := by
            generalize ((n - 1) * X + m / X ^ (n - 1)) / n = z at *
            omega
          rw [← hX] at hz
          rcases hz with hz | hz
          · exact root_a0 (N + 1) IH m n r D _ low a w hm ha hr h2 hs hb hD k1 k3 k4 k5 rfl (by omega) (by omega) (by omega) hz
          · exact root_a1 (N + 1) IH m n r D _ low a w hm ha hr h2 hs hb hD k1 k3 k4 k5 rfl (by omega) (by omega) (by omega) hz
    · have e : r = 1 := hr.unique ⟨by rw [Nat.one_pow]; exact h0, Nat.lt_of_lt_of_le (nbits_lt m) (Nat.pow_le_pow_right (by omega) hs)⟩
      rw [e]
      exact root_one a m n w ha (Nat.le_trans (len_of_bits (k := 125) (by omega)) (by omega)) hs
theorem root_any (a : Value) (m n r : Nat) (w : World) (ha : W64 w a m) (h0 : 0 < m) (hn : 0 < n) (hb : nbits m ≤ 8000) (hr : IsRoot n m r) : Calls Try.prog 97 #[a, .int .i64 (n : Int)] w (NumPost w r) :=
  root_all m m (Nat.le_refl _) n r a w ha h0 hn hb hr
end Go.Proofs.Ytaegkhdkhgemmaa

namespace Go.Proofs.Ytaegkhdkhgemmaa
open Go.RowKit Num

structure SubOut (xs ys : List Nat) (k : Nat) (os : List Nat) (c : Nat) : Prop where
  len : os.length = k
  low : Low B32 os
  le : c ≤ 1
  eq : val B32 os + val B32 (ys.take k) = val B32 (xs.take k) + B32 ^ k * c
theorem SubOut.start (xs ys : List Nat) : SubOut xs ys 0 [] 0 := ⟨rfl, Low.nil _, by omega, by simp [val]⟩
theorem SubOut.step {xs ys os : List Nat} {k c lo hi : Nat} (h : SubOut xs ys k os c) (hs : lo + ys.getD k 0 + c = xs.getD k 0 + B32 * hi) (hlo : lo < B32) (hhi : hi ≤ 1) :
    SubOut xs ys (k + 1) (os ++ [lo]) hi := by
  refine ⟨by simp [h.len], h.low.append (Low.cons hlo (Low.nil _)), hhi, ?_⟩
  rw [val_snoc, val_take_getD, val_take_getD, h.len]
  have e := h.eq
  have : B32 ^ k * (lo + ys.getD k 0 + c) = B32 ^ k * (xs.getD k 0 + B32 * hi) := by rw [hs]
  rw [Nat.pow_succ]
  grind
theorem SubOut.fin {xs ys os : List Nat} {k c : Nat} (h : SubOut xs ys k os c) (hx : xs.length ≤ k) (hy : ys.length ≤ k) (hle : val B32 ys ≤ val B32 xs) (hylow : Low B32 ys) : val B32 os = val B32 xs - val B32 ys := by
  have e := h.eq
  rw [List.take_of_length_le hx, List.take_of_length_le hy] at e
  have h1 := val_lt B32 os h.low
  rw [h.len] at h1
  have h5 : c = 0 := by
    rcases Nat.eq_zero_or_pos c with h0 | h0
    · exact h0
    · have : B32 ^ k * 1 ≤ B32 ^ k * c := Nat.mul_le_mul_left _ h0
      have h2 := val_lt B32 ys hylow
      have h3 : B32 ^ ys.length ≤ B32 ^ k := Nat.pow_le_pow_right b32_pos hy
      omega
  subst h5
  simp at e
  omega

theorem sub3_ex (x y c : Nat) (hx : x < B32) (hy : y < B32) (hc : c ≤ 1) : ∃ s1 s2 s lo q hi : Nat,
    IntKind.u64.wrap (4294967296 + (x : Int)) = (s1 : Int) ∧ IntKind.u64.wrap ((s1 : Int) - (y : Int)) = (s2 : Int) ∧ IntKind.u64.wrap ((s2 : Int) - (c : Int)) = (s : Int) ∧ (s : Int) % 4294967296 = (lo : Int) ∧ (s : Int) / 4294967296 = (q : Int) ∧
    IntKind.u32.wrap (lo : Int) = (lo : Int) ∧ (lo : Int) % 4294967296 = (lo : Int) ∧ IntKind.u64.wrap (q : Int) = (q : Int) ∧ IntKind.u64.wrap (1 - (q : Int)) = (hi : Int) ∧ lo + y + c = x + B32 * hi ∧ lo < B32 ∧ hi ≤ 1 := by
  unfold B32 at *
  refine ⟨4294967296 + x, 4294967296 + x - y, 4294967296 + x - y - c, (4294967296 + x - y - c) % 4294967296, (4294967296 + x - y - c) / 4294967296, 1 - (4294967296 + x - y - c) / 4294967296, ?_, ?_, ?_, by omega, by omega, ?_, by omega, ?_, ?_, by omega, by omega, by omega⟩
  · rw [IntKind.wrap_u64]; omega
  · rw [IntKind.wrap_u64]; omega
  · rw [IntKind.wrap_u64]; omega
  · rw [IntKind.wrap_u32']; omega
  · rw [IntKind.wrap_u64]; omega
  · rw [IntKind.wrap_u64]; omega

set_option maxHeartbeats 2000000 in
set_option maxRecDepth 100000 in
theorem refSub_any (A A' : Option Addr) (c c' L L' : Nat) (xs ys : List Nat) (w : World) (hA : Nums .u32 w A xs) (hA' : Nums .u32 w A' ys) (hx : Low B32 xs) (hy : Low B32 ys) (hL : L = xs.length) (hL' : L' = ys.length)
    (hl : L ≤ 1000000) (hle' : L' ≤ L) (hle : val B32 ys ≤ val B32 xs) : Calls Try.prog 44 #[.slice A L c, .slice A' L' c'] w (LsPost w (dig B32 (val B32 xs - val B32 ys))) := by
  obtain ⟨i0, hi, hz0, hz1, hz2⟩ := info_parts info56
  have ho := own_empty w 56
  have hbA := below_new w (.cells #[] 56)
  have HO := Lib.hid ho
  have HL := Lib.hid hL
  have HL' := Lib.hid hL'
  have HLE := Lib.hid hle
  have HY := Lib.hid hy
  clear ho hL hL' hle
  obtain ⟨ds, hds⟩ : ∃ ds, dig B32 (val B32 xs - val B32 ys) = ds := ⟨_, rfl⟩
  rw [hds]
  have HDS := Lib.hid hds
  clear hds
  go_enter Try.func44, Try.ntmps44
  go_wp2
  go_loopw [5, 6, 7] (fun out q t wr => ∃ (k cy : Nat) (os : List Nat), k ≤ L ∧ t = .int .i64 (k : Int) ∧ q = .int .u64 (cy : Int) ∧ SubOut xs ys k os cy ∧ wr.ownsRow w.heap.size 56 1 out k (ints .u32 os) ∧ Below w.heap.size w wr) (fun _ _ t _ => L - (intOf t).toNat)
  case atStart => exact ⟨0, 0, [], Nat.zero_le _, rfl, rfl, SubOut.start xs ys, HO.out, hbA⟩
  case round =>
    clear hbA HO
    obtain ⟨k, cy, os, hk, rfl, rfl, hst, hown, hbl⟩ := hrel
    by_cases hlt : k < L
    · have ha := at_any A c L k xs wr (hA.keep hbl) hx HL.out
      have hb := at_any A' c' L' k ys wr (hA'.keep hbl) hy HL'.out
      obtain ⟨s1, s2, s, lo, qq, hi', w1, w2, w3, w4, w5, w6, w7, w8, w9, hs, hlo, hhi⟩ := sub3_ex _ _ cy (getD_low b32_pos hx k) (getD_low b32_pos hy k) hst.le
      have hst' := hst.step hs hlo hhi
      generalize xs.getD k 0 = x at *
      generalize ys.getD k 0 = y at *
      have HA := Lib.hid ha
      have HB := Lib.hid hb
      have HST := Lib.hid hst'
      have HS := Lib.hid hs
      clear ha hb hst' hA hA' hx hy hs hlo hst
      go_wp2_with (fail)
      refine HA.out.mono ?_
      rintro e wq ⟨rfl, rfl⟩
      go_wp2_with (fail)
      refine HB.out.mono ?_
      rintro e wq ⟨rfl, rfl⟩
      go_wp2_with (at_builtin
                   refine wpList_append_own _ rfl _ _ 35 rfl w.heap.size 56 i0 (.int .u32 0) 1 4 Try.underlying35 hi hz0 hz1 hz2 rfl (by decide) _ k _ rfl (hown.alloc _) ⟨wr.heap.size, 0, none⟩ 1 1 [.int .u32 (lo : Int)] rfl rfl (cell_one_new _ _ _) (ints_one .u32 [lo]) ?c4 ?c5 (Nat.le_trans hbl.size (by simp)) ?_)
      case c4 => unfold maxLen; omega
      case c5 => omega
      intro v' wv hown1 hgr1 _
      have hb1 : Below w.heap.size w wv := (hbl.alloc hbl.size _).grown hgr1 (Nat.le_trans hbl.size (by simp)) (fun g' hg' => by
        rcases hown.2 with ⟨rfl, _⟩ | ⟨g2, cap, cur, rfl, hg2, _⟩
        · simp [Value.ownBlock] at hg'
        · simp [Value.ownBlock] at hg'; omega)
      have H1 := Lib.hid hown1
      have H0 := Lib.hid hown
      clear hown1 hown
      go_wp2
      go_roundw
      case rel => exact ⟨k + 1, hi', os ++ [lo], by omega, by go_num, rfl, HST.out, by have := H1.out; simpa [ints] using this, hb1⟩
      case measure => simp [intOf]; omega
    · have hkL : k = L := by omega
      subst hkL
      have hst' := hst.fin (by have := HL.out; omega) (by have := HL'.out; omega) HLE.out HY.out
      have hlen2 : os.length = k := hst.len
      have hls : OwnLs w.heap.size wr u5 os := by
        unfold OwnLs
        rw [hlen2]
        exact hown
      have hlim := hls.limbs (by rw [hlen2]; omega)
      have htr := refTrim_l u5 os wr hlim hst.low (by rw [hlen2]; omega)
      rw [hst', HDS.out] at htr
      have HT := Lib.hid htr
      clear htr hlim hls hown hst' hst hA hA' hx hy hlt hlen2 hk
      go_wp2_with (go_at_call 80; refine HT.out.mono ?_; rintro e w9 ⟨v9, rfl, hv9, hb9⟩)
      go_ret
      exact ⟨_, rfl, hv9.mono hbl.size, below_at hbl (Nat.le_refl _) hb9⟩

theorem refSub_call (a b : Value) (m n : Nat) (w : World) (ha : N32 w a m) (hb : N32 w b n) (hm : (dig B32 m).length ≤ 1000000) (hle : n ≤ m) : Calls Try.prog 44 #[a, b] w (LsPost w (dig B32 (m - n))) := by
  obtain ⟨A, c, rfl, _, hA⟩ := ha
  obtain ⟨A', c', rfl, _, hA'⟩ := hb
  have := refSub_any A A' c c' _ _ _ _ w hA hA' (low_dig b32_two m) (low_dig b32_two n) rfl rfl hm (dig_len_le b32_two (Nat.lt_of_le_of_lt hle (dig_len_lt b32_two))) (by rw [val_dig b32_two, val_dig b32_two]; exact hle)
  rw [val_dig b32_two, val_dig b32_two] at this
  exact this
end Go.Proofs.Ytaegkhdkhgemmaa

namespace Go.Proofs.Ytaegkhdkhgemmaa
open Go.RowKit Num

set_option maxHeartbeats 2000000 in
set_option maxRecDepth 100000 in
theorem adds_bad (A A' : Option Addr) (c c' L L' : Nat) (xs ys : List Nat) (w : World) (hA : Nums .u32 w A xs) (hA' : Nums .u32 w A' ys) (hL : L = xs.length) (hL' : L' = ys.length) (hc : L ≤ c) (hc' : L' ≤ c') (hnil : A = none → c = 0) (hnil' : A' = none → c' = 0)
    (hbad : chk2 (xs.take 60) (ys.take 60) ≠ 0) : Calls Try.prog 4 #[.slice A L c, .slice A' L' c'] w (LivesPost w) := by
  have hcut := fun w' (h : Below w.heap.size w w') => cut_any A c L 60 xs w' (hA.keep h) hL hc hnil (by omega)
  have hcut' := fun w' (h : Below w.heap.size w w') => cut_any A' c' L' 60 ys w' (hA'.keep h) hL' hc' hnil' (by omega)
  have l1 : (xs.take 60).length ≤ 60 := by rw [List.length_take]; omega
  have l2 : (ys.take 60).length ≤ 60 := by rw [List.length_take]; omega
  generalize xs.take 60 = us at *
  generalize ys.take 60 = vs at *
  have hlu : ∀ B w' a, OwnLs B w' a us → Limbs w' a us := fun B w' a h => h.limbs (by omega)
  have hlv : ∀ B w' a, OwnLs B w' a vs → Limbs w' a vs := fun B w' a h => h.limbs (by omega)
  have h37 := fun a b w h k => add_bad a b us vs w h k hbad
  have h38 := fun a b w h k => sub_bad a b us vs w h k hbad
  have h39 := fun a b w h k => cmp_bad a b us vs w h k hbad
  have h40 := fun a b w h k => both_any a b us vs w h k
  generalize chk2 us vs = r at *
  have hq : (r != 0) = true := by simp [hbad]
  have hq0 : (r == r) = true := by simp
  have h41 := fun b w => is_err b r w hbad
  have HC := Lib.hid hcut
  have HC' := Lib.hid hcut'
  have HLU := Lib.hid hlu
  have HLV := Lib.hid hlv
  have H37 := Lib.hid h37
  have H38 := Lib.hid h38
  have H39 := Lib.hid h39
  have H40 := Lib.hid h40
  have H41 := Lib.hid h41
  have HB := Lib.hid hbad
  clear hcut hcut' hlu hlv h37 h38 h39 h40 h41 hbad hA hA' hL hL' hnil hnil' l1 l2
  go_enter Try.func4, Try.ntmps4
  go_wp2_with (fail)
  refine (HC.out _ (Below.refl _ _)).mono ?_
  rintro e w1 ⟨va, rfl, hva, hb1⟩
  have ka := HLU.out _ _ _ hva
  go_wp2_with (fail)
  refine (HC'.out _ hb1).mono ?_
  rintro e w2 ⟨vb, rfl, hvb, hb2⟩
  have kb := HLV.out _ _ _ hvb
  have b2 := below_at hb1 (Nat.le_refl _) hb2
  have ka2 := ka.keep hb2
  go_wp2_with (first
    | (go_at_call 37; refine (H37.out _ _ _ ka2 kb).mono ?_; rintro e w3 ⟨rfl, hb3⟩
       have b3 := below_at b2 (Nat.le_refl _) hb3
       have ka3 := ka2.keep hb3
       have kb3 := kb.keep hb3)
    | (go_at_call 38; refine (H38.out _ _ _ ka3 kb3).mono ?_; rintro e w4 ⟨rfl, hb4⟩
       have b4 := below_at b3 (Nat.le_refl _) hb4
       have ka4 := ka3.keep hb4
       have kb4 := kb3.keep hb4)
    | (go_at_call 39; refine (H39.out _ _ _ ka4 kb4).mono ?_; rintro e w5 ⟨rfl, hb5⟩
       have b5 := below_at b4 (Nat.le_refl _) hb5
       have ka5 := ka4.keep hb5
       have kb5 := kb4.keep hb5)
    | (go_at_call 40; refine (H40.out _ _ _ ka5 kb5).mono ?_; rintro e w6 ⟨rfl, rfl⟩)
    | (go_at_call 30; refine (lives_any _).mono ?_; rintro e w7 ⟨rfl, hb7⟩
       have b7 := below_at b5 (Nat.le_refl _) hb7))
  refine (H41.out _ _).mono ?_
  rintro e w8 ⟨rfl, hb8⟩
  have b8 := below_at b7 (Nat.le_refl _) hb8
  go_wp2_with (fail)
  refine (H41.out _ _).mono ?_
  rintro e w9 ⟨rfl, hb9⟩
  have b9 := below_at b8 (Nat.le_refl _) hb9
  go_wp2
  go_ret
  exact ⟨rfl, b9⟩

theorem sum_len {m n : Nat} (hm : (dig B32 m).length ≤ 60) (hn : (dig B32 n).length ≤ 60) : (dig B32 (m + n)).length ≤ 61 := by
  have h1 := Nat.lt_of_lt_of_le (dig_len_lt b32_two (n := m)) (Nat.pow_le_pow_right b32_pos hm)
  have h2 := Nat.lt_of_lt_of_le (dig_len_lt b32_two (n := n)) (Nat.pow_le_pow_right b32_pos hn)
  exact dig_len_le b32_two (two_pow_lt b32_two h1 h2)
theorem bits_of_len {n K : Nat} (h : (dig B32 n).length ≤ K) : nbits n ≤ 32 * K := by
  refine nbits_le (Nat.lt_of_lt_of_le (dig_len_lt b32_two) ?_)
  rw [Nat.pow_mul]
  exact Nat.pow_le_pow_right b32_pos h
theorem sum_small {m n : Nat} (hm : (dig B32 m).length ≤ 60) (hn : (dig B32 n).length ≤ 60) : nbits (m + n) ≤ 8388608 := Nat.le_trans (bits_of_len (sum_len hm hn)) (by omega)

set_option maxHeartbeats 2000000 in
set_option maxRecDepth 100000 in
theorem adds_lt (A A' : Option Addr) (c c' L L' m n : Nat) (xs ys : List Nat) (w : World) (hA : Nums .u32 w A xs) (hA' : Nums .u32 w A' ys) (hL : L = xs.length) (hL' : L' = ys.length) (hc : L ≤ c) (hc' : L' ≤ c') (hnil : A = none → c = 0) (hnil' : A' = none → c' = 0)
    (hm : xs.take 60 = dig B32 m) (hn : ys.take 60 = dig B32 n) (hcmp : m < n) : Calls Try.prog 4 #[.slice A L c, .slice A' L' c'] w (LivesPost w) := by
  have hcut := fun w' (h : Below w.heap.size w w') => cut_any A c L 60 xs w' (hA.keep h) hL hc hnil (by omega)
  have hcut' := fun w' (h : Below w.heap.size w w') => cut_any A' c' L' 60 ys w' (hA'.keep h) hL' hc' hnil' (by omega)
  have l1 : (xs.take 60).length ≤ 60 := by rw [List.length_take]; omega
  have l2 : (ys.take 60).length ≤ 60 := by rw [List.length_take]; omega
  rw [hm] at hcut l1
  rw [hn] at hcut' l2
  have hp := sum_small l1 l2
  have ls := sum_len l1 l2
  have hlu : ∀ B w' a, OwnLs B w' a (dig B32 m) → Limbs w' a (dig B32 m) := fun B w' a h => h.limbs (by omega)
  have hlv : ∀ B w' a, OwnLs B w' a (dig B32 n) → Limbs w' a (dig B32 n) := fun B w' a h => h.limbs (by omega)
  have h37 := fun a b w (h : Limbs w a (dig B32 m)) (k : Limbs w b (dig B32 n)) => add_ok a b m n w h.is k.is (by omega) (by omega) hp
  have h38 := fun a b w (h : Limbs w a (dig B32 m)) (k : Limbs w b (dig B32 n)) => sub_range a b m n w h.is k.is (by omega) (by omega) hcmp
  have h39 := fun a b w (h : Limbs w a (dig B32 m)) (k : Limbs w b (dig B32 n)) => cmp_ok a b m n w h.is k.is (by omega) (by omega)
  have h40 := fun a b w h k => both_any a b (dig B32 m) (dig B32 n) w h k
  have h42 := fun a b w (h : Limbs w a (dig B32 m)) (k : Limbs w b (dig B32 n)) => refCmp_call a b m n w h.is k.is (by omega) (by omega)
  have h43 := fun a b w (h : Limbs w a (dig B32 m)) (k : Limbs w b (dig B32 n)) => refAdd_call a b m n w h.is k.is (by omega) (by omega)
  have h41 := fun a b w (h : N32 w a (m + n)) (k : OwnLs w.heap.size w b (dig B32 (m + n))) => is_ok a b (m + n) w h (k.limbs (by omega)) (by omega)
  have h41b : ∀ B a b w, N32 w a (m + n) → OwnLs B w b (dig B32 (m + n)) → Calls Try.prog 41 #[a, .int .i64 0, b, .int .i64 0] w (LivesPost w) := fun B a b w h k => is_ok a b (m + n) w h (k.limbs (by omega)) (by omega)
  have h41e := fun b w => is_err b 5 w (by omega)
  rw [chk2, if_pos (chk_dig (by omega)), chk_dig (by omega)] at h40
  have hcv : cmpN m n = -1 := cmpN_lt hcmp
  generalize cmpN m n = r at *
  have hq : (r != r) = false := by simp
  subst hcv
  have HC := Lib.hid hcut
  have HC' := Lib.hid hcut'
  have HLU := Lib.hid hlu
  have HLV := Lib.hid hlv
  have H37 := Lib.hid h37
  have H38 := Lib.hid h38
  have H39 := Lib.hid h39
  have H40 := Lib.hid h40
  have H41 := Lib.hid h41b
  have H42 := Lib.hid h42
  have H43 := Lib.hid h43
  have H41E := Lib.hid h41e
  clear hcut hcut' hlu hlv h37 h38 h39 h40 h41 h41b h42 h43 hA hA' hL hL' hnil hnil' l1 l2 hp ls hm hn hcmp h41e
  go_enter Try.func4, Try.ntmps4
  go_wp2_with (fail)
  refine (HC.out _ (Below.refl _ _)).mono ?_
  rintro e w1 ⟨va, rfl, hva, hb1⟩
  have ka := HLU.out _ _ _ hva
  go_wp2_with (fail)
  refine (HC'.out _ hb1).mono ?_
  rintro e w2 ⟨vb, rfl, hvb, hb2⟩
  have kb := HLV.out _ _ _ hvb
  have b2 := below_at hb1 (Nat.le_refl _) hb2
  have ka2 := ka.keep hb2
  go_wp2_with (first
    | (go_at_call 37; refine (H37.out _ _ _ ka2 kb).mono ?_; rintro e w3 ⟨vs, rfl, hvs, hb3⟩
       have b3 := below_at b2 (Nat.le_refl _) hb3
       have ka3 := ka2.keep hb3
       have kb3 := kb.keep hb3)
    | (go_at_call 38; refine (H38.out _ _ _ ka3 kb3).mono ?_; rintro e w4 ⟨rfl, hb4⟩
       have b4 := below_at b3 (Nat.le_refl _) hb4
       have ka4 := ka3.keep hb4
       have kb4 := kb3.keep hb4
       have ks4 := hvs.is.keep hb4)
    | (go_at_call 39; refine (H39.out _ _ _ ka4 kb4).mono ?_; rintro e w5 ⟨rfl, hb5⟩
       have b5 := below_at b4 (Nat.le_refl _) hb5
       have ka5 := ka4.keep hb5
       have kb5 := kb4.keep hb5
       have ks5 := ks4.keep hb5)
    | (go_at_call 40; refine (H40.out _ _ _ ka5 kb5).mono ?_; rintro e w6 ⟨rfl, rfl⟩)
    | (go_at_call 30; refine (lives_any _).mono ?_; rintro e w7 ⟨rfl, hb7⟩
       have b7 := below_at b5 (Nat.le_refl _) hb7
       have ka7 := ka5.keep hb7
       have kb7 := kb5.keep hb7
       have ks7 := ks5.keep hb7)
    | (go_at_call 42; refine (H42.out _ _ _ ka7 kb7).mono ?_; rintro e w8 ⟨rfl, hb8⟩
       have b8 := below_at b7 (Nat.le_refl _) hb8
       have ka8 := ka7.keep hb8
       have kb8 := kb7.keep hb8
       have ks8 := ks7.keep hb8)
    | (go_at_call 43; refine (H43.out _ _ _ ka8 kb8).mono ?_; rintro e w9 ⟨v9, rfl, hv9, hb9⟩
       have b9 := below_at b8 (Nat.le_refl _) hb9
       have ka9 := ka8.keep hb9
       have kb9 := kb8.keep hb9
       have ks9 := ks8.keep hb9))
  refine (H41.out _ _ _ _ ks9 hv9).mono ?_
  rintro e w10 ⟨rfl, hb10⟩
  have b10 := below_at b9 (Nat.le_refl _) hb10
  go_wp2_with (fail)
  refine (H41E.out _ _).mono ?_
  rintro e w11 ⟨rfl, hb11⟩
  have b11 := below_at b10 (Nat.le_refl _) hb11
  go_wp2
  go_ret
  exact ⟨rfl, b11⟩

set_option maxHeartbeats 2000000 in
set_option maxRecDepth 100000 in
theorem adds_ge (A A' : Option Addr) (c c' L L' m n : Nat) (xs ys : List Nat) (w : World) (hA : Nums .u32 w A xs) (hA' : Nums .u32 w A' ys) (hL : L = xs.length) (hL' : L' = ys.length) (hc : L ≤ c) (hc' : L' ≤ c') (hnil : A = none → c = 0) (hnil' : A' = none → c' = 0)
    (hm : xs.take 60 = dig B32 m) (hn : ys.take 60 = dig B32 n) (hcmp : n ≤ m) : Calls Try.prog 4 #[.slice A L c, .slice A' L' c'] w (LivesPost w) := by
  have hcut := fun w' (h : Below w.heap.size w w') => cut_any A c L 60 xs w' (hA.keep h) hL hc hnil (by omega)
  have hcut' := fun w' (h : Below w.heap.size w w') => cut_any A' c' L' 60 ys w' (hA'.keep h) hL' hc' hnil' (by omega)
  have l1 : (xs.take 60).length ≤ 60 := by rw [List.length_take]; omega
  have l2 : (ys.take 60).length ≤ 60 := by rw [List.length_take]; omega
  rw [hm] at hcut l1
  rw [hn] at hcut' l2
  have hp := sum_small l1 l2
  have ls := sum_len l1 l2
  have hlu : ∀ B w' a, OwnLs B w' a (dig B32 m) → Limbs w' a (dig B32 m) := fun B w' a h => h.limbs (by omega)
  have hlv : ∀ B w' a, OwnLs B w' a (dig B32 n) → Limbs w' a (dig B32 n) := fun B w' a h => h.limbs (by omega)
  have h37 := fun a b w (h : Limbs w a (dig B32 m)) (k : Limbs w b (dig B32 n)) => add_ok a b m n w h.is k.is (by omega) (by omega) hp
  have h38 := fun a b w (h : Limbs w a (dig B32 m)) (k : Limbs w b (dig B32 n)) => sub_ok a b m n w h.is k.is (by omega) (by omega) hcmp
  have h39 := fun a b w (h : Limbs w a (dig B32 m)) (k : Limbs w b (dig B32 n)) => cmp_ok a b m n w h.is k.is (by omega) (by omega)
  have h40 := fun a b w h k => both_any a b (dig B32 m) (dig B32 n) w h k
  have h42 := fun a b w (h : Limbs w a (dig B32 m)) (k : Limbs w b (dig B32 n)) => refCmp_call a b m n w h.is k.is (by omega) (by omega)
  have h43 := fun a b w (h : Limbs w a (dig B32 m)) (k : Limbs w b (dig B32 n)) => refAdd_call a b m n w h.is k.is (by omega) (by omega)
  have h41 := fun a b w (h : N32 w a (m + n)) (k : OwnLs w.heap.size w b (dig B32 (m + n))) => is_ok a b (m + n) w h (k.limbs (by omega)) (by omega)
  have h41b : ∀ B a b w, N32 w a (m + n) → OwnLs B w b (dig B32 (m + n)) → Calls Try.prog 41 #[a, .int .i64 0, b, .int .i64 0] w (LivesPost w) := fun B a b w h k => is_ok a b (m + n) w h (k.limbs (by omega)) (by omega)
  have ld : (dig B32 (m - n)).length ≤ 60 := Nat.le_trans (dig_len_le b32_two (Nat.lt_of_le_of_lt (Nat.sub_le m n) (dig_len_lt b32_two))) l1
  have h44 := fun a b w (h : Limbs w a (dig B32 m)) (k : Limbs w b (dig B32 n)) => refSub_call a b m n w h.is k.is (by omega) hcmp
  have h41d : ∀ B a b w, N32 w a (m - n) → OwnLs B w b (dig B32 (m - n)) → Calls Try.prog 41 #[a, .int .i64 0, b, .int .i64 0] w (LivesPost w) := fun B a b w h k => is_ok a b (m - n) w h (k.limbs (by omega)) (by omega)
  rw [chk2, if_pos (chk_dig (by omega)), chk_dig (by omega)] at h40
  have hcv : 0 ≤ cmpN m n := by unfold cmpN; split <;> (try split) <;> omega
  generalize cmpN m n = r at *
  have hq : (r != r) = false := by simp
  have HC := Lib.hid hcut
  have HC' := Lib.hid hcut'
  have HLU := Lib.hid hlu
  have HLV := Lib.hid hlv
  have H37 := Lib.hid h37
  have H38 := Lib.hid h38
  have H39 := Lib.hid h39
  have H40 := Lib.hid h40
  have H41 := Lib.hid h41b
  have H42 := Lib.hid h42
  have H43 := Lib.hid h43
  have H41D := Lib.hid h41d
  have H44 := Lib.hid h44
  clear hcut hcut' hlu hlv h37 h38 h39 h40 h41 h41b h42 h43 hA hA' hL hL' hnil hnil' l1 l2 hp ls hm hn hcmp h41d h44 ld
  go_enter Try.func4, Try.ntmps4
  go_wp2_with (fail)
  refine (HC.out _ (Below.refl _ _)).mono ?_
  rintro e w1 ⟨va, rfl, hva, hb1⟩
  have ka := HLU.out _ _ _ hva
  go_wp2_with (fail)
  refine (HC'.out _ hb1).mono ?_
  rintro e w2 ⟨vb, rfl, hvb, hb2⟩
  have kb := HLV.out _ _ _ hvb
  have b2 := below_at hb1 (Nat.le_refl _) hb2
  have ka2 := ka.keep hb2
  go_wp2_with (first
    | (go_at_call 37; refine (H37.out _ _ _ ka2 kb).mono ?_; rintro e w3 ⟨vs, rfl, hvs, hb3⟩
       have b3 := below_at b2 (Nat.le_refl _) hb3
       have ka3 := ka2.keep hb3
       have kb3 := kb.keep hb3)
    | (go_at_call 38; refine (H38.out _ _ _ ka3 kb3).mono ?_; rintro e w4 ⟨vd, rfl, hvd, hb4⟩
       have b4 := below_at b3 (Nat.le_refl _) hb4
       have ka4 := ka3.keep hb4
       have kb4 := kb3.keep hb4
       have ks4 := hvs.is.keep hb4)
    | (go_at_call 39; refine (H39.out _ _ _ ka4 kb4).mono ?_; rintro e w5 ⟨rfl, hb5⟩
       have b5 := below_at b4 (Nat.le_refl _) hb5
       have ka5 := ka4.keep hb5
       have kb5 := kb4.keep hb5
       have ks5 := ks4.keep hb5)
    | (go_at_call 40; refine (H40.out _ _ _ ka5 kb5).mono ?_; rintro e w6 ⟨rfl, rfl⟩)
    | (go_at_call 30; refine (lives_any _).mono ?_; rintro e w7 ⟨rfl, hb7⟩
       have b7 := below_at b5 (Nat.le_refl _) hb7
       have ka7 := ka5.keep hb7
       have kb7 := kb5.keep hb7
       have ks7 := ks5.keep hb7)
    | (go_at_call 42; refine (H42.out _ _ _ ka7 kb7).mono ?_; rintro e w8 ⟨rfl, hb8⟩
       have b8 := below_at b7 (Nat.le_refl _) hb8
       have ka8 := ka7.keep hb8
       have kb8 := kb7.keep hb8
       have ks8 := ks7.keep hb8)
    | (go_at_call 43; refine (H43.out _ _ _ ka8 kb8).mono ?_; rintro e w9 ⟨v9, rfl, hv9, hb9⟩
       have b9 := below_at b8 (Nat.le_refl _) hb9
       have ka9 := ka8.keep hb9
       have kb9 := kb8.keep hb9
       have ks9 := ks8.keep hb9))
  refine (H41.out _ _ _ _ ks9 hv9).mono ?_
  rintro e w10 ⟨rfl, hb10⟩
  have b10 := below_at b9 (Nat.le_refl _) hb10
  have kd := (((((hvd.is.keep hb5).keep hb7).keep hb8).keep hb9).keep hb10)
  have ka10 := ka9.keep hb10
  have kb10 := kb9.keep hb10
  go_wp2_with (fail)
  refine (H44.out _ _ _ ka10 kb10).mono ?_
  rintro e w11 ⟨v11, rfl, hv11, hb11⟩
  have b11 := below_at b10 (Nat.le_refl _) hb11
  go_wp2_with (fail)
  refine (H41D.out _ _ _ _ (kd.keep hb11) hv11).mono ?_
  rintro e w12 ⟨rfl, hb12⟩
  have b12 := below_at b11 (Nat.le_refl _) hb12
  go_wp2
  go_ret
  exact ⟨rfl, b12⟩

/-- The law NatAdds, for whatever limbs. -/
theorem adds_walk (A A' : Option Addr) (c c' L L' : Nat) (xs ys : List Nat) (w : World) (hA : Nums .u32 w A xs) (hA' : Nums .u32 w A' ys) (hlow : Low B32 xs) (hlow' : Low B32 ys) (hL : L = xs.length) (hL' : L' = ys.length) (hc : L ≤ c) (hc' : L' ≤ c') (hnil : A = none → c = 0) (hnil' : A' = none → c' = 0) :
    Calls Try.prog 4 #[.slice A L c, .slice A' L' c'] w (LivesPost w) := by
  by_cases h0 : chk2 (xs.take 60) (ys.take 60) = 0
  · have h1 : chk (xs.take 60) = 0 ∧ chk (ys.take 60) = 0 := by
      unfold chk2 at h0
      split at h0
      · rename_i h; exact ⟨h, h0⟩
      · rename_i h; exact absurd h0 h
    have hm := chk_zero (hlow.take 60) h1.1
    have hn := chk_zero (hlow'.take 60) h1.2
    rcases Nat.lt_or_ge (val B32 (xs.take 60)) (val B32 (ys.take 60)) with h2 | h2
    · exact adds_lt A A' c c' L L' _ _ xs ys w hA hA' hL hL' hc hc' hnil hnil' hm hn h2
    · exact adds_ge A A' c c' L L' _ _ xs ys w hA hA' hL hL' hc hc' hnil hnil' hm hn h2
  · exact adds_bad A A' c c' L L' xs ys w hA hA' hL hL' hc hc' hnil hnil' h0
end Go.Proofs.Ytaegkhdkhgemmaa
