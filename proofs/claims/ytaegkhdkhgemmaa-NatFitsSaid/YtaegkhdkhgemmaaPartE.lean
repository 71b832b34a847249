/- Part of the proof of NatFits: BitsR, RefS, RefOf, ChecksW, Subs, DivW, KarLaws, KarW, Kara, KarQ, Blk, MulAll. -/
import Derived.Test.YtaegkhdkhgemmaaPartD
import Derived.Test.YtaegkhdkhgemmaaPartC
import Derived.Test.YtaegkhdkhgemmaaPartB
import Derived.StillTailTactics
namespace Go.Proofs.Ytaegkhdkhgemmaa
open Go.RowKit Num

set_option maxHeartbeats 1000000 in
set_option maxRecDepth 100000 in
theorem bits_ok (a : Value) (n : Nat) (w : World) (ha : N32 w a n) (hl : (dig B32 n).length ≤ 262144) : Calls Try.prog 28 #[a] w (Ret2 w (.int .i64 (nbits n : Nat)) (.int .i64 0)) := by
  have hc := checkAll_any w.heap.size 1 1 _ _ (nats1 (Limbs.num ha (by omega))) rfl (by omega)
  rw [chkAll1, chk_dig hl] at hc
  have hbA := below_new w (.cells #[a] 23)
  have HC := Lib.hid hc
  have hpost := fun L v => @nbits_limbs n L v
  obtain ⟨A, c, rfl, _, hA⟩ := ha
  clear hc hbA
  obtain ⟨xs, hxs⟩ : ∃ xs, dig B32 n = xs := ⟨_, rfl⟩
  have hlow := low_dig b32_two n
  have hz : xs.length = 0 → n = 0 := fun h => (dig_nil_iff b32_two).1 (by rw [hxs]; exact List.eq_nil_of_length_eq_zero h)
  have hpost' : ∀ L v, xs.length = L + 1 → xs[L]? = some v → nbits n = 32 * L + nbits v := fun L v h1 h2 => hpost L v (by rw [← h1, ← hxs]; rfl) (by rw [← h2, ← hxs]; rfl)
  rw [hxs] at hlow hl hA HC ⊢
  clear hxs hpost
  obtain ⟨L, hL⟩ : ∃ L, xs.length = L := ⟨_, rfl⟩
  rw [hL] at hz hl HC ⊢
  have HP := Lib.hid hpost'
  have HL := Lib.hid hL
  clear hpost' hL
  by_cases h0 : L = 0
  · have hn0 := hz h0
    subst hn0
    subst h0
    clear hz hA hlow
    rw [nbits_zero]
    go_enter Try.func28, Try.ntmps28
    go_wp2_with (go_at_call 75; refine HC.out.mono ?_; rintro e w1 ⟨rfl, rfl⟩)
    go_ret2
    exact ⟨rfl, below_new _ _⟩
  · obtain ⟨K, rfl⟩ : ∃ K, L = K + 1 := ⟨L - 1, by omega⟩
    obtain ⟨g, off, v, rfl, hg, hv, hcv⟩ := hA.at_ (i := K) (by have := HL.out; omega)
    have hvl : v < B32 := hlow v (List.mem_of_getElem? hv)
    have hb32 : nbits v ≤ 32 := nbits_le (k := 32) hvl
    have hres := HP.out K v HL.out hv
    obtain ⟨r, hr⟩ : ∃ r, nbits n = r := ⟨_, rfl⟩
    rw [hr] at hres ⊢
    have hsh : ∀ i, (v : Int) / 2 ^ i = ((v / 2 ^ i : Nat) : Int) := fun i => by push_cast; rfl
    have hne : ∀ i, v / 2 ^ i ≠ 0 ↔ i < nbits v := fun i => shr_ne
    have HR := Lib.hid hres
    have HSH := Lib.hid hsh
    have HNE := Lib.hid hne
    have HV := Lib.hid hv
    have HRR := Lib.hid hr
    have hk0 : ((K : Int) + 1 == 0) = false := by simp; omega
    clear hres hsh hne hv hr hA hlow hz h0 hvl
    generalize nbits v = q at *
    go_enter Try.func28, Try.ntmps28
    go_wp2_with (go_at_call 75; refine HC.out.mono ?_; rintro e w1 ⟨rfl, rfl⟩)
    go_loop [6, 20] (fun ct t => ∃ i ct' : Nat, i ≤ 32 ∧ t = .int .i64 (i : Int) ∧ ct = .int .i64 (ct' : Int) ∧ Hid (ct' = min i q)) (fun _ t => 32 - (intOf t).toNat)
    case atStart => exact ⟨0, 0, by omega, rfl, rfl, Lib.hid (by simp)⟩
    case round =>
      obtain ⟨i, ct, hi, rfl, rfl, hct⟩ := hrel
      by_cases hlt : i < 32
      · have hs := HSH.out i
        by_cases hq : i < q
        · have hnz : v / 2 ^ i ≠ 0 := (HNE.out i).2 hq
          have hb : (((v / 2 ^ i : Nat) : Int) != 0) = true := by simp; omega
          rw [← hs] at hb
          have HNZ := Lib.hid hnz
          clear hnz hs
          go_wp2
          go_round
          case rel => exact ⟨i + 1, i + 1, by omega, by go_num, by go_num, Lib.hid (by omega)⟩
          case measure => simp [intOf]; omega
        · have hnz : v / 2 ^ i = 0 := by
            rcases Nat.eq_zero_or_pos (v / 2 ^ i) with h | h
            · exact h
            · exact absurd ((HNE.out i).1 (by omega)) hq
          have hb : (((v / 2 ^ i : Nat) : Int) != 0) = false := by rw [hnz]; rfl
          rw [← hs] at hb
          have HNZ := Lib.hid hnz
          clear hnz hs
          go_wp2
          go_round
          case rel => exact ⟨i + 1, ct, by omega, by go_num, rfl, Lib.hid (by have := hct.out; omega)⟩
          case measure => simp [intOf]; omega
      · have hct' : ct ≤ 32 := by have := hct.out; omega
        go_wp2
        go_ret2
        have e : (32 * (K : Int) + (ct : Int)) = (r : Int) := by have h1 := HR.out; have h2 := hct.out; omega
        refine ⟨?_, below_new _ _⟩
        rw [← e]
        rfl

set_option maxHeartbeats 1000000 in
set_option maxRecDepth 100000 in
theorem refBits_any (a : Value) (n : Nat) (w : World) (ha : N32 w a n) (hl : (dig B32 n).length ≤ 1000000000) : Calls Try.prog 36 #[a] w fun e w' => e = .returned (.int .i64 (nbits n : Nat)) ∧ w = w' := by
  have hpost := fun L v => @nbits_limbs n L v
  obtain ⟨A, c, rfl, _, hA⟩ := ha
  obtain ⟨xs, hxs⟩ : ∃ xs, dig B32 n = xs := ⟨_, rfl⟩
  have hlow := low_dig b32_two n
  have hz : xs.length = 0 → n = 0 := fun h => (dig_nil_iff b32_two).1 (by rw [hxs]; exact List.eq_nil_of_length_eq_zero h)
  have hpost' : ∀ L v, xs.length = L + 1 → xs[L]? = some v → nbits n = 32 * L + nbits v := fun L v h1 h2 => hpost L v (by rw [← h1, ← hxs]; rfl) (by rw [← h2, ← hxs]; rfl)
  rw [hxs] at hlow hl hA ⊢
  clear hxs hpost
  obtain ⟨L, hL⟩ : ∃ L, xs.length = L := ⟨_, rfl⟩
  rw [hL] at hz hl ⊢
  have HP := Lib.hid hpost'
  have HL := Lib.hid hL
  clear hpost' hL
  by_cases h0 : L = 0
  · have hn0 := hz h0
    subst hn0
    subst h0
    clear hz hA hlow
    rw [nbits_zero]
    go_enter Try.func36, Try.ntmps36
    go_wp2
    go_ret
    exact ⟨rfl, rfl⟩
  · obtain ⟨K, rfl⟩ : ∃ K, L = K + 1 := ⟨L - 1, by omega⟩
    obtain ⟨g, off, v, rfl, hg, hv, hcv⟩ := hA.at_ (i := K) (by have := HL.out; omega)
    have hvl : v < B32 := hlow v (List.mem_of_getElem? hv)
    have hb32 : nbits v ≤ 32 := nbits_le (k := 32) hvl
    have hres := HP.out K v HL.out hv
    obtain ⟨r, hr⟩ : ∃ r, nbits n = r := ⟨_, rfl⟩
    rw [hr] at hres ⊢
    have HR := Lib.hid hres
    have HV := Lib.hid hv
    have HRR := Lib.hid hr
    have HVL := Lib.hid hvl
    have hk0 : ((K : Int) + 1 == 0) = false := by simp; omega
    clear hres hv hr hA hlow hz h0 hvl
    obtain ⟨q, hq⟩ : ∃ q, nbits v = q := ⟨_, rfl⟩
    rw [hq] at hb32
    have HQ := Lib.hid hq
    clear hq
    go_enter Try.func36, Try.ntmps36
    go_wp2
    go_loop [3, 4] (fun ct t => ∃ u ct' : Nat, t = .int .u32 (u : Int) ∧ ct = .int .i64 (ct' : Int) ∧ ct' ≤ 32 ∧ Hid (u < B32) ∧ Hid (ct' + nbits u = q)) (fun _ t => (intOf t).toNat)
    case atStart => exact ⟨v, 0, rfl, rfl, by omega, HVL, Lib.hid (by rw [HQ.out]; omega)⟩
    case round =>
      obtain ⟨u, ct, rfl, rfl, hct32, hu32, hct⟩ := hrel
      by_cases hu : 0 < u
      · have hh := nbits_half (v := u) (by omega)
        have hc2 : ct + 1 + nbits (u / 2) = q := by have := hct.out; omega
        have hc3 : ct + 1 ≤ 32 := by omega
        have HC2 := Lib.hid hc2
        clear hh hc2
        go_wp2
        go_round
        case rel => exact ⟨u / 2, ct + 1, by congr 1; have := hu32.out; unfold B32 at this; omega, by go_num, hc3, Lib.hid (by have := hu32.out; omega), HC2⟩
        case measure => simp [intOf]; omega
      · have hu0 : u = 0 := by omega
        subst hu0
        have hq' : ct = q := by have := hct.out; rw [nbits_zero] at this; omega
        have HQ' := Lib.hid hq'
        clear hq' hct hu
        go_wp2
        go_ret
        have e : (32 * (K : Int) + (ct : Int)) = (r : Int) := by have h1 := HR.out; have h2 := HQ'.out; have h3 := HQ.out; omega
        exact ⟨ret_i e, rfl⟩
end Go.Proofs.Ytaegkhdkhgemmaa

namespace Go.Proofs.Ytaegkhdkhgemmaa
open Go.RowKit Num

theorem div_step {n k x : Nat} (hx : (dig B32 n)[k]? = some x) : n / B32 ^ (k + 1) * 4294967296 + x = n / B32 ^ k := by
  have e := dig_getElem? b32_two hx
  rw [Nat.pow_succ, ← Nat.div_div_eq_div_mul]
  have := Nat.mod_add_div (n / B32 ^ k) B32
  rw [← e] at this
  unfold B32 at *
  omega

set_option maxHeartbeats 1000000 in
set_option maxRecDepth 100000 in
theorem small_no (a : Value) (n : Nat) (w : World) (ha : N32 w a n) (hl : (dig B32 n).length ≤ 1000000000) (h2 : 2 < (dig B32 n).length) : Calls Try.prog 35 #[a] w (Ret2 w (.int .u64 0) (.bool false)) := by
  obtain ⟨A, c, rfl, _, hA⟩ := ha
  clear hA
  generalize (dig B32 n).length = L at *
  go_enter Try.func35, Try.ntmps35
  go_wp2
  go_ret2
  exact ⟨rfl, Below.refl _ _⟩

set_option maxHeartbeats 1000000 in
set_option maxRecDepth 100000 in
theorem small_ok (a : Value) (n : Nat) (w : World) (ha : N32 w a n) (hl : (dig B32 n).length ≤ 2) : Calls Try.prog 35 #[a] w (Ret2 w (.int .u64 (n : Nat)) (.bool true)) := by
  have hlt : n < B64 := by
    have h1 := dig_len_lt b32_two (n := n)
    have h2 := Nat.pow_le_pow_right b32_pos hl
    have : B32 ^ 2 = B64 := by decide
    omega
  obtain ⟨A, c, rfl, _, hA⟩ := ha
  have hstep := @div_step n
  have htop : n / B32 ^ (dig B32 n).length = 0 := div_pow_len b32_two (Nat.le_refl _)
  have hlow := low_dig b32_two n
  have HST : Hid (∀ k x, (dig B32 n)[k]? = some x → n / B32 ^ (k + 1) * 4294967296 + x = n / B32 ^ k) := fun k x h => hstep h
  have HTOP := Lib.hid htop
  have HLT := Lib.hid hlt
  clear hstep htop hlt
  obtain ⟨L, hL⟩ : ∃ L, (dig B32 n).length = L := ⟨_, rfl⟩
  rw [hL] at hl HTOP ⊢
  have HL := Lib.hid hL
  clear hL
  go_enter Try.func35, Try.ntmps35
  go_wp2
  go_loop [4, 5] (fun q t => ∃ k v : Nat, k ≤ L ∧ t = .int .i64 ((k : Int) - 1) ∧ q = .int .u64 (v : Int) ∧ Hid (v = n / B32 ^ k)) (fun _ t => (intOf t + 1).toNat)
  case atStart => exact ⟨L, 0, Nat.le_refl _, rfl, rfl, Lib.hid HTOP.out.symm⟩
  case round =>
    obtain ⟨k, v, hk, rfl, rfl, hv⟩ := hrel
    by_cases h0 : k = 0
    · subst h0
      go_wp2
      go_ret2
      have e : v = n := by have := hv.out; simpa using this
      subst e
      exact ⟨rfl, Below.refl _ _⟩
    · obtain ⟨j, rfl⟩ : ∃ j, k = j + 1 := ⟨k - 1, by omega⟩
      obtain ⟨g, off, x, rfl, hg, hx, hcx⟩ := hA.at_ (i := j) (by have := HL.out; omega)
      have hxl : x < B32 := hlow x (List.mem_of_getElem? hx)
      have he := HST.out j x hx
      rw [← hv.out] at he
      have hle : v * 4294967296 + x < B64 := by rw [he]; exact Nat.lt_of_le_of_lt (Nat.div_le_self _ _) HLT.out
      obtain ⟨p, hp⟩ : ∃ p, v * 4294967296 = p := ⟨_, rfl⟩
      have w1 : IntKind.u64.wrap ((v : Int) * 4294967296) = (p : Int) := by rw [IntKind.wrap_u64]; unfold B64 at hle; omega
      have w2 : IntKind.u64.wrap (x : Int) = (x : Int) := by rw [IntKind.wrap_u64]; unfold B32 at hxl; omega
      obtain ⟨s, hs⟩ : ∃ s, p + x = s := ⟨_, rfl⟩
      have w3 : IntKind.u64.wrap ((p : Int) + (x : Int)) = (s : Int) := by rw [IntKind.wrap_u64]; unfold B64 at hle; omega
      have hs2 : s = n / B32 ^ j := by rw [← he]; omega
      have HS2 := Lib.hid hs2
      have HX := Lib.hid hx
      have HP := Lib.hid hp
      have HS := Lib.hid hs
      have HE := Lib.hid he
      clear hs2 hx hp hs he hle hxl hA hlow
      go_wp2
      go_round
      case rel => exact ⟨j, s, by omega, by congr 1, rfl, HS2⟩
      case measure => simp [intOf]

set_option maxHeartbeats 1000000 in
set_option maxRecDepth 100000 in
theorem refTrim_any (A : Option Addr) (c n : Nat) (xs : List Nat) (w : World) (h : Nums .u32 w A xs) (hlow : Low B32 xs) (hn : n = xs.length) (hc : n ≤ 1000000000) :
    Calls Try.prog 80 #[.slice A n c] w (LsPost w (dig B32 (val B32 xs))) := by
  subst hn
  have fin : ∀ k, k ≤ xs.length → ZeroFrom xs k → (∀ v, 0 < k → xs[k - 1]? = some v → v ≠ 0) → xs.take k = dig B32 (val B32 xs) := fun k hk hz hn => trim_val b32_two hlow hk hz hn
  have FIN := Lib.hid fin
  clear fin
  obtain ⟨ds, hds⟩ : ∃ ds, dig B32 (val B32 xs) = ds := ⟨_, rfl⟩
  rw [hds] at FIN ⊢
  have HDS := Lib.hid hds
  clear hds hlow
  obtain ⟨i0, hi, hz0, hz1, hz2⟩ := info_parts info56
  have ho := own_empty w 56
  have hbA := below_new w (.cells #[] 56)
  have HO := Lib.hid ho
  have H := Lib.hid h
  clear ho
  go_enter Try.func80, Try.ntmps80
  go_wp2
  go_loop [3] (fun t => ∃ k : Nat, k ≤ xs.length ∧ t = .int .i64 k ∧ ZeroFrom xs k) (fun t => (intOf t).toNat)
  case atStart => exact ⟨xs.length, Nat.le_refl _, rfl, fun i v hv hi => by have := (List.getElem?_eq_some_iff.1 hv).1; omega⟩
  case round =>
    obtain ⟨k, hk, rfl, hz⟩ := hrel
    have hex : (∃ v, 0 < k ∧ xs[k - 1]? = some v ∧ v = 0) ∨ (∀ v, 0 < k → xs[k - 1]? = some v → v ≠ 0) := by
      by_cases hh : ∃ v, 0 < k ∧ xs[k - 1]? = some v ∧ v = 0
      · exact .inl hh
      · exact .inr fun v h1 h2 h3 => hh ⟨v, h1, h2, h3⟩
    rcases hex with ⟨v, hp, hv, hv0⟩ | hfin
    · obtain ⟨g, off, v', rfl, hg, hv', hc1⟩ := h.at_ (i := k - 1) (by omega)
      have e : v' = v := by rw [hv] at hv'; injection hv' with hv'; exact hv'.symm
      subst e
      have hq : ((v' : Int) == 0) = true := by simp [hv0]
      have HV := Lib.hid hv
      have H0 := Lib.hid hv0
      clear hv hv' hv0 h
      go_wp2
      go_round
      case rel =>
        refine ⟨k - 1, by omega, by congr 1; omega, fun i u hu hi => ?_⟩
        by_cases e : i = k - 1
        · have := HV.out; rw [e] at hu; rw [hu] at this; injection this with this; rw [this]; exact H0.out
        · exact hz i u hu (by omega)
      case measure => simp [intOf]; omega
    · have htk := FIN.out k hk hz hfin
      have HT := Lib.hid htk
      clear htk
      by_cases hp : 0 < k
      · obtain ⟨g, off, v, rfl, hg, hv, hc1⟩ := h.at_ (i := k - 1) (by omega)
        have hq : ((v : Int) == 0) = false := by have := hfin v hp hv; simp; omega
        have HV := Lib.hid hv
        clear hv h hfin
        go_wp2
        go_loopw [4, 5] (fun out t wr => ∃ m : Nat, m ≤ k ∧ t = .int .i64 (m : Int) ∧ wr.ownsRow w.heap.size 56 1 out m (ints .u32 (xs.take m)) ∧ Below w.heap.size w wr) (fun _ t _ => k - (intOf t).toNat)
        case atStart => exact ⟨0, Nat.zero_le _, rfl, HO.out, hbA⟩
        case round =>
          clear hbA HO
          obtain ⟨m, hm, rfl, hown, hbl⟩ := hrel
          by_cases hlt : m < k
          · obtain ⟨q, qo, u, e0, hq', hu, hcu⟩ := (H.out.keep hbl).at_ (i := m) (by omega)
            first | (injection e0 with e0; injection e0 with e1 e2 e3; subst e1; subst e2) | subst e0
            have htk2 : ints .u32 (xs.take m) ++ [.int .u32 (u : Int)] = ints .u32 (xs.take (m + 1)) := by
              have hml : m < xs.length := by omega
              rw [List.take_succ_eq_append_getElem hml, (List.getElem?_eq_some_iff.1 hu).2]; simp [ints]
            have HT2 := Lib.hid htk2
            have HU := Lib.hid hu
            clear htk2 hu
            go_wp2_with (at_builtin
                         refine wpList_append_own _ rfl _ _ 35 rfl w.heap.size 56 i0 (.int .u32 0) 1 4 Try.underlying35 hi hz0 hz1 hz2 rfl (by decide) _ m _ rfl (hown.alloc _) ⟨wr.heap.size, 0, none⟩ 1 1 [.int .u32 (u : Int)] rfl rfl (cell_one_new _ _ _) (ints_one .u32 [u]) ?c4 ?c5 (Nat.le_trans hbl.size (by simp)) ?_)
            case c4 => unfold maxLen; omega
            case c5 => omega
            intro v' w1 hown1 hgr1 _
            have hb1 : Below w.heap.size w w1 := (hbl.alloc hbl.size _).grown hgr1 (Nat.le_trans hbl.size (by simp)) (fun g' hg' => by
              rcases hown.2 with ⟨rfl, _⟩ | ⟨g2, cap, cur, rfl, hg2, _⟩
              · simp [Value.ownBlock] at hg'
              · simp [Value.ownBlock] at hg'; omega)
            rw [HT2.out] at hown1
            have H1 := Lib.hid hown1
            clear hown1 hown
            go_wp2
            go_roundw
            case rel => exact ⟨m + 1, by omega, by go_num, H1.out, hb1⟩
            case measure => simp [intOf]; omega
          · have hmk : m = k := by omega
            subst hmk
            clear hlt
            rw [HT.out] at hown
            have hlen : ds.length = m := by rw [← HT.out, List.length_take]; omega
            have HLEN := Lib.hid hlen
            have HOW := Lib.hid hown
            clear hlen hown
            go_wp2
            go_ret
            have := HOW.out
            rw [← HLEN.out] at this
            exact ⟨_, rfl, this, hbl⟩
      · clear h hfin
        go_wp2
        go_loopw [4, 5] (fun out t wr => ∃ m : Nat, m ≤ k ∧ t = .int .i64 (m : Int) ∧ wr.ownsRow w.heap.size 56 1 out m (ints .u32 (xs.take m)) ∧ Below w.heap.size w wr) (fun _ t _ => k - (intOf t).toNat)
        case atStart => exact ⟨0, Nat.zero_le _, rfl, HO.out, hbA⟩
        case round =>
          clear hbA HO
          obtain ⟨m, hm, rfl, hown, hbl⟩ := hrel
          by_cases hlt : m < k
          · exfalso; omega
          · have hmk : m = k := by omega
            subst hmk
            clear hlt
            rw [HT.out] at hown
            have hlen : ds.length = m := by rw [← HT.out, List.length_take]; omega
            have HLEN := Lib.hid hlen
            have HOW := Lib.hid hown
            clear hlen hown
            go_wp2
            go_ret
            have := HOW.out
            rw [← HLEN.out] at this
            exact ⟨_, rfl, this, hbl⟩
end Go.Proofs.Ytaegkhdkhgemmaa

namespace Go.Proofs.Ytaegkhdkhgemmaa
open Go.RowKit Num

set_option maxHeartbeats 1000000 in
set_option maxRecDepth 100000 in
theorem refOf_any (v : Nat) (hv : v < B64) (w : World) : Calls Try.prog 34 #[.int .u64 (v : Int)] w (LsPost w (dig B32 v)) := by
  obtain ⟨lo, hlo⟩ : ∃ lo, v % 4294967296 = lo := ⟨_, rfl⟩
  obtain ⟨hi, hhi⟩ : ∃ hi, v / 4294967296 = hi := ⟨_, rfl⟩
  have l1 : lo < B32 := by unfold B32; omega
  have l2 : hi < B32 := by unfold B32; unfold B64 at hv; omega
  have e1 : (v : Int) % 4294967296 = (lo : Int) := by omega
  have e2 : (v : Int) / 4294967296 = (hi : Int) := by omega
  have w1 : IntKind.u32.wrap (lo : Int) = (lo : Int) := by rw [IntKind.wrap_u32']; unfold B32 at l1; omega
  have w2 : IntKind.u32.wrap (hi : Int) = (hi : Int) := by rw [IntKind.wrap_u32']; unfold B32 at l2; omega
  have w3 : IntKind.u64.wrap (hi : Int) = (hi : Int) := by rw [IntKind.wrap_u64]; unfold B32 at l2; omega
  have w4 : (hi : Int) % 4294967296 = (hi : Int) := by unfold B32 at l2; omega
  have hval : val B32 [lo, hi] = v := by simp only [val]; unfold B32; omega
  have hlow : Low B32 [lo, hi] := Low.cons l1 (Low.cons l2 (Low.nil _))
  have hl := new_limbs w [lo, hi] (by simp)
  have hbA := below_new w (.cells (ints .u32 [lo, hi]).toArray 56)
  have ht : Calls Try.prog 80 #[.slice (some ⟨w.heap.size, 0, none⟩) 2 2] (w.alloc (.cells #[.int .u32 (lo : Int), .int .u32 (hi : Int)] 56)) (LsPost (w.alloc (.cells #[.int .u32 (lo : Int), .int .u32 (hi : Int)] 56)) (dig B32 v)) := by
    obtain ⟨A, c, e, _, _, hn⟩ := hl
    injection e with e1 e2 e3
    subst e1
    have := refTrim_any _ 2 2 [lo, hi] _ hn hlow rfl (by omega)
    rw [hval] at this
    exact this
  have HT := Lib.hid ht
  have H1 := Lib.hid hlo
  have H2 := Lib.hid hhi
  clear ht hl hval hlow hlo hhi l1 l2 hv
  go_enter Try.func34, Try.ntmps34
  go_wp2_with (go_at_call 80; refine HT.out.mono ?_; rintro e w1 ⟨r, rfl, hr, hb⟩)
  go_ret
  refine ⟨_, rfl, ?_, below_at hbA (Nat.le_refl _) hb⟩
  obtain ⟨q1, q2⟩ := hr
  refine ⟨q1, ?_⟩
  rcases q2 with q2 | ⟨g, c, cur, e, hg, r⟩
  · exact .inl q2
  · exact .inr ⟨g, c, cur, e, by simp at hg; omega, r⟩
end Go.Proofs.Ytaegkhdkhgemmaa

namespace Go.Proofs.Ytaegkhdkhgemmaa
open Go.RowKit Num

theorem check_l (a : Value) (xs : List Nat) (w : World) (h : Limbs w a xs) : Calls Try.prog 31 #[a] w fun e w' => e = .returned (.int .i64 (chk xs)) ∧ w = w' := by
  obtain ⟨A, c, rfl, _, hl, hA⟩ := h
  exact check_any A c _ xs w hA rfl hl
theorem refCheck_l (a : Value) (xs : List Nat) (w : World) (h : Limbs w a xs) : Calls Try.prog 27 #[a] w fun e w' => e = .returned (.int .i64 (chk xs)) ∧ w = w' := by
  obtain ⟨A, c, rfl, _, hl, hA⟩ := h
  exact refCheck_any A c _ xs w hA rfl hl
/-- Limbs that Check takes are the digits of a number. -/
theorem chk_zero {xs : List Nat} (hlow : Low B32 xs) (h : chk xs = 0) : xs = dig B32 (val B32 xs) := by
  refine (dig_val b32_two hlow ((neat_iff xs).2 fun hl h0 => ?_)).symm
  unfold chk at h
  split at h
  · cases h
  · rw [if_pos ⟨hl, by rw [List.getD_eq_getElem?_getD, List.getElem?_eq_getElem (by omega)]; exact h0⟩] at h
    cases h
theorem len_u64 {v : Nat} (hv : v < B64) : (dig B32 v).length ≤ 2 := by
  have e : B32 ^ 2 = B64 := by decide
  exact dig_len_le b32_two (by omega)
theorem same_of (a b : Value) (v : Nat) (w : World) (ha : N32 w a v) (hb : Limbs w b (dig B32 v)) (hv : v < B64) : Calls Try.prog 32 #[a, b] w fun e w' => e = .returned (.bool true) ∧ Below w.heap.size w w' := by
  have hl := len_u64 hv
  have := same_nums a b _ _ w (Limbs.num ha (by omega)) hb
  rw [decide_eq_true rfl] at this
  exact this

set_option maxHeartbeats 2000000 in
set_option maxRecDepth 100000 in
theorem checks_bad (A : Option Addr) (c L v : Nat) (xs : List Nat) (w : World) (hA : Nums .u32 w A xs) (hL : L = xs.length) (hc : L ≤ c) (hnil : A = none → c = 0) (hv : v < B64)
    (hbad : chk (xs.take 40) ≠ 0) : Calls Try.prog 3 #[.slice A L c, .int .u64 (v : Int)] w (LivesPost w) := by
  have hcut := cut_any A c L 40 xs w hA hL hc hnil (by omega)
  have hlen : (xs.take 40).length ≤ 40 := by rw [List.length_take]; omega
  generalize xs.take 40 = ys at *
  have hlim : ∀ B w' a, OwnLs B w' a ys → Limbs w' a ys := fun B w' a h => h.limbs (by omega)
  have hof := fun w => of_any v hv w
  have hrof := fun w => refOf_any v hv w
  have hlim2 : ∀ B w' a, OwnLs B w' a (dig B32 v) → Limbs w' a (dig B32 v) := fun B w' a h => h.limbs (Nat.le_trans (len_u64 hv) (by omega))
  have hsame := fun a b w h1 h2 => same_of a b v w h1 h2 hv
  have hb28 := fun a w h => bits_bad a ys w h hbad
  have hb29 := fun a w h => uint64_bad a ys w h hbad
  have h27 := fun a w h => refCheck_l a ys w h
  have h31 := fun a w h => check_l a ys w h
  obtain ⟨r, hr⟩ : ∃ r, chk ys = r := ⟨_, rfl⟩
  rw [hr] at hbad hb28 hb29 h27 h31
  have hq : (r != 0) = true := by simp [hbad]
  have hq0 : (r == r) = true := by simp
  have hq1 : (r != r) = false := by simp
  have HCUT := Lib.hid hcut
  have HLIM := Lib.hid hlim
  have HLIM2 := Lib.hid hlim2
  have HOF := Lib.hid hof
  have HROF := Lib.hid hrof
  have HSAME := Lib.hid hsame
  have H28 := Lib.hid hb28
  have H29 := Lib.hid hb29
  have H27 := Lib.hid h27
  have H31 := Lib.hid h31
  have HR := Lib.hid hr
  have HB := Lib.hid hbad
  clear hcut hlim hlim2 hof hrof hsame hb28 hb29 h27 h31 hr hbad hA hL hlen hnil hv
  go_enter Try.func3, Try.ntmps3
  go_wp2_with (first
    | (go_at_call 26; refine HCUT.out.mono ?_; rintro e w1 ⟨va, rfl, hva, hb1⟩
       have ka := HLIM.out _ _ _ hva)
    | (go_at_call 27; refine (H27.out _ _ ka).mono ?_; rintro e w2 ⟨rfl, rfl⟩)
    | (go_at_call 28; refine (H28.out _ _ ka).mono ?_; rintro e w2 ⟨rfl, hb2⟩
       have b2 := below_at hb1 (Nat.le_refl _) hb2
       have ka2 := ka.keep hb2)
    | (go_at_call 29; refine (H29.out _ _ ka2).mono ?_; rintro e w3 ⟨rfl, hb3⟩
       have b3 := below_at b2 (Nat.le_refl _) hb3
       have ka3 := ka2.keep hb3)
    | (go_at_call 30; refine (lives_any _).mono ?_; rintro e w4 ⟨rfl, hb4⟩
       have b4 := below_at b3 (Nat.le_refl _) hb4
       have ka4 := ka3.keep hb4)
    | (go_at_call 31; refine (H31.out _ _ ka4).mono ?_; rintro e w5 ⟨rfl, rfl⟩)
    | (go_at_call 33; refine (HOF.out _).mono ?_; rintro e w6 ⟨v6, rfl, hv6, hb6⟩
       have b6 := below_at b4 (Nat.le_refl _) hb6)
    | (go_at_call 34; refine (HROF.out _).mono ?_; rintro e w7 ⟨v7, rfl, hv7, hb7⟩
       have b7 := below_at b6 (Nat.le_refl _) hb7
       have k6 := hv6.is.keep hb7
       have k7 := HLIM2.out _ _ _ hv7)
    | (go_at_call 32; refine (HSAME.out _ _ _ k6 k7).mono ?_; rintro e w8 ⟨rfl, hb8⟩
       have b8 := below_at b7 (Nat.le_refl _) hb8))
  go_ret
  exact ⟨rfl, b8⟩
set_option maxHeartbeats 2000000 in
set_option maxRecDepth 100000 in
theorem checks_ok2 (A : Option Addr) (c L v n : Nat) (xs : List Nat) (w : World) (hA : Nums .u32 w A xs) (hL : L = xs.length) (hc : L ≤ c) (hnil : A = none → c = 0) (hv : v < B64)
    (hn : xs.take 40 = dig B32 n) (h2 : (dig B32 n).length ≤ 2) : Calls Try.prog 3 #[.slice A L c, .int .u64 (v : Int)] w (LivesPost w) := by
  have hcut := cut_any A c L 40 xs w hA hL hc hnil (by omega)
  have hlen : (xs.take 40).length ≤ 40 := by rw [List.length_take]; omega
  rw [hn] at hcut hlen
  have hlim : ∀ B w' a, OwnLs B w' a (dig B32 n) → Limbs w' a (dig B32 n) := fun B w' a h => h.limbs (by omega)
  have hof := fun w => of_any v hv w
  have hrof := fun w => refOf_any v hv w
  have hlim2 : ∀ B w' a, OwnLs B w' a (dig B32 v) → Limbs w' a (dig B32 v) := fun B w' a h => h.limbs (Nat.le_trans (len_u64 hv) (by omega))
  have hsame := fun a b w h1 h2 => same_of a b v w h1 h2 hv
  have hb28 := fun a w (h : Limbs w a (dig B32 n)) => bits_ok a n w h.is (by omega)
  have hb29 := fun a w (h : Limbs w a (dig B32 n)) => uint64_ok a n w h.is h2
  have h27 := fun a w h => refCheck_l a (dig B32 n) w h
  have h31 := fun a w h => check_l a (dig B32 n) w h
  have h35 := fun a w (h : Limbs w a (dig B32 n)) => small_ok a n w h.is h2
  have h36 := fun a w (h : Limbs w a (dig B32 n)) => refBits_any a n w h.is (by omega)
  rw [chk_dig (n := n) (by omega)] at h27 h31
  generalize nbits n = r at *
  have HCUT := Lib.hid hcut
  have HLIM := Lib.hid hlim
  have HLIM2 := Lib.hid hlim2
  have HOF := Lib.hid hof
  have HROF := Lib.hid hrof
  have HSAME := Lib.hid hsame
  have H28 := Lib.hid hb28
  have H29 := Lib.hid hb29
  have H27 := Lib.hid h27
  have H31 := Lib.hid h31
  have H35 := Lib.hid h35
  have H36 := Lib.hid h36
  clear hcut hlim hlim2 hof hrof hsame hb28 hb29 h27 h31 h35 h36 hA hL hlen hnil hv hn h2
  go_enter Try.func3, Try.ntmps3
  go_wp2_with (first
    | (go_at_call 26; refine HCUT.out.mono ?_; rintro e w1 ⟨va, rfl, hva, hb1⟩
       have ka := HLIM.out _ _ _ hva)
    | (go_at_call 27; refine (H27.out _ _ ka).mono ?_; rintro e w2 ⟨rfl, rfl⟩)
    | (go_at_call 28; refine (H28.out _ _ ka).mono ?_; rintro e w2 ⟨rfl, hb2⟩
       have b2 := below_at hb1 (Nat.le_refl _) hb2
       have ka2 := ka.keep hb2)
    | (go_at_call 29; refine (H29.out _ _ ka2).mono ?_; rintro e w3 ⟨rfl, hb3⟩
       have b3 := below_at b2 (Nat.le_refl _) hb3
       have ka3 := ka2.keep hb3)
    | (go_at_call 30; refine (lives_any _).mono ?_; rintro e w4 ⟨rfl, hb4⟩
       have b4 := below_at b3 (Nat.le_refl _) hb4
       have ka4 := ka3.keep hb4)
    | (go_at_call 31; refine (H31.out _ _ ka4).mono ?_; rintro e w5 ⟨rfl, rfl⟩)
    | (go_at_call 33; refine (HOF.out _).mono ?_; rintro e w6 ⟨v6, rfl, hv6, hb6⟩
       have b6 := below_at b4 (Nat.le_refl _) hb6
       have ka6 := ka4.keep hb6)
    | (go_at_call 34; refine (HROF.out _).mono ?_; rintro e w7 ⟨v7, rfl, hv7, hb7⟩
       have b7 := below_at b6 (Nat.le_refl _) hb7
       have k6 := hv6.is.keep hb7
       have k7 := HLIM2.out _ _ _ hv7
       have ka7 := ka6.keep hb7)
    | (go_at_call 32; refine (HSAME.out _ _ _ k6 k7).mono ?_; rintro e w8 ⟨rfl, hb8⟩
       have b8 := below_at b7 (Nat.le_refl _) hb8
       have ka8 := ka7.keep hb8)
    | (go_at_call 35; refine (H35.out _ _ ka8).mono ?_; rintro e w9 ⟨rfl, hb9⟩
       have b9 := below_at b8 (Nat.le_refl _) hb9
       have ka9 := ka8.keep hb9)
    | (go_at_call 36; refine (H36.out _ _ ka9).mono ?_; rintro e w10 ⟨rfl, rfl⟩))
  go_ret
  exact ⟨rfl, b9⟩

set_option maxHeartbeats 2000000 in
set_option maxRecDepth 100000 in
theorem checks_ok3 (A : Option Addr) (c L v n : Nat) (xs : List Nat) (w : World) (hA : Nums .u32 w A xs) (hL : L = xs.length) (hc : L ≤ c) (hnil : A = none → c = 0) (hv : v < B64)
    (hn : xs.take 40 = dig B32 n) (h2 : 2 < (dig B32 n).length) : Calls Try.prog 3 #[.slice A L c, .int .u64 (v : Int)] w (LivesPost w) := by
  have hcut := cut_any A c L 40 xs w hA hL hc hnil (by omega)
  have hlen : (xs.take 40).length ≤ 40 := by rw [List.length_take]; omega
  rw [hn] at hcut hlen
  have hlim : ∀ B w' a, OwnLs B w' a (dig B32 n) → Limbs w' a (dig B32 n) := fun B w' a h => h.limbs (by omega)
  have hof := fun w => of_any v hv w
  have hrof := fun w => refOf_any v hv w
  have hlim2 : ∀ B w' a, OwnLs B w' a (dig B32 v) → Limbs w' a (dig B32 v) := fun B w' a h => h.limbs (Nat.le_trans (len_u64 hv) (by omega))
  have hsame := fun a b w h1 h2 => same_of a b v w h1 h2 hv
  have hb28 := fun a w (h : Limbs w a (dig B32 n)) => bits_ok a n w h.is (by omega)
  have hb29 := fun a w (h : Limbs w a (dig B32 n)) => uint64_range a n w h.is (by omega) h2
  have h27 := fun a w h => refCheck_l a (dig B32 n) w h
  have h31 := fun a w h => check_l a (dig B32 n) w h
  have h35 := fun a w (h : Limbs w a (dig B32 n)) => small_no a n w h.is (by omega) h2
  have h36 := fun a w (h : Limbs w a (dig B32 n)) => refBits_any a n w h.is (by omega)
  rw [chk_dig (n := n) (by omega)] at h27 h31
  generalize nbits n = r at *
  have HCUT := Lib.hid hcut
  have HLIM := Lib.hid hlim
  have HLIM2 := Lib.hid hlim2
  have HOF := Lib.hid hof
  have HROF := Lib.hid hrof
  have HSAME := Lib.hid hsame
  have H28 := Lib.hid hb28
  have H29 := Lib.hid hb29
  have H27 := Lib.hid h27
  have H31 := Lib.hid h31
  have H35 := Lib.hid h35
  have H36 := Lib.hid h36
  clear hcut hlim hlim2 hof hrof hsame hb28 hb29 h27 h31 h35 h36 hA hL hlen hnil hv hn h2
  go_enter Try.func3, Try.ntmps3
  go_wp2_with (first
    | (go_at_call 26; refine HCUT.out.mono ?_; rintro e w1 ⟨va, rfl, hva, hb1⟩
       have ka := HLIM.out _ _ _ hva)
    | (go_at_call 27; refine (H27.out _ _ ka).mono ?_; rintro e w2 ⟨rfl, rfl⟩)
    | (go_at_call 28; refine (H28.out _ _ ka).mono ?_; rintro e w2 ⟨rfl, hb2⟩
       have b2 := below_at hb1 (Nat.le_refl _) hb2
       have ka2 := ka.keep hb2)
    | (go_at_call 29; refine (H29.out _ _ ka2).mono ?_; rintro e w3 ⟨rfl, hb3⟩
       have b3 := below_at b2 (Nat.le_refl _) hb3
       have ka3 := ka2.keep hb3)
    | (go_at_call 30; refine (lives_any _).mono ?_; rintro e w4 ⟨rfl, hb4⟩
       have b4 := below_at b3 (Nat.le_refl _) hb4
       have ka4 := ka3.keep hb4)
    | (go_at_call 31; refine (H31.out _ _ ka4).mono ?_; rintro e w5 ⟨rfl, rfl⟩)
    | (go_at_call 33; refine (HOF.out _).mono ?_; rintro e w6 ⟨v6, rfl, hv6, hb6⟩
       have b6 := below_at b4 (Nat.le_refl _) hb6
       have ka6 := ka4.keep hb6)
    | (go_at_call 34; refine (HROF.out _).mono ?_; rintro e w7 ⟨v7, rfl, hv7, hb7⟩
       have b7 := below_at b6 (Nat.le_refl _) hb7
       have k6 := hv6.is.keep hb7
       have k7 := HLIM2.out _ _ _ hv7
       have ka7 := ka6.keep hb7)
    | (go_at_call 32; refine (HSAME.out _ _ _ k6 k7).mono ?_; rintro e w8 ⟨rfl, hb8⟩
       have b8 := below_at b7 (Nat.le_refl _) hb8
       have ka8 := ka7.keep hb8)
    | (go_at_call 35; refine (H35.out _ _ ka8).mono ?_; rintro e w9 ⟨rfl, hb9⟩
       have b9 := below_at b8 (Nat.le_refl _) hb9
       have ka9 := ka8.keep hb9)
    | (go_at_call 36; refine (H36.out _ _ ka9).mono ?_; rintro e w10 ⟨rfl, rfl⟩))
  go_ret
  exact ⟨rfl, b9⟩

/-- The law NatChecks, for whatever limbs and whatever word. -/
theorem checks_walk (A : Option Addr) (c L v : Nat) (xs : List Nat) (w : World) (hA : Nums .u32 w A xs) (hlow : Low B32 xs) (hL : L = xs.length) (hc : L ≤ c) (hnil : A = none → c = 0) (hv : v < B64) :
    Calls Try.prog 3 #[.slice A L c, .int .u64 (v : Int)] w (LivesPost w) := by
  by_cases h0 : chk (xs.take 40) = 0
  · have hn := chk_zero (hlow.take 40) h0
    rcases Nat.lt_or_ge 2 (dig B32 (val B32 (xs.take 40))).length with h2 | h2
    · exact checks_ok3 A c L v _ xs w hA hL hc hnil hv hn h2
    · exact checks_ok2 A c L v _ xs w hA hL hc hnil hv hn h2
  · exact checks_bad A c L v xs w hA hL hc hnil hv h0
end Go.Proofs.Ytaegkhdkhgemmaa

namespace Go.Proofs.Ytaegkhdkhgemmaa
open Go.RowKit Num

theorem cmp64_call (a b : Value) (m n : Nat) (w : World) (ha : W64 w a m) (hb : W64 w b n) (hm : (dig B64 m).length ≤ 1000000000) (hn : (dig B64 n).length ≤ 1000000000) :
    Calls Try.prog 83 #[a, b] w fun e w' => e = .returned (.int .i64 (cmpN m n)) ∧ Below w.heap.size w w' := by
  obtain ⟨A, c, rfl, _, hA⟩ := ha
  obtain ⟨A', c', rfl, _, hA'⟩ := hb
  exact compare83 A A' c c' _ _ m n w hA hA' rfl rfl (by omega) (by omega)

set_option maxHeartbeats 1000000 in
set_option maxRecDepth 100000 in
theorem sub_ok (a b : Value) (m n : Nat) (w : World) (ha : N32 w a m) (hb : N32 w b n) (hm : (dig B32 m).length ≤ 262144) (hn : (dig B32 n).length ≤ 262144) (hle : n ≤ m) : Calls Try.prog 38 #[a, b] w (NatOk w (m - n)) := by
  have hc := checkAll_any w.heap.size 2 2 _ _ (nats2 (Limbs.num ha (by omega)) (Limbs.num hb (by omega))) rfl (by omega)
  rw [chkAll2, chk2, if_pos (chk_dig hm), chk_dig hn] at hc
  have hbA := below_new w (.cells #[a, b] 23)
  have ha1 := ha.keep hbA
  have hb1 := hb.keep hbA
  have hf1 := fun w' (h : N32 w' a m) => fromNat_any a m w' h (by omega)
  have hf2 := fun w' (h : N32 w' b n) => fromNat_any b n w' h (by omega)
  have lm := words_le (n := m) (K := 131072) hm
  have ln := words_le (n := n) (K := 131072) hn
  have hcm := fun v u w' (h : W64 w' v m) (k : W64 w' u n) => cmp64_call v u m n w' h k (by omega) (by omega)
  have hpr := fun v u w' (h : W64 w' v m) (k : W64 w' u n) => diff_any v u m n w' h k (by omega) hle
  have hnt := fun v w' (h : W64 w' v (m - n)) => nat_any v (m - n) w' h (Nat.le_trans (dig_len_mono (Nat.sub_le m n)) (by omega))
  have hcv : 0 ≤ cmpN m n := by unfold cmpN; split <;> (try split) <;> omega
  generalize cmpN m n = r at *
  have HC := Lib.hid hc
  have HA := Lib.hid ha1
  have HB := Lib.hid hb1
  have HF1 := Lib.hid hf1
  have HF2 := Lib.hid hf2
  have HP := Lib.hid hpr
  have HN := Lib.hid hnt
  have HCM := Lib.hid hcm
  obtain ⟨A, c, rfl, _⟩ := ha
  obtain ⟨A', c', rfl, _⟩ := hb
  clear hc ha1 hb1 hf1 hf2 hpr hle hnt lm ln hcm
  generalize (dig B32 m).length = L at *
  generalize (dig B32 n).length = L' at *
  go_enter Try.func38, Try.ntmps38
  go_wp2_with (go_at_call 75; refine HC.out.mono ?_; rintro e w1 ⟨rfl, rfl⟩)
  go_wp2_with (fail)
  refine (HF1.out _ HA.out).mono ?_
  rintro e w1 ⟨v1, rfl, hv1, hb1⟩
  go_wp2_with (fail)
  refine (HF2.out _ (HB.out.keep hb1)).mono ?_
  rintro e w2 ⟨v2, rfl, hv2, hb2⟩
  have k1 := hv1.is.keep hb2
  have k2 := hv2.is
  go_wp2_with (fail)
  refine (HCM.out _ _ _ k1 k2).mono ?_
  rintro e w3 ⟨rfl, hb3⟩
  go_wp2_with (fail)
  refine (HP.out _ _ _ (k1.keep hb3) (k2.keep hb3)).mono ?_
  rintro e w4 ⟨v4, rfl, hv4, hb4⟩
  go_wp2_with (fail)
  refine (HN.out _ _ hv4.is).mono ?_
  rintro e w5 ⟨v5, rfl, hv5, hb5⟩
  go_wp2
  go_ret2
  have b1 := below_at hbA (Nat.le_refl _) hb1
  have b2 := below_at b1 (Nat.le_refl _) hb2
  have b3 := below_at b2 (Nat.le_refl _) hb3
  have b4 := below_at b3 (Nat.le_refl _) hb4
  exact ⟨_, rfl, hv5.mono b4.size, below_at b4 (Nat.le_refl _) hb5⟩

set_option maxHeartbeats 1000000 in
set_option maxRecDepth 100000 in
theorem sub_range (a b : Value) (m n : Nat) (w : World) (ha : N32 w a m) (hb : N32 w b n) (hm : (dig B32 m).length ≤ 262144) (hn : (dig B32 n).length ≤ 262144) (hlt : m < n) : Calls Try.prog 38 #[a, b] w (NatErr w 5) := by
  have hc := checkAll_any w.heap.size 2 2 _ _ (nats2 (Limbs.num ha (by omega)) (Limbs.num hb (by omega))) rfl (by omega)
  rw [chkAll2, chk2, if_pos (chk_dig hm), chk_dig hn] at hc
  have hbA := below_new w (.cells #[a, b] 23)
  have ha1 := ha.keep hbA
  have hb1 := hb.keep hbA
  have hf1 := fun w' (h : N32 w' a m) => fromNat_any a m w' h (by omega)
  have hf2 := fun w' (h : N32 w' b n) => fromNat_any b n w' h (by omega)
  have lm := words_le (n := m) (K := 131072) hm
  have ln := words_le (n := n) (K := 131072) hn
  have hcm := fun v u w' (h : W64 w' v m) (k : W64 w' u n) => cmp64_call v u m n w' h k (by omega) (by omega)
  rw [cmpN_lt hlt] at hcm
  have HC := Lib.hid hc
  have HA := Lib.hid ha1
  have HB := Lib.hid hb1
  have HF1 := Lib.hid hf1
  have HF2 := Lib.hid hf2
  have HCM := Lib.hid hcm
  obtain ⟨A, c, rfl, _⟩ := ha
  obtain ⟨A', c', rfl, _⟩ := hb
  clear hc ha1 hb1 hf1 hf2 lm ln hcm hlt
  generalize (dig B32 m).length = L at *
  generalize (dig B32 n).length = L' at *
  go_enter Try.func38, Try.ntmps38
  go_wp2_with (go_at_call 75; refine HC.out.mono ?_; rintro e w1 ⟨rfl, rfl⟩)
  go_wp2_with (fail)
  refine (HF1.out _ HA.out).mono ?_
  rintro e w1 ⟨v1, rfl, hv1, hb1⟩
  go_wp2_with (fail)
  refine (HF2.out _ (HB.out.keep hb1)).mono ?_
  rintro e w2 ⟨v2, rfl, hv2, hb2⟩
  have k1 := hv1.is.keep hb2
  have k2 := hv2.is
  go_wp2_with (fail)
  refine (HCM.out _ _ _ k1 k2).mono ?_
  rintro e w3 ⟨rfl, hb3⟩
  go_wp2
  go_ret2
  have b1 := below_at hbA (Nat.le_refl _) hb1
  have b2 := below_at b1 (Nat.le_refl _) hb2
  exact ⟨rfl, below_at b2 (Nat.le_refl _) hb3⟩

set_option maxHeartbeats 400000 in
theorem both_any (a b : Value) (xs ys : List Nat) (w : World) (ha : Limbs w a xs) (hb : Limbs w b ys) : Calls Try.prog 40 #[a, b] w fun e w' => e = .returned (.int .i64 (chk2 xs ys)) ∧ w = w' := by
  have h1 := refCheck_l a xs w ha
  have h2 := refCheck_l b ys w hb
  unfold chk2
  by_cases h0 : chk xs = 0
  · rw [if_pos h0]
    rw [h0] at h1
    generalize chk ys = r at *
    have H1 := Lib.hid h1
    have H2 := Lib.hid h2
    clear h1 h2 ha hb h0
    go_enter Try.func40, Try.ntmps40
    go_wp2_with (fail)
    refine H1.out.mono ?_
    rintro e w1 ⟨rfl, rfl⟩
    go_wp2_with (fail)
    refine H2.out.mono ?_
    rintro e w1 ⟨rfl, rfl⟩
    go_wp2
    go_ret
    exact ⟨rfl, rfl⟩
  · rw [if_neg h0]
    generalize chk xs = r at *
    have hq : (r != 0) = true := by simp [h0]
    have H1 := Lib.hid h1
    have H0 := Lib.hid h0
    clear h1 h2 ha hb h0
    go_enter Try.func40, Try.ntmps40
    go_wp2_with (fail)
    refine H1.out.mono ?_
    rintro e w1 ⟨rfl, rfl⟩
    go_wp2
    go_ret
    exact ⟨rfl, rfl⟩

set_option maxHeartbeats 400000 in
/-- is: a number that is as it should be. -/
theorem is_ok (a b : Value) (n : Nat) (w : World) (ha : N32 w a n) (hb : Limbs w b (dig B32 n)) (hl : (dig B32 n).length ≤ 1000000000) : Calls Try.prog 41 #[a, .int .i64 0, b, .int .i64 0] w (LivesPost w) := by
  have hs := same_nums a b _ _ w (Limbs.num ha (by omega)) hb
  rw [decide_eq_true rfl] at hs
  have HS := Lib.hid hs
  clear hs ha hb
  go_enter Try.func41, Try.ntmps41
  go_wp2_with (go_at_call 32; refine HS.out.mono ?_; rintro e w1 ⟨rfl, hb1⟩)
  go_ret
  exact ⟨rfl, hb1⟩
set_option maxHeartbeats 400000 in
/-- is: an error that is as it should be. -/
theorem is_err (b : Value) (k : Int) (w : World) (h0 : k ≠ 0) : Calls Try.prog 41 #[.slice none 0 0, .int .i64 k, b, .int .i64 k] w (LivesPost w) := by
  have hq : (k != 0) = true := by simp [h0]
  have hq2 : (k == k) = true := by simp
  have H0 := Lib.hid h0
  clear h0
  go_enter Try.func41, Try.ntmps41
  go_wp2
  go_ret
  exact ⟨rfl, Below.refl _ _⟩
end Go.Proofs.Ytaegkhdkhgemmaa

namespace Go.Proofs.Ytaegkhdkhgemmaa
open Go.RowKit Num

/-- Division by a word from the top down: the words from k on are done. -/
structure WordSt (xs zs : List Nat) (v k l : Nat) : Prop where
  len : zs.length = xs.length
  low : Low B64 zs
  lt : l < v
  eq : val B64 (xs.drop k) = v * val B64 (zs.drop k) + l
theorem WordSt.start (xs : List Nat) {v : Nat} (hv : 0 < v) : WordSt xs (List.replicate xs.length 0) v xs.length 0 :=
  ⟨by simp, Low.replicate b64_pos _, hv, by simp [val]⟩
theorem WordSt.step {xs zs : List Nat} {v k l x q r : Nat} (h : WordSt xs zs v (k + 1) l) (hx : xs[k]? = some x) (hs : l * B64 + x = v * q + r) (hq : q < B64) (hr : r < v) : WordSt xs (zs.set k q) v k r := by
  have hk : k < xs.length := (List.getElem?_eq_some_iff.1 hx).1
  have hxe : xs[k] = x := (List.getElem?_eq_some_iff.1 hx).2
  have hkz : k < (zs.set k q).length := by rw [List.length_set, h.len]; exact hk
  refine ⟨by rw [List.length_set]; exact h.len, h.low.set hq, hr, ?_⟩
  rw [List.drop_eq_getElem_cons hk, List.drop_eq_getElem_cons hkz, hxe, List.getElem_set_self, List.drop_set_of_lt (by omega)]
  simp only [val]
  rw [h.eq]
  grind
theorem WordSt.fin {xs zs : List Nat} {v l : Nat} (h : WordSt xs zs v 0 l) : val B64 zs = val B64 xs / v ∧ val B64 xs % v = l := by
  have e := h.eq
  simp only [List.drop_zero] at e
  have hl := h.lt
  rw [e, Nat.mul_add_div (by omega), Nat.div_eq_of_lt hl, Nat.mul_add_mod, Nat.mod_eq_of_lt hl]
  simp

def DivWPost (w : World) (q r : Nat) (e : Ending) (w' : World) : Prop := ∃ v, e = .returned (.tuple #[v, .int .u64 (r : Int)]) ∧ OwnW w.heap.size w' v q ∧ Below w.heap.size w w'

set_option maxHeartbeats 2000000 in
set_option maxRecDepth 100000 in
theorem divideWord_any (A : Option Addr) (c L d : Nat) (xs : List Nat) (w : World) (hA : Nums .u64 w A xs) (hx : Low B64 xs) (hL : L = xs.length) (hl : L ≤ 100000000000) (hd0 : 0 < d) (hd : d < B64) :
    Calls Try.prog 112 #[.slice A L c, .int .u64 (d : Int)] w (DivWPost w (val B64 xs / d) (val B64 xs % d)) := by
  have hmk := make64 L (by omega) w
  have hr0 := Row.made w .u64 L 24
  have hbA : Below w.heap.size w (w.alloc (.cells (madeCells #[.int .u64 0] L) 24)) := (Below.refl _ _).alloc (Nat.le_refl _) _
  have hst0 := WordSt.start xs hd0
  rw [← hL] at hst0
  have HL := Lib.hid hL
  have HR0 := Lib.hid hr0
  clear hL hr0
  go_enter Try.func112, Try.ntmps112
  go_wp2
  go_loopw [5, 6] (fun q t wr => ∃ (k l : Nat) (zs : List Nat), k ≤ L ∧ t = .int .i64 ((k : Int) - 1) ∧ q = .int .u64 (l : Int) ∧ WordSt xs zs d k l ∧ Row .u64 24 wr w.heap.size zs ∧ Below w.heap.size w wr) (fun _ t _ => (intOf t + 1).toNat)
  case atStart => exact ⟨L, 0, _, Nat.le_refl _, rfl, rfl, hst0, HR0.out, hbA⟩
  case round =>
    clear hst0 HR0 hbA hmk
    obtain ⟨k, l, zs, hk, rfl, rfl, hst, hrow, hbl⟩ := hrel
    have hlen := hst.len
    rw [← HL.out] at hlen
    have HLEN := Lib.hid hlen
    clear hlen
    by_cases h0 : k = 0
    · subst h0
      obtain ⟨f1, f2⟩ := hst.fin
      have hn := hrow.nums0 zs.length
      rw [List.take_length] at hn
      have own := own_of_trim b64_two hrow hst.low (Nat.le_refl w.heap.size)
      rw [f1, HLEN.out] at own
      have htr := trim_any _ L L zs _ hn hst.low HLEN.out.symm (Nat.le_refl _) (by omega)
      rw [f1] at htr
      have HT := Lib.hid htr
      have F2 := Lib.hid f2
      clear htr f1 f2 hn hst hx hA
      go_wp2_with (go_at_call 78; refine HT.out.mono ?_; rintro e w9 ⟨rfl, rfl⟩)
      go_ret2
      rw [F2.out]
      exact ⟨_, rfl, own, hbl⟩
    · obtain ⟨j, rfl⟩ : ∃ j, k = j + 1 := ⟨k - 1, by omega⟩
      obtain ⟨g, off, x, rfl, hg, hxv, hcx⟩ := (hA.keep hbl).at_ (i := j) (by have := HL.out; omega)
      have hxl : x < B64 := hx x (List.mem_of_getElem? hxv)
      have hdv := fun w => div64_any l x d hst.lt hxl hd w
      have hs := Nat.div_add_mod (l * B64 + x) d
      have hr := Nat.mod_lt (l * B64 + x) hd0
      have hq : (l * B64 + x) / d < B64 := by
        refine Nat.div_lt_of_lt_mul ?_
        have := Nat.mul_le_mul_right B64 (show l + 1 ≤ d from hst.lt)
        rw [Nat.add_mul] at this; omega
      generalize (l * B64 + x) / d = q at *
      generalize (l * B64 + x) % d = r at *
      have hst' := hst.step hxv hs.symm hq hr
      obtain ⟨o, ho⟩ : ∃ o, zs[j]? = some o := ⟨zs[j]'(by have := HLEN.out; omega), List.getElem?_eq_getElem _⟩
      have hco := hrow.cell ho
      have hfo := hrow.frozen j
      have HST := Lib.hid hst'
      have HX := Lib.hid hxv
      have HO := Lib.hid ho
      have HDV := Lib.hid hdv
      clear hst' hxv ho hxl hs hq hr hst hA hx hdv
      go_wp2_with (go_at_call 131; refine (HDV.out _).mono ?_; rintro e w1 ⟨rfl, m, rfl⟩)
      go_roundw
      case rel => exact ⟨j, r, _, by omega, by first | rfl | go_num, rfl, HST.out, Row.set (Row.of_block hrow (by rfl)) j q, below_set (below_drewN hbl _) (Nat.le_refl _) _⟩
      case measure => simp [intOf]
theorem divideWord_call (a : Value) (m d : Nat) (w : World) (ha : W64 w a m) (hl : (dig B64 m).length ≤ 100000000000) (hd0 : 0 < d) (hd : d < B64) : Calls Try.prog 112 #[a, .int .u64 (d : Int)] w (DivWPost w (m / d) (m % d)) := by
  obtain ⟨A, c, rfl, _, hA⟩ := ha
  have := divideWord_any A c _ d _ w hA (low_dig b64_two m) rfl hl hd0 hd
  rw [val_dig b64_two] at this
  exact this

/-- A divisor whose highest bit is set. -/
def Normal (n : Nat) : Prop := ∃ k, 2 ≤ k ∧ B64 ^ k ≤ 2 * n ∧ n < B64 ^ k
theorem Normal.len {n : Nat} (h : Normal n) : 2 ≤ (dig B64 n).length ∧ B64 ^ (dig B64 n).length ≤ 2 * n ∧ ∀ t, (dig B64 n)[(dig B64 n).length - 1]? = some t → B64 ≤ 2 * t := by
  obtain ⟨k, h2, h1, h3⟩ := h
  have hle := dig_len_le b64_two h3
  have hge : k ≤ (dig B64 n).length := by
    rcases Nat.lt_or_ge (dig B64 n).length k with h4 | h4
    · exfalso
      have h5 := dig_len_lt b64_two (n := n)
      have h6 := Nat.pow_le_pow_right b64_pos (show (dig B64 n).length + 1 ≤ k from h4)
      rw [Nat.pow_succ] at h6
      have h7 : B64 ^ (dig B64 n).length * 2 ≤ B64 ^ (dig B64 n).length * B64 := Nat.mul_le_mul_left _ b64_two
      omega
    · exact h4
  have hk : (dig B64 n).length = k := by omega
  refine ⟨by omega, by rw [hk]; exact h1, fun t ht => ?_⟩
  rw [hk] at ht
  have e := dig_getElem? b64_two ht
  have hd : n / B64 ^ (k - 1) < B64 := by
    refine Nat.div_lt_of_lt_mul ?_
    have : B64 ^ k = B64 ^ (k - 1) * B64 := by rw [← Nat.pow_succ]; congr 1; omega
    omega
  rw [Nat.mod_eq_of_lt hd] at e
  have hp : 0 < B64 ^ (k - 1) := Nat.pow_pos b64_pos
  have h8 := Nat.lt_div_mul_add (a := n) hp
  rw [← e] at h8
  have h9 : B64 ^ k = B64 * B64 ^ (k - 1) := by rw [Nat.mul_comm, ← Nat.pow_succ]; congr 1; omega
  rcases Nat.lt_or_ge (2 * t + 1) B64 with h10 | h10
  · exfalso
    have h11 : (2 * t + 2) * B64 ^ (k - 1) ≤ B64 * B64 ^ (k - 1) := Nat.mul_le_mul_right _ h10
    have h12 : (2 * t + 2) * B64 ^ (k - 1) = 2 * (t * B64 ^ (k - 1) + B64 ^ (k - 1)) := by grind
    omega
  · unfold B64 at *; omega

theorem lenm {m n : Nat} (h : n ≤ m) : (dig B64 n).length ≤ (dig B64 m).length := dig_len_mono h

set_option maxHeartbeats 2000000 in
set_option maxRecDepth 100000 in
theorem divideNormal_lt (a b : Value) (m n : Nat) (w : World) (ha : W64 w a m) (hb : W64 w b n) (hn : (dig B64 n).length ≤ 100000000) (hm : (dig B64 m).length ≤ 100000000) (hlt : m < n) :
    Calls Try.prog 114 #[a, b] w (DivPost w (m / n) (m % n)) := by
  have hcmp := cmp64_call a b m n w ha hb (by omega) (by omega)
  rw [cmpN_lt hlt] at hcmp
  rw [Nat.div_eq_of_lt hlt, Nat.mod_eq_of_lt hlt]
  have HC := Lib.hid hcmp
  have HA := Lib.hid ha
  obtain ⟨A, c, rfl, _⟩ := ha
  obtain ⟨A', c', rfl, _⟩ := hb
  clear hcmp hlt
  generalize (dig B64 m).length = L at *
  generalize (dig B64 n).length = L' at *
  go_enter Try.func114, Try.ntmps114
  go_wp2_with (fail)
  refine HC.out.mono ?_
  rintro e w1 ⟨rfl, hb1⟩
  go_wp2
  go_ret2
  exact ⟨_, _, rfl, w64_nil _, HA.out.keep hb1, hb1⟩

set_option maxHeartbeats 2000000 in
set_option maxRecDepth 100000 in
theorem divideNormal_s (a b : Value) (m n : Nat) (w : World) (ha : W64 w a m) (hb : W64 w b n) (hn : Normal n) (hm : (dig B64 m).length ≤ 100000000) (hle : n ≤ m) (hs : (dig B64 n).length < 200) :
    Calls Try.prog 114 #[a, b] w (DivPost w (m / n) (m % n)) := by
  have hll := lenm hle
  have hcmp := cmp64_call a b m n w ha hb (by omega) (by omega)
  have hc0 : 0 ≤ cmpN m n := by
    rcases Nat.lt_or_ge n m with h | h
    · rw [cmpN_gt h]; omega
    · obtain rfl : m = n := by omega
      rw [cmpN_eq]; omega
  generalize cmpN m n = cc at *
  obtain ⟨n1, n2, n3⟩ := hn.len
  have hld : ∀ w', Below w.heap.size w w' → Calls Try.prog 132 #[a, b] w' (DivPost w' (m / n) (m % n)) := fun w' h => by
    obtain ⟨A, c, rfl, _, hA⟩ := ha.keep h
    obtain ⟨A', c', rfl, _, hB⟩ := hb.keep h
    have := longDivide_any A A' c c' _ _ _ _ w' hA hB (low_dig b64_two m) (low_dig b64_two n) (neat_dig b64_two n) rfl rfl n1 hll (by omega) n3
    rw [val_dig b64_two, val_dig b64_two] at this
    exact this
  have HC := Lib.hid hcmp
  have HLD := Lib.hid hld
  obtain ⟨A, c, rfl, _⟩ := ha
  obtain ⟨A', c', rfl, _⟩ := hb
  clear hcmp hld n2 n3 hn hle
  generalize (dig B64 m).length = L at *
  generalize (dig B64 n).length = L' at *
  have hs' : L' < 200 := hs
  go_enter Try.func114, Try.ntmps114
  go_wp2_with (fail)
  refine HC.out.mono ?_
  rintro e w1 ⟨rfl, hb1⟩
  go_wp2_with (fail)
  refine (HLD.out _ hb1).mono ?_
  rintro e w2 ⟨v, u, rfl, hv, hu, hb2⟩
  go_wp2
  go_ret2
  exact ⟨_, _, rfl, hv, hu, below_at hb1 (Nat.le_refl _) hb2⟩

set_option maxHeartbeats 2000000 in
set_option maxRecDepth 100000 in
theorem divideNormal_l (a b : Value) (m n : Nat) (w : World) (ha : W64 w a m) (hb : W64 w b n) (hn : Normal n) (hm : (dig B64 m).length ≤ 100000000) (hle : n ≤ m) (hs0 : 200 ≤ (dig B64 n).length) (hs : (dig B64 m).length < 200 + (dig B64 n).length) :
    Calls Try.prog 114 #[a, b] w (DivPost w (m / n) (m % n)) := by
  have hll := lenm hle
  have hcmp := cmp64_call a b m n w ha hb (by omega) (by omega)
  have hc0 : 0 ≤ cmpN m n := by
    rcases Nat.lt_or_ge n m with h | h
    · rw [cmpN_gt h]; omega
    · obtain rfl : m = n := by omega
      rw [cmpN_eq]; omega
  generalize cmpN m n = cc at *
  obtain ⟨n1, n2, n3⟩ := hn.len
  have hld : ∀ w', Below w.heap.size w w' → Calls Try.prog 132 #[a, b] w' (DivPost w' (m / n) (m % n)) := fun w' h => by
    obtain ⟨A, c, rfl, _, hA⟩ := ha.keep h
    obtain ⟨A', c', rfl, _, hB⟩ := hb.keep h
    have := longDivide_any A A' c c' _ _ _ _ w' hA hB (low_dig b64_two m) (low_dig b64_two n) (neat_dig b64_two n) rfl rfl n1 hll (by omega) n3
    rw [val_dig b64_two, val_dig b64_two] at this
    exact this
  have HC := Lib.hid hcmp
  have HLD := Lib.hid hld
  obtain ⟨A, c, rfl, _⟩ := ha
  obtain ⟨A', c', rfl, _⟩ := hb
  clear hcmp hld n2 n3 hn hle
  generalize (dig B64 m).length = L at *
  generalize (dig B64 n).length = L' at *
  have hs' : L < 200 + L' := hs
  have hs1 : ¬ L' < 200 := by omega
  go_enter Try.func114, Try.ntmps114
  go_wp2_with (fail)
  refine HC.out.mono ?_
  rintro e w1 ⟨rfl, hb1⟩
  go_wp2_with (fail)
  refine (HLD.out _ hb1).mono ?_
  rintro e w2 ⟨v, u, rfl, hv, hu, hb2⟩
  go_wp2
  go_ret2
  exact ⟨_, _, rfl, hv, hu, below_at hb1 (Nat.le_refl _) hb2⟩

theorem divideNormal_any (a b : Value) (m n : Nat) (w : World) (ha : W64 w a m) (hb : W64 w b n) (hn : Normal n) (hnl : (dig B64 n).length ≤ 100000000) (hm : (dig B64 m).length ≤ 100000000) (hs : (dig B64 n).length < 200 ∨ (dig B64 m).length < 200 + (dig B64 n).length) :
    Calls Try.prog 114 #[a, b] w (DivPost w (m / n) (m % n)) := by
  rcases Nat.lt_or_ge m n with h | h
  · exact divideNormal_lt a b m n w ha hb hnl hm h
  · rcases Nat.lt_or_ge (dig B64 n).length 200 with h2 | h2
    · exact divideNormal_s a b m n w ha hb hn hm h h2
    · exact divideNormal_l a b m n w ha hb hn hm h h2 (by omega)

/-- The shift that makes a divisor normal. -/
theorem normal_shift {n v : Nat} (h2 : 2 ≤ (dig B64 n).length) (hv : (dig B64 n)[(dig B64 n).length - 1]? = some v) : Normal (n * 2 ^ (64 - nbits v)) ∧ (dig B64 (n * 2 ^ (64 - nbits v))).length ≤ (dig B64 n).length ∧ v < B64 ∧ v ≠ 0 := by
  obtain ⟨L, hL⟩ : ∃ L, (dig B64 n).length = L + 1 := ⟨(dig B64 n).length - 1, by omega⟩
  rw [hL, Nat.add_sub_cancel] at hv
  have hb := nbits_words hL hv
  have hvl : v < B64 := low_dig b64_two n v (List.mem_of_getElem? hv)
  have hv64 := nbits_64 hvl
  have hv0 : v ≠ 0 := fun h => by
    have := (neat_iff _).1 (neat_dig b64_two n) (by omega)
    simp only [hL, Nat.add_sub_cancel] at this
    rw [(List.getElem?_eq_some_iff.1 hv).2] at this
    exact this h
  have hn0 : n ≠ 0 := fun h => by rw [h, dig_zero] at hL; simp at hL
  have h1 := nbits_ge hn0
  have h3 := nbits_lt n
  have hp := nbits_ne hv0
  have e : B64 ^ (L + 1) = 2 ^ (64 * L + 64) := by rw [← pow_b64]; congr 1
  have k1 : B64 ^ (L + 1) ≤ 2 * (n * 2 ^ (64 - nbits v)) := by
    have := Nat.mul_le_mul_right (2 ^ (64 - nbits v)) h1
    rw [← Nat.pow_add, show nbits n - 1 + (64 - nbits v) = 64 * L + 63 by omega] at this
    rw [e, show 64 * L + 64 = 64 * L + 63 + 1 by omega, Nat.pow_succ]
    omega
  have k2 : n * 2 ^ (64 - nbits v) < B64 ^ (L + 1) := by
    have := Nat.mul_lt_mul_of_pos_right h3 (Nat.two_pow_pos (64 - nbits v))
    rw [← Nat.pow_add, show nbits n + (64 - nbits v) = 64 * L + 64 by omega] at this
    rw [e]; exact this
  exact ⟨⟨L + 1, by omega, k1, k2⟩, by rw [hL]; exact dig_len_le b64_two k2, hvl, hv0⟩
theorem shift_len {m s : Nat} (hs : s ≤ 64) : (dig B64 (m * 2 ^ s)).length ≤ (dig B64 m).length + 1 := by
  refine dig_len_le b64_two ?_
  rw [Nat.pow_succ]
  have h1 := dig_len_lt b64_two (n := m)
  have h2 : 2 ^ s ≤ B64 := by
    have := Nat.pow_le_pow_right (show 0 < 2 by omega) hs
    have e : B64 = 2 ^ 64 := by decide
    omega
  exact Nat.lt_of_lt_of_le (Nat.mul_lt_mul_of_pos_right h1 (Nat.two_pow_pos s)) (Nat.mul_le_mul_left _ h2)

set_option maxHeartbeats 2000000 in
set_option maxRecDepth 100000 in
theorem divide_lt (a b : Value) (m n : Nat) (w : World) (ha : W64 w a m) (hb : W64 w b n) (hn : (dig B64 n).length ≤ 100000000) (hm : (dig B64 m).length ≤ 100000000) (hlt : m < n) :
    Calls Try.prog 88 #[a, b] w (DivPost w (m / n) (m % n)) := by
  have hcmp := cmp64_call a b m n w ha hb (by omega) (by omega)
  rw [cmpN_lt hlt] at hcmp
  rw [Nat.div_eq_of_lt hlt, Nat.mod_eq_of_lt hlt]
  have HC := Lib.hid hcmp
  have HA := Lib.hid ha
  obtain ⟨A, c, rfl, _⟩ := ha
  obtain ⟨A', c', rfl, _⟩ := hb
  clear hcmp hlt
  generalize (dig B64 m).length = L at *
  generalize (dig B64 n).length = L' at *
  go_enter Try.func88, Try.ntmps88
  go_wp2_with (fail)
  refine HC.out.mono ?_
  rintro e w1 ⟨rfl, hb1⟩
  go_wp2
  go_ret2
  exact ⟨_, _, rfl, w64_nil _, HA.out.keep hb1, hb1⟩

set_option maxHeartbeats 2000000 in
set_option maxRecDepth 100000 in
theorem divide_one (a b : Value) (m n : Nat) (w : World) (ha : W64 w a m) (hb : W64 w b n) (hn : (dig B64 n).length = 1) (hm : (dig B64 m).length ≤ 100000000) (hle : n ≤ m) :
    Calls Try.prog 88 #[a, b] w (DivPost w (m / n) (m % n)) := by
  have hcmp := cmp64_call a b m n w ha hb (by omega) (by omega)
  have hc0 : 0 ≤ cmpN m n := by
    rcases Nat.lt_or_ge n m with h | h
    · rw [cmpN_gt h]; omega
    · obtain rfl : m = n := by omega
      rw [cmpN_eq]; omega
  generalize cmpN m n = cc at *
  have hnl := dig_len_lt b64_two (n := n)
  rw [hn, Nat.pow_one] at hnl
  have hn0 : 0 < n := by
    rcases Nat.eq_zero_or_pos n with h | h
    · rw [h, dig_zero] at hn; simp at hn
    · exact h
  have hdw := fun w' (h : W64 w' a m) => divideWord_call a m n w' h (by omega) hn0 hnl
  have hrem : m % n < B64 := Nat.lt_of_lt_of_le (Nat.mod_lt _ hn0) (Nat.le_of_lt hnl)
  have htr := fun w' => trim_any (some ⟨w'.heap.size, 0, none⟩) 1 1 [m % n] (w'.alloc (.cells #[.int .u64 ((m % n : Nat) : Int)] 24)) (Row.nums0 (row_one w' (m % n)) 1) (Low.cons hrem (Low.nil _)) rfl (Nat.le_refl _) (by omega)
  have hown := fun w' => (own_of_trim b64_two (row_one w' (m % n)) (Low.cons hrem (Low.nil _)) (Nat.le_refl w'.heap.size)).is
  have hv1 : val B64 [m % n] = m % n := by simp [val]
  have hl1 : ([m % n] : List Nat).length = 1 := rfl
  rw [hv1] at htr
  rw [hv1, hl1] at hown
  obtain ⟨A', c', rfl, hc', hB⟩ := hb
  obtain ⟨g, off, v, rfl, hg, hv, hcv⟩ := hB.at_ (i := 0) (by omega)
  have hvn : v = n := by
    have e := dig_getElem? b64_two hv
    rw [Nat.pow_zero, Nat.div_one, Nat.mod_eq_of_lt hnl] at e
    exact e
  subst hvn
  rw [Nat.add_zero] at hcv
  rw [hn] at hcmp hc' ⊢
  have HC := Lib.hid hcmp
  have HDW := Lib.hid hdw
  have HTR := Lib.hid htr
  have HOW := Lib.hid hown
  have HA := Lib.hid ha
  obtain ⟨A, c, rfl, _⟩ := ha
  clear hcmp hdw htr hown hB hv hnl hrem hn hle hv1 hl1
  generalize (dig B64 m).length = L at *
  generalize m % v = R at *
  generalize m / v = Q at *
  go_enter Try.func88, Try.ntmps88
  go_wp2_with (fail)
  refine HC.out.mono ?_
  rintro e w1 ⟨rfl, hb1⟩
  have hcv1 := (hb1.cell (p := ⟨g, off, none⟩) hg).trans hcv
  go_wp2_with (fail)
  refine (HDW.out _ (HA.out.keep hb1)).mono ?_
  rintro e w2 ⟨q, rfl, hq, hb2⟩
  go_wp2_with (fail)
  refine (HTR.out _).mono ?_
  rintro e w3 ⟨rfl, rfl⟩
  go_wp2
  go_ret2
  exact ⟨_, _, rfl, hq.is.keep (below_new _ _), HOW.out _, (below_at hb1 (Nat.le_refl _) hb2).alloc (below_at hb1 (Nat.le_refl _) hb2).size _⟩

set_option maxHeartbeats 2000000 in
set_option maxRecDepth 100000 in
theorem divide_long (a b : Value) (m n : Nat) (w : World) (ha : W64 w a m) (hb : W64 w b n) (hn : 2 ≤ (dig B64 n).length) (hm : (dig B64 m).length ≤ 10000000) (hle : n ≤ m) (hs : (dig B64 n).length < 200 ∨ (dig B64 m).length < 199 + (dig B64 n).length) :
    Calls Try.prog 88 #[a, b] w (DivPost w (m / n) (m % n)) := by
  have hll := lenm hle
  have hcmp := cmp64_call a b m n w ha hb (by omega) (by omega)
  have hc0 : 0 ≤ cmpN m n := by
    rcases Nat.lt_or_ge n m with h | h
    · rw [cmpN_gt h]; omega
    · obtain rfl : m = n := by omega
      rw [cmpN_eq]; omega
  generalize cmpN m n = cc at *
  obtain ⟨A', c', hbe, hc', hB⟩ := id hb
  obtain ⟨g, off, v, hAe, hg, hv, hcv⟩ := hB.at_ (i := (dig B64 n).length - 1) (by omega)
  obtain ⟨hN, hnl, hvl, hv0⟩ := normal_shift hn hv
  have hnb := nbits_ne hv0
  have hlz := fun w => lz_any v hvl w
  have hs64 : 64 - nbits v ≤ 64 := by omega
  generalize 64 - nbits v = s at *
  have hml := shift_len (m := m) (s := s) hs64
  have hge : (dig B64 n).length ≤ (dig B64 (n * 2 ^ s)).length := dig_len_mono (Nat.le_mul_of_pos_right _ (Nat.two_pow_pos s))
  have hsa := fun w' (h : W64 w' a m) => shiftLeft_any a m s w' h (by omega) (by omega)
  have hsb := fun w' (h : W64 w' b n) => shiftLeft_any b n s w' h (by omega) (by omega)
  have hdn := fun x y w' (h : W64 w' x (m * 2 ^ s)) (k : W64 w' y (n * 2 ^ s)) => divideNormal_any x y _ _ w' h k hN (by omega) (by omega) (by omega)
  have e1 : m * 2 ^ s / (n * 2 ^ s) = m / n := Nat.mul_div_mul_right _ _ (Nat.two_pow_pos s)
  have e2 : m * 2 ^ s % (n * 2 ^ s) = m % n * 2 ^ s := Nat.mul_mod_mul_right _ _ _
  rw [e1, e2] at hdn
  have hrl : (dig B64 (m % n * 2 ^ s)).length ≤ 100000000 := by
    have := lenm (show m % n * 2 ^ s ≤ m * 2 ^ s from Nat.mul_le_mul_right _ (Nat.mod_le _ _))
    omega
  have hsr := fun x w' (h : W64 w' x (m % n * 2 ^ s)) => shiftRight_any x _ s w' h (by omega) (by omega)
  rw [Nat.mul_div_cancel _ (Nat.two_pow_pos s)] at hsr
  have HC := Lib.hid hcmp
  have HLZ := Lib.hid hlz
  have HSA := Lib.hid hsa
  have HSB := Lib.hid hsb
  have HDN := Lib.hid hdn
  have HSR := Lib.hid hsr
  have HA := Lib.hid ha
  have HB := Lib.hid hb
  obtain ⟨A, c, rfl, _⟩ := ha
  subst hbe hAe
  clear hcmp hlz hsa hsb hdn hsr hb hB hv hN hnl hml hge hrl e1 e2 hle hs hv0 hvl
  have hx : ((dig B64 n).length : Int) - 1 = (((dig B64 n).length - 1 : Nat) : Int) := by omega
  generalize (dig B64 m).length = L at *
  generalize hL' : (dig B64 n).length = L' at *
  obtain ⟨K, rfl⟩ : ∃ K, L' = K + 1 := ⟨L' - 1, by omega⟩
  rw [Nat.add_sub_cancel] at hcv
  clear hx hL'
  have hne : (((K : Int) + 1) == 1) = false := by simp; omega
  go_enter Try.func88, Try.ntmps88
  go_wp2_with (fail)
  refine HC.out.mono ?_
  rintro e w1 ⟨rfl, hb1⟩
  have hcv1 := (hb1.cell (p := ⟨g, off + K, none⟩) hg).trans hcv
  go_wp2_with (fail)
  refine (HLZ.out _).mono ?_
  rintro e w2 ⟨rfl, rfl⟩
  have ka := HA.out.keep hb1
  have kb := HB.out.keep hb1
  go_wp2_with (fail)
  refine (HSA.out _ ka).mono ?_
  rintro e w3 ⟨x, rfl, hx, hb3⟩
  go_wp2_with (fail)
  refine (HSB.out _ (kb.keep hb3)).mono ?_
  rintro e w4 ⟨y, rfl, hy, hb4⟩
  go_wp2_with (fail)
  refine (HDN.out _ _ _ (hx.is.keep hb4) hy.is).mono ?_
  rintro e w5 ⟨q, r, rfl, hq, hr, hb5⟩
  go_wp2_with (fail)
  refine (HSR.out _ _ hr).mono ?_
  rintro e w6 ⟨z, rfl, hz, hb6⟩
  go_wp2
  go_ret2
  exact ⟨_, _, rfl, hq.keep hb6, hz, below_at (below_at (below_at (below_at hb1 (Nat.le_refl _) hb3) (Nat.le_refl _) hb4) (Nat.le_refl _) hb5) (Nat.le_refl _) hb6⟩

/-- divide: where long division is what is done. -/
theorem divide_any (a b : Value) (m n : Nat) (w : World) (ha : W64 w a m) (hb : W64 w b n) (hn0 : 0 < n) (hn : (dig B64 n).length ≤ 10000000) (hm : (dig B64 m).length ≤ 10000000) (hs : (dig B64 n).length < 200 ∨ (dig B64 m).length < 199 + (dig B64 n).length) :
    Calls Try.prog 88 #[a, b] w (DivPost w (m / n) (m % n)) := by
  rcases Nat.lt_or_ge m n with h | h
  · exact divide_lt a b m n w ha hb (by omega) (by omega) h
  · have h1 := dig_len_pos (n := n) (by omega)
    rcases Nat.lt_or_ge (dig B64 n).length 2 with h2 | h2
    · exact divide_one a b m n w ha hb (by omega) (by omega) h
    · exact divide_long a b m n w ha hb h2 hm h hs
end Go.Proofs.Ytaegkhdkhgemmaa

/- Plain laws: the two halves of a number, and Karatsuba's three products. -/
namespace Go.Proofs.Num
theorem dig_drop {b : Nat} (hb : 2 ≤ b) (n k : Nat) : (dig b n).drop k = dig b (n / b ^ k) := by
  induction k generalizing n with
  | zero => simp
  | succ k ih =>
    by_cases hn : n = 0
    · subst hn; simp [dig_zero]
    · rw [dig_pos hb hn, List.drop_succ_cons, ih, Nat.div_div_eq_div_mul, Nat.pow_succ, Nat.mul_comm]
theorem val_take_dig {b : Nat} (hb : 2 ≤ b) (n k : Nat) (hk : k ≤ (dig b n).length) : val b ((dig b n).take k) = n % b ^ k := by
  have h1 := val_take_drop b (dig b n) k hk
  rw [val_dig hb, dig_drop hb, val_dig hb] at h1
  have h2 := val_lt b _ ((low_dig hb n).take k)
  rw [List.length_take, Nat.min_eq_left hk] at h2
  have h3 := Nat.mod_add_div n (b ^ k)
  omega
theorem dig_len_mod {b : Nat} (hb : 2 ≤ b) (n k : Nat) : (dig b (n % b ^ k)).length ≤ k := dig_len_le hb (Nat.mod_lt _ (Nat.pow_pos (by omega)))
theorem dig_len_div {b : Nat} (hb : 2 ≤ b) (n k : Nat) : (dig b (n / b ^ k)).length = (dig b n).length - k := by rw [← dig_drop hb, List.length_drop]
/-- The middle product, without the two others. -/
theorem kara_mid (m0 m1 n0 n1 : Nat) : (m0 + m1) * (n0 + n1) - m0 * n0 - m1 * n1 = m0 * n1 + m1 * n0 ∧ m0 * n0 ≤ (m0 + m1) * (n0 + n1) ∧ m1 * n1 ≤ (m0 + m1) * (n0 + n1) - m0 * n0 := by
  have e : (m0 + m1) * (n0 + n1) = m0 * n0 + m0 * n1 + m1 * n0 + m1 * n1 := by grind
  rw [e]
  omega
theorem kara_sum (m0 m1 n0 n1 x : Nat) : (m0 + x * m1) * (n0 + x * n1) = m0 * n0 + x * x * (m1 * n1) + x * (m0 * n1 + m1 * n0) := by grind
end Go.Proofs.Num
namespace Go.Proofs.Num
theorem val_lay_add {b : Nat} {zs ys : List Nat} {off : Nat} (h : off + ys.length ≤ zs.length) (hz : ∀ (i v : Nat), off ≤ i → i < off + ys.length → zs[i]? = some v → v = 0) :
    val b (zs.take off ++ (ys ++ zs.drop (off + ys.length))) = val b zs + b ^ off * val b ys := by
  have e1 := val_take_drop b zs off (by omega)
  have e2 := val_take_drop b (zs.drop off) ys.length (by rw [List.length_drop]; omega)
  have e3 : val b ((zs.drop off).take ys.length) = 0 := val_zero fun i v hv => by
    have := seg_get? zs off ys.length i
    unfold seg at this
    rw [this] at hv
    split at hv
    · exact hz _ v (by omega) (by omega) hv
    · cases hv
  rw [e3, List.drop_drop] at e2
  rw [val_append, val_append, List.length_take, Nat.min_eq_left (by omega), e1, e2]
  grind
/-- What addTo leaves of a whole number, when nothing is carried out of it. -/
theorem AddSt.whole {b : Nat} {zs xs zs' : List Nat} {off n c N : Nat} (h : AddSt b zs xs off n zs' c) (hn : off + n = zs.length) (hx : xs.length ≤ n) (hN : val b zs + b ^ off * val b xs = N) (hlt : N < b ^ zs.length) : val b zs' = N := by
  have e := h.eq
  rw [List.take_of_length_le hx] at e
  have l := h.len
  have e1 := val_split (b := b) (zs := zs) (i := off) (j := n) (r := 0) (by omega)
  have e2 := val_split (b := b) (zs := zs') (i := off) (j := n) (r := 0) (by omega)
  have e3 : seg zs' 0 off = seg zs 0 off := seg_congr fun i _ h2 => h.far i (by omega)
  have z1 : val b (seg zs (off + n) 0) = 0 := by rw [seg_zero]; rfl
  have z2 : val b (seg zs' (off + n) 0) = 0 := by rw [seg_zero]; rfl
  rw [z1] at e1
  rw [z2, e3] at e2
  have e4 : val b zs' + b ^ zs.length * c = N := by
    rw [← hN, ← hn, Nat.pow_add]
    clear h hlt hN z1 z2 e3 l
    grind
  have h0 : c = 0 := by
    rcases Nat.eq_zero_or_pos c with h | h
    · exact h
    · have : b ^ zs.length * 1 ≤ b ^ zs.length * c := Nat.mul_le_mul_left _ h
      omega
  subst h0
  simpa using e4
end Go.Proofs.Num

namespace Go.Proofs.Ytaegkhdkhgemmaa
open Go.RowKit Num

/-- The first len words of row g make n. -/
structure RawAt (w : World) (g : Nat) (zs : List Nat) (len n : Nat) : Prop where
  row : Row .u64 24 w g zs
  low : Low B64 zs
  le : len ≤ zs.length
  eq : val B64 (seg zs 0 len) = n

theorem subFrom_raw (g len c n m : Nat) (zs : List Nat) (x : Value) (w0 w : World) (hz : RawAt w g zs len m) (hx : W64 w0 x n) (hb : Below w0.heap.size w0 w) (hg : w0.heap.size ≤ g) (hle : n ≤ m) (hbig : len ≤ 1000000000000) :
    Calls Try.prog 109 #[.slice (some ⟨g, 0, none⟩) len c, x] w fun e w' => ∃ zs', e = .returned (.tuple #[]) ∧ RawAt w' g zs' len (m - n) ∧ zs'.length = zs.length ∧ w.grownBy w' (some g) := by
  obtain ⟨A, d, rfl, _, hA⟩ := hx
  have hm : m < B64 ^ len := by
    have := val_lt B64 _ (seg_low hz.low 0 len)
    rw [seg_len (by have := hz.le; omega), hz.eq] at this
    exact this
  have hl : (dig B64 n).length ≤ len := dig_len_le b64_two (by omega)
  refine (subFrom_any g 0 len c d _ zs (dig B64 n) A w hz.row hz.low (by have := hz.le; omega) (hA.keep hb) (dig_low64 n) (nums_ne hA hg) rfl hl hbig).mono ?_
  rintro e w' ⟨zs', cy, rfl, hst, hr, hgr⟩
  have e := hst.eq
  rw [List.take_of_length_le hl, val_dig b64_two, hz.eq] at e
  have h1 := val_lt B64 _ (seg_low hst.low 0 len)
  rw [seg_len (by have := hz.le; have := hst.len; omega)] at h1
  have h0 : cy = 0 := by
    rcases Nat.eq_zero_or_pos cy with h | h
    · exact h
    · have : B64 ^ len * 1 ≤ B64 ^ len * cy := Nat.mul_le_mul_left _ h
      omega
  subst h0
  exact ⟨zs', rfl, ⟨hr, hst.low, by rw [hst.len]; exact hz.le, by simp at e; omega⟩, hst.len, hgr⟩

/-- The low half, trimmed. -/
theorem low_half (A : Option Addr) (c n h : Nat) (w : World) (hA : Nums .u64 w A (dig B64 n)) (hh : h ≤ (dig B64 n).length) (hc : (dig B64 n).length ≤ c) (hbig : h ≤ 1000000000000) :
    Calls Try.prog 78 #[.slice A h c] w fun e w' => e = .returned (.slice A (dig B64 (n % B64 ^ h)).length c) ∧ w = w' := by
  have := trim_any A c h ((dig B64 n).take h) w (hA.take h) ((dig_low64 n).take h) (by rw [List.length_take]; omega) (by omega) hbig
  rw [val_take_dig b64_two n h hh] at this
  exact this
theorem low_is (A : Option Addr) (c n h : Nat) (w : World) (hA : Nums .u64 w A (dig B64 n)) (hh : h ≤ (dig B64 n).length) (hc : (dig B64 n).length ≤ c) : W64 w (.slice A (dig B64 (n % B64 ^ h)).length c) (n % B64 ^ h) := by
  have h1 := trim_take b64_two ((dig_low64 n).take h)
  have h2 := dig_len_mod b64_two n h
  rw [val_take_dig b64_two n h hh] at h1
  refine ⟨A, c, rfl, by omega, ?_⟩
  have := (hA.take h).take (dig B64 (n % B64 ^ h)).length
  rw [h1] at this
  exact this
/-- The high half. -/
theorem high_is (g off c n h : Nat) (w : World) (hA : Nums .u64 w (some ⟨g, off, none⟩) (dig B64 n)) (hc : (dig B64 n).length ≤ c) : W64 w (.slice (some ⟨g, off + h, none⟩) ((dig B64 n).length - h) (c - h)) (n / B64 ^ h) := by
  refine ⟨_, _, by rw [dig_len_div b64_two], by rw [dig_len_div b64_two]; omega, fun hp => ?_⟩
  rw [dig_len_div b64_two] at hp
  obtain ⟨g', off', e, hg, hcell⟩ := hA (by omega)
  injection e with e
  injection e with e1 e2 e3
  subst e1 e2
  refine ⟨g, off + h, rfl, hg, fun i v hv => ?_⟩
  rw [← dig_drop b64_two, List.getElem?_drop] at hv
  have := hcell (h + i) v hv
  rw [← Nat.add_assoc] at this
  exact this
end Go.Proofs.Ytaegkhdkhgemmaa

namespace Go.Proofs.Ytaegkhdkhgemmaa
open Go.RowKit Num

theorem lt_of_wlen {n k : Nat} (h : (dig B64 n).length ≤ k) : n < B64 ^ k := Nat.lt_of_lt_of_le (dig_len_lt b64_two) (Nat.pow_le_pow_right b64_pos h)
theorem wlen_add {m n K : Nat} (hm : (dig B64 m).length ≤ K) (hn : (dig B64 n).length ≤ K) : (dig B64 (m + n)).length ≤ K + 1 := dig_len_le b64_two (two_pow_lt b64_two (lt_of_wlen hm) (lt_of_wlen hn))

theorem val_two {b L k : Nat} {xs ys : List Nat} (hx : xs.length ≤ k) (hy : k + ys.length ≤ L) : val b (lay (lay (List.replicate L 0) 0 xs) k ys) = val b xs + b ^ k * val b ys := by
  have hl : (lay (List.replicate L 0) 0 xs).length = L := by rw [lay_len (by simp only [List.length_replicate]; omega)]; simp
  have := val_lay_add (b := b) (zs := lay (List.replicate L 0) 0 xs) (ys := ys) (off := k) (by rw [hl]; exact hy) fun i v h1 _ hv => by
    unfold lay at hv
    rw [List.take_zero, List.nil_append, List.getElem?_append_right (by omega), List.getElem?_drop, List.getElem?_replicate] at hv
    split at hv
    · injection hv with hv; exact hv.symm
    · cases hv
  rw [val_lay0] at this
  exact this
theorem mid_lt {m n x y p q a b B N h : Nat} (e : m * n = x + y + B ^ h * (p * q + a * b)) (hlt : m * n < B ^ (h + N)) : p * q + a * b < B ^ N := by
  rw [Nat.pow_add] at hlt
  exact Nat.lt_of_mul_lt_mul_left (a := B ^ h) (by omega)

set_option maxHeartbeats 4000000 in
set_option maxRecDepth 100000 in
theorem kara_any {K : Nat} (HM : MulSpec K) (ga oa c gb ob c' La Lb m n : Nat) (w : World) (hA : Nums .u64 w (some ⟨ga, oa, none⟩) (dig B64 m)) (hB : Nums .u64 w (some ⟨gb, ob, none⟩) (dig B64 n))
    (hLa : La = (dig B64 m).length) (hLb : Lb = (dig B64 n).length) (h80 : 80 ≤ Lb) (hle : Lb ≤ La) (h2 : La < 2 * Lb) (hc : La ≤ c) (hc' : Lb ≤ c') (hbig : La ≤ 1000000000) (hK : (La + 1) / 2 + 1 ≤ K) (hcb : ¬ c' = (La + 1) / 2) :
    Calls Try.prog 130 #[.slice (some ⟨ga, oa, none⟩) La c, .slice (some ⟨gb, ob, none⟩) Lb c'] w (SumPost w (m * n)) := by
  obtain ⟨h, hh⟩ : ∃ h, (La + 1) / 2 = h := ⟨_, rfl⟩
  have hhi : ((La : Int) + 1) / 2 = (h : Int) := by omega
  have hca : ¬ c = h := by omega
  rw [hh] at hcb hK
  have b1 : h ≤ Lb := by omega
  have b2 : h < La := by omega
  have b3 : 40 ≤ h := by omega
  have b4 : La - h ≤ h := by omega
  have b5 : Lb - h ≤ h := by omega
  have ha0 := fun w (hA : Nums .u64 w (some ⟨ga, oa, none⟩) (dig B64 m)) => low_half _ c m h w hA (by omega) (by omega) (by omega)
  have hb0 := fun w (hB : Nums .u64 w (some ⟨gb, ob, none⟩) (dig B64 n)) => low_half _ c' n h w hB (by omega) (by omega) (by omega)
  have ia0 := fun w (hA : Nums .u64 w (some ⟨ga, oa, none⟩) (dig B64 m)) => low_is _ c m h w hA (by omega) (by omega)
  have ib0 := fun w (hB : Nums .u64 w (some ⟨gb, ob, none⟩) (dig B64 n)) => low_is _ c' n h w hB (by omega) (by omega)
  have ia1 := fun w (hA : Nums .u64 w (some ⟨ga, oa, none⟩) (dig B64 m)) => high_is ga oa c m h w hA (by omega)
  have ib1 := fun w (hB : Nums .u64 w (some ⟨gb, ob, none⟩) (dig B64 n)) => high_is gb ob c' n h w hB (by omega)
  rw [← hLa] at ia1
  rw [← hLb] at ib1
  have lm0 := dig_len_mod b64_two m h
  have ln0 := dig_len_mod b64_two n h
  have lm1 := dig_len_div b64_two m h
  have ln1 := dig_len_div b64_two n h
  rw [← hLa] at lm1
  rw [← hLb] at ln1
  have em := Nat.mod_add_div m (B64 ^ h)
  have en := Nat.mod_add_div n (B64 ^ h)
  have hlt := Nat.mul_lt_mul_of_lt_of_lt (dig_len_lt b64_two (n := m)) (dig_len_lt b64_two (n := n))
  rw [← hLa, ← hLb, ← Nat.pow_add] at hlt
  generalize m % B64 ^ h = m0 at *
  generalize n % B64 ^ h = n0 at *
  generalize m / B64 ^ h = m1 at *
  generalize n / B64 ^ h = n1 at *
  have ls1 : (dig B64 (m0 + m1)).length ≤ h + 1 := wlen_add lm0 (by omega)
  have ls2 : (dig B64 (n0 + n1)).length ≤ h + 1 := wlen_add ln0 (by omega)
  have M1 : ∀ a b w, W64 w a m0 → W64 w b n0 → Calls Try.prog 111 #[a, b] w (SumPost w (m0 * n0)) := fun a b w h k => HM a b m0 n0 w h k (by omega) (by omega)
  have M2 : ∀ a b w, W64 w a m1 → W64 w b n1 → Calls Try.prog 111 #[a, b] w (SumPost w (m1 * n1)) := fun a b w h k => HM a b m1 n1 w h k (by omega) (by omega)
  have M3 : ∀ a b w, W64 w a (m0 + m1) → W64 w b (n0 + n1) → Calls Try.prog 111 #[a, b] w (SumPost w ((m0 + m1) * (n0 + n1))) := fun a b w h k => HM a b _ _ w h k (by omega) (by omega)
  have S1 : ∀ a b w, W64 w a m0 → W64 w b m1 → Calls Try.prog 82 #[a, b] w (SumPost w (m0 + m1)) := fun a b w h k => sum_any a b m0 m1 w h k (by omega) (by omega)
  have S2 : ∀ a b w, W64 w a n0 → W64 w b n1 → Calls Try.prog 82 #[a, b] w (SumPost w (n0 + n1)) := fun a b w h k => sum_any a b n0 n1 w h k (by omega) (by omega)
  have hmk := make64 (La + Lb) (by omega)
  push_cast at hmk
  have hbits : m0 * n0 < B64 ^ (2 * h) ∧ m1 * n1 < B64 ^ (La + Lb - 2 * h) ∧ (m0 + m1) * (n0 + n1) < B64 ^ (2 * h + 2) := by
    refine ⟨?_, ?_, ?_⟩
    · rw [show 2 * h = h + h by omega, Nat.pow_add]
      exact Nat.mul_lt_mul_of_lt_of_lt (lt_of_wlen lm0) (lt_of_wlen ln0)
    · rw [show La + Lb - 2 * h = (La - h) + (Lb - h) by omega, Nat.pow_add]
      exact Nat.mul_lt_mul_of_lt_of_lt (lt_of_wlen (by omega)) (lt_of_wlen (by omega))
    · rw [show 2 * h + 2 = (h + 1) + (h + 1) by omega, Nat.pow_add]
      exact Nat.mul_lt_mul_of_lt_of_lt (lt_of_wlen ls1) (lt_of_wlen ls2)
  have HA := Lib.hid hA
  have HB := Lib.hid hB
  have H0 := Lib.hid ha0
  have H1 := Lib.hid hb0
  have IA0 := Lib.hid ia0
  have IB0 := Lib.hid ib0
  have IA1 := Lib.hid ia1
  have IB1 := Lib.hid ib1
  have HLA := Lib.hid hLa
  have HLB := Lib.hid hLb
  have HH := Lib.hid hh
  have HM1 := Lib.hid M1
  have HM2 := Lib.hid M2
  have HM3 := Lib.hid M3
  have HS1 := Lib.hid S1
  have HS2 := Lib.hid S2
  have HEM := Lib.hid em
  have HEN := Lib.hid en
  have HLT := Lib.hid hlt
  have HBI := Lib.hid hbits
  have below0 : ∀ k, Below w.heap.size w (w.drewN k) := fun k => below_drewN (Below.refl _ _) k
  have HBE := Lib.hid below0
  clear ha0 hb0 ia0 ib0 ia1 ib1 hLa hLb hh M1 M2 M3 S1 S2 em en hlt hbits HM below0 hA hB lm1 ln1
  go_enter Try.func130, Try.ntmps130
  go_wp2
  go_quiet ((go_at_call 78; exact quiet_l (H0.out _ (HA.out.keep (HBE.out _)))))
  go_wp2
  go_quiet ((go_at_call 78; exact quiet_a (H1.out _ (HB.out.keep (HBE.out _)))))
  go_wp2_with (fail)
  refine (HM1.out _ _ _ (IA0.out _ (HA.out.keep (HBE.out _))) (IB0.out _ (HB.out.keep (HBE.out _)))).mono ?_
  rintro e w1 ⟨v1, rfl, hv1, hb1⟩
  have c1 : Below w.heap.size w w1 := (HBE.out _).trans (hb1.mono (HBE.out _).size)
  obtain ⟨A1, d1, rfl, hd1, k1⟩ := hv1.is
  clear hv1
  have ll1 : (dig B64 (m0 * n0)).length ≤ 2 * h := dig_len_le b64_two HBI.out.1
  obtain ⟨l1, hl1⟩ : ∃ l, (dig B64 (m0 * n0)).length = l := ⟨_, rfl⟩
  have HL1 := Lib.hid hl1
  rw [hl1] at hd1 ll1 ⊢
  clear hl1
  go_wp2_with (fail)
  refine (HM2.out _ _ _ (IA1.out _ (HA.out.keep c1)) (IB1.out _ (HB.out.keep c1))).mono ?_
  rintro e w2 ⟨v2, rfl, hv2, hb2⟩
  have c2 := below_at c1 (Nat.le_refl _) hb2
  have k1' := k1.keep hb2
  obtain ⟨A2, d2', rfl, hd2, k2⟩ := hv2.is
  clear hv2 k1
  have ll2 : (dig B64 (m1 * n1)).length ≤ La + Lb - 2 * h := dig_len_le b64_two HBI.out.2.1
  obtain ⟨l2, hl2⟩ : ∃ l, (dig B64 (m1 * n1)).length = l := ⟨_, rfl⟩
  have HL2 := Lib.hid hl2
  rw [hl2] at hd2 ll2 ⊢
  clear hl2
  go_wp2_with (fail)
  refine (HS1.out _ _ _ (IA0.out _ (HA.out.keep c2)) (IA1.out _ (HA.out.keep c2))).mono ?_
  rintro e w3 ⟨v3, rfl, hv3, hb3⟩
  have c3 := below_at c2 (Nat.le_refl _) hb3
  go_wp2_with (fail)
  refine (HS2.out _ _ _ (IB0.out _ (HB.out.keep c3)) (IB1.out _ (HB.out.keep c3))).mono ?_
  rintro e w4 ⟨v4, rfl, hv4, hb4⟩
  have c4 := below_at c3 (Nat.le_refl _) hb4
  go_wp2_with (fail)
  refine (HM3.out _ _ _ (hv3.is.keep hb4) hv4.is).mono ?_
  rintro e w5 ⟨v5, rfl, ⟨g5, c5, zs5, rfl, hc5, hcz5, hg5, hr5, hl5, ht5⟩, hb5⟩
  have c5' := below_at c4 (Nat.le_refl _) hb5
  clear hv3 hv4
  have hK2 := kara_mid m0 m1 n0 n1
  have hmid5 : RawAt w5 g5 zs5 (dig B64 ((m0 + m1) * (n0 + n1))).length ((m0 + m1) * (n0 + n1)) := ⟨hr5, hl5, by omega, by
    have : seg zs5 0 (dig B64 ((m0 + m1) * (n0 + n1))).length = zs5.take (dig B64 ((m0 + m1) * (n0 + n1))).length := by simp [seg]
    rw [this, ht5, val_dig b64_two]⟩
  have lmid : (dig B64 ((m0 + m1) * (n0 + n1))).length ≤ 2 * h + 2 := dig_len_le b64_two HBI.out.2.2
  have w2g : w2.heap.size ≤ g5 := Nat.le_trans hb3.size (Nat.le_trans hb4.size hg5)
  have d2 : Below w2.heap.size w2 w5 := (hb3.trans (hb4.mono hb3.size)).trans (hb5.mono (Nat.le_trans hb3.size hb4.size))
  have HK2 := Lib.hid hK2
  have HT5 := Lib.hid ht5
  clear hK2 ht5 hr5
  generalize (dig B64 ((m0 + m1) * (n0 + n1))).length = lm at *
  subst hcz5
  go_wp2_with (fail)
  refine (subFrom_raw g5 lm _ (m0 * n0) _ zs5 _ w2 _ hmid5 ⟨_, _, by rw [HL1.out], by rw [HL1.out]; exact hd1, k1'⟩ d2 w2g HK2.out.2.1 (by omega)).mono ?_
  rintro e w6 ⟨zs6, rfl, hmid6, hlen6, hgr6⟩
  have d3 : Below w2.heap.size w2 w6 := d2.grown hgr6 d2.size (fun k hk => by injection hk with hk; omega)
  go_wp2_with (fail)
  refine (subFrom_raw g5 lm _ (m1 * n1) _ zs6 _ w2 _ hmid6 ⟨_, _, by rw [HL2.out], by rw [HL2.out]; exact hd2, k2⟩ d3 w2g HK2.out.2.2 (by omega)).mono ?_
  rintro e w7 ⟨zs7, rfl, hmid7, hlen7, hgr7⟩
  have d4 : Below w2.heap.size w2 w7 := d3.grown hgr7 d3.size (fun k hk => by injection hk with hk; omega)
  rw [HK2.out.1] at hmid7
  have k1z := k1'.keep d4
  have k2z := k2.keep d4
  have hr0 := Row.made w7 .u64 (La + Lb) 24
  have hbA : Below w7.heap.size w7 (w7.alloc (.cells (madeCells #[.int .u64 0] (La + Lb)) 24)) := (Below.refl _ _).alloc (Nat.le_refl _) _
  have q1 := k1z.keep hbA
  have q2 := k2z.keep hbA
  have HR0 := Lib.hid hr0
  have hn1 : (lay (List.replicate (La + Lb) 0) 0 (dig B64 (m0 * n0))).length = La + Lb := by rw [lay_len (by simp only [List.length_replicate, HL1.out]; omega)]; simp
  have HN1 := Lib.hid hn1
  clear hr0 hn1
  go_wp2_with (first
    | (refine wpList_copy_row rfl (.tmp 57) (.tmp 58) rfl _ _ _ _ _ _ rfl rfl _ 0 _ _ HR0.out q1 HL1.out.symm (by omega) (fun _ => rfl) (by simp only [List.length_replicate]; omega) ?_
       intro w8 hr8 hg8
       have hb8 : Below w7.heap.size w7 w8 := hbA.grown hg8 hbA.size (by simp)
       have q3 := q2.grown (nums_ne k2z (Nat.le_refl _)) hg8)
    | (refine wpList_copy_row rfl (.tmp 63) (.tmp 64) rfl _ _ _ _ _ _ rfl rfl _ (2 * h) _ _ (by assumption) (by assumption) HL2.out.symm (by omega) (fun _ => rfl) (by rw [HN1.out]; omega) ?_
       intro w9 hr9 hg9
       have hb9 : Below w7.heap.size w7 w9 := hb8.grown hg9 hb8.size (by simp)))
  have ev : (h : Int) ≤ (La : Int) + (Lb : Int) := by omega
  have nv : ¬ La + Lb = h := by omega
  have q5 : Row .u64 24 w9.drew g5 zs7 := (hmid7.row.below hb9 hmid7.row.lt).drew
  have q6 := q5.nums0 lm
  have t1 := trim_any (some ⟨g5, 0, none⟩) zs5.length lm (zs7.take lm) w9.drew q6 (hmid7.low.take lm) (by rw [List.length_take, Nat.min_eq_left hmid7.le]) (by have := hmid7.le; omega) (by omega)
  have t2 : val B64 (zs7.take lm) = m0 * n1 + m1 * n0 := by have := hmid7.eq; simpa [seg] using this
  rw [t2] at t1
  have hmn : m * n = m0 * n0 + B64 ^ h * B64 ^ h * (m1 * n1) + B64 ^ h * (m0 * n1 + m1 * n0) := by
    have := kara_sum m0 m1 n0 n1 (B64 ^ h)
    rwa [HEM.out, HEN.out] at this
  have hml : m0 * n1 + m1 * n0 < B64 ^ (La + Lb - h) := mid_lt hmn (by rw [show h + (La + Lb - h) = La + Lb by omega]; exact HLT.out)
  have hl3 : (dig B64 (m0 * n1 + m1 * n0)).length ≤ La + Lb - h := dig_len_le b64_two hml
  have q7 := q6.take (dig B64 (m0 * n1 + m1 * n0)).length
  have q8 := trim_take b64_two (hmid7.low.take lm)
  rw [t2] at q8
  rw [q8] at q7
  obtain ⟨Z, hZ⟩ : ∃ Z, lay (lay (List.replicate (La + Lb) 0) 0 (dig B64 (m0 * n0))) (2 * h) (dig B64 (m1 * n1)) = Z := ⟨_, rfl⟩
  have zl : Z.length = La + Lb := by rw [← hZ, lay_len (by rw [HN1.out, HL2.out]; omega), HN1.out]
  have zlow : Low B64 Z := by rw [← hZ]; exact lay_low (lay_low (Low.replicate b64_pos _) (dig_low64 _)) (dig_low64 _)
  have zv : val B64 Z = m0 * n0 + B64 ^ h * B64 ^ h * (m1 * n1) := by
    rw [← hZ, val_two (by rw [HL1.out]; omega) (by rw [HL2.out]; omega), val_dig b64_two, val_dig b64_two, show 2 * h = h + h by omega, Nat.pow_add]
  have zv2 : val B64 Z + B64 ^ h * val B64 (dig B64 (m0 * n1 + m1 * n0)) = m * n := by rw [zv, hmn, val_dig b64_two]
  have zlt : m * n < B64 ^ Z.length := by rw [zl]; exact HLT.out
  rw [hZ] at hr9
  have hr10 := hr9.drew
  have g2 : w.heap.size ≤ g5 := Nat.le_trans c2.size w2g
  have c6 : Below w.heap.size w w7 := (c5'.grown hgr6 c5'.size (fun k hk => by injection hk with hk; omega)) |>.grown hgr7 (by have := c5'.size; have := hgr6.size; omega) (fun k hk => by injection hk with hk; omega)
  have c9 : Below w.heap.size w w9 := below_at c6 (Nat.le_refl _) hb9
  have c10 : Below w.heap.size w w9.drew := c9.drew
  have g7 : w.heap.size ≤ w7.heap.size := c6.size
  have g57 : g5 < w7.heap.size := hmid7.row.lt
  have TT := Lib.hid t1
  have T2 := Lib.hid t2
  have ZL := Lib.hid zl
  have ZV := Lib.hid zv2
  clear t1 t2 hmn q8 hZ zl zv zv2 hr9
  go_still_tail 5, (by kernel_rfl)
  still_call (TT.out.mono fun _ _ ⟨he, hm⟩ => ⟨he, hm.symm⟩)
  refine wpStill_nil ?_
  change wpList _ _ _ _ _ w9.drew
  generalize w9.drew = w10 at *
  go_wp2_with (first
    | (go_at_call 106
       refine (addTo_any w7.heap.size h (La + Lb - h) (La + Lb - h) _ _ Z _ _ _ hr10 zlow (by rw [ZL.out]; omega) q7 (dig_low64 _) (fun _ a ha => by injection ha with ha; subst ha; exact Nat.ne_of_lt g57) rfl hl3 (by omega)).mono ?_
       rintro e w11 ⟨zs', cy, rfl, hst, hr11, hg11⟩
       have hb11 : Below w.heap.size w w11 := c10.grown hg11 c10.size (fun k hk => by injection hk with hk; omega)
       have hl11 := hst.len.trans ZL.out
       have hn11 : Nums .u64 w11 (some ⟨w7.heap.size, 0, none⟩) zs' := by have := hr11.nums0 zs'.length; rwa [List.take_length] at this
       have HL11 := Lib.hid hl11
       clear hl11)
    | (go_at_call 78
       refine (trim_any _ (La + Lb) (La + Lb) zs' _ (by assumption) hst.low HL11.out.symm (Nat.le_refl _) (by omega)).mono ?_
       rintro e w12 ⟨rfl, rfl⟩))
  go_ret
  have hv := hst.whole (by rw [ZL.out]; omega) hl3 ZV.out zlt
  rw [← hv]
  refine ⟨_, rfl, ?_, hb11⟩
  have := own_of_trim b64_two hr11 hst.low g7
  rw [HL11.out] at this
  exact this
end Go.Proofs.Ytaegkhdkhgemmaa

namespace Go.Proofs.Ytaegkhdkhgemmaa
open Go.RowKit Num
theorem high_none (A : Option Addr) (n h : Nat) (w : World) (hl : (dig B64 n).length ≤ h) : W64 w (.slice A 0 0) (n / B64 ^ h) := by
  have e : n / B64 ^ h = 0 := Nat.div_eq_of_lt (lt_of_wlen hl)
  rw [e]
  refine ⟨A, 0, ?_, ?_, ?_⟩
  all_goals rw [dig_zero]
  all_goals first | rfl | exact Nats.nil | exact Nums.nil | exact Nat.le_refl _
set_option maxHeartbeats 4000000 in
set_option maxRecDepth 100000 in
theorem kara_eq {K : Nat} (HM : MulSpec K) (ga oa c gb ob c' La Lb m n : Nat) (w : World) (hA : Nums .u64 w (some ⟨ga, oa, none⟩) (dig B64 m)) (hB : Nums .u64 w (some ⟨gb, ob, none⟩) (dig B64 n))
    (hLa : La = (dig B64 m).length) (hLb : Lb = (dig B64 n).length) (h80 : 80 ≤ Lb) (_hle : Lb ≤ La) (h2 : La < 2 * Lb) (hc : La ≤ c) (hc' : Lb ≤ c') (hbig : La ≤ 1000000000) (hK : (La + 1) / 2 + 1 ≤ K) (hcb : c' = (La + 1) / 2) :
    Calls Try.prog 130 #[.slice (some ⟨ga, oa, none⟩) La c, .slice (some ⟨gb, ob, none⟩) Lb c'] w (SumPost w (m * n)) := by
  obtain ⟨h, hh⟩ : ∃ h, (La + 1) / 2 = h := ⟨_, rfl⟩
  have hhi : ((La : Int) + 1) / 2 = (h : Int) := by omega
  have hca : ¬ c = h := by omega
  rw [hh] at hcb hK
  subst c'
  have b1 : h ≤ Lb := by omega
  have b2 : h < La := by omega
  have b3 : 40 ≤ h := by omega
  have b4 : La - h ≤ h := by omega
  have b5 : Lb - h ≤ h := by omega
  have ha0 := fun w (hA : Nums .u64 w (some ⟨ga, oa, none⟩) (dig B64 m)) => low_half _ c m h w hA (by omega) (by omega) (by omega)
  have hb0 := fun w (hB : Nums .u64 w (some ⟨gb, ob, none⟩) (dig B64 n)) => low_half _ h n h w hB (by omega) (by omega) (by omega)
  have ia0 := fun w (hA : Nums .u64 w (some ⟨ga, oa, none⟩) (dig B64 m)) => low_is _ c m h w hA (by omega) (by omega)
  have ib0 := fun w (hB : Nums .u64 w (some ⟨gb, ob, none⟩) (dig B64 n)) => low_is _ h n h w hB (by omega) (by omega)
  have ia1 := fun w (hA : Nums .u64 w (some ⟨ga, oa, none⟩) (dig B64 m)) => high_is ga oa c m h w hA (by omega)
  have ib1 := fun (w : World) (_ : Nums .u64 w (some ⟨gb, ob, none⟩) (dig B64 n)) => high_none (some ⟨gb, ob, none⟩) n h w (by omega)
  rw [← hLa] at ia1
  have lm0 := dig_len_mod b64_two m h
  have ln0 := dig_len_mod b64_two n h
  have lm1 := dig_len_div b64_two m h
  have ln1 := dig_len_div b64_two n h
  rw [← hLa] at lm1
  rw [← hLb] at ln1
  have em := Nat.mod_add_div m (B64 ^ h)
  have en := Nat.mod_add_div n (B64 ^ h)
  have hlt := Nat.mul_lt_mul_of_lt_of_lt (dig_len_lt b64_two (n := m)) (dig_len_lt b64_two (n := n))
  rw [← hLa, ← hLb, ← Nat.pow_add] at hlt
  generalize m % B64 ^ h = m0 at *
  generalize n % B64 ^ h = n0 at *
  generalize m / B64 ^ h = m1 at *
  generalize n / B64 ^ h = n1 at *
  have ls1 : (dig B64 (m0 + m1)).length ≤ h + 1 := wlen_add lm0 (by omega)
  have ls2 : (dig B64 (n0 + n1)).length ≤ h + 1 := wlen_add ln0 (by omega)
  have M1 : ∀ a b w, W64 w a m0 → W64 w b n0 → Calls Try.prog 111 #[a, b] w (SumPost w (m0 * n0)) := fun a b w h k => HM a b m0 n0 w h k (by omega) (by omega)
  have M2 : ∀ a b w, W64 w a m1 → W64 w b n1 → Calls Try.prog 111 #[a, b] w (SumPost w (m1 * n1)) := fun a b w h k => HM a b m1 n1 w h k (by omega) (by omega)
  have M3 : ∀ a b w, W64 w a (m0 + m1) → W64 w b (n0 + n1) → Calls Try.prog 111 #[a, b] w (SumPost w ((m0 + m1) * (n0 + n1))) := fun a b w h k => HM a b _ _ w h k (by omega) (by omega)
  have S1 : ∀ a b w, W64 w a m0 → W64 w b m1 → Calls Try.prog 82 #[a, b] w (SumPost w (m0 + m1)) := fun a b w h k => sum_any a b m0 m1 w h k (by omega) (by omega)
  have S2 : ∀ a b w, W64 w a n0 → W64 w b n1 → Calls Try.prog 82 #[a, b] w (SumPost w (n0 + n1)) := fun a b w h k => sum_any a b n0 n1 w h k (by omega) (by omega)
  have hmk := make64 (La + Lb) (by omega)
  push_cast at hmk
  have hbits : m0 * n0 < B64 ^ (2 * h) ∧ m1 * n1 < B64 ^ (La + Lb - 2 * h) ∧ (m0 + m1) * (n0 + n1) < B64 ^ (2 * h + 2) := by
    refine ⟨?_, ?_, ?_⟩
    · rw [show 2 * h = h + h by omega, Nat.pow_add]
      exact Nat.mul_lt_mul_of_lt_of_lt (lt_of_wlen lm0) (lt_of_wlen ln0)
    · rw [show La + Lb - 2 * h = (La - h) + (Lb - h) by omega, Nat.pow_add]
      exact Nat.mul_lt_mul_of_lt_of_lt (lt_of_wlen (by omega)) (lt_of_wlen (by omega))
    · rw [show 2 * h + 2 = (h + 1) + (h + 1) by omega, Nat.pow_add]
      exact Nat.mul_lt_mul_of_lt_of_lt (lt_of_wlen ls1) (lt_of_wlen ls2)
  have HA := Lib.hid hA
  have HB := Lib.hid hB
  have H0 := Lib.hid ha0
  have H1 := Lib.hid hb0
  have IA0 := Lib.hid ia0
  have IB0 := Lib.hid ib0
  have IA1 := Lib.hid ia1
  have IB1 := Lib.hid ib1
  have HLA := Lib.hid hLa
  have HLB := Lib.hid hLb
  have HH := Lib.hid hh
  have HM1 := Lib.hid M1
  have HM2 := Lib.hid M2
  have HM3 := Lib.hid M3
  have HS1 := Lib.hid S1
  have HS2 := Lib.hid S2
  have HEM := Lib.hid em
  have HEN := Lib.hid en
  have HLT := Lib.hid hlt
  have HBI := Lib.hid hbits
  have below0 : ∀ k, Below w.heap.size w (w.drewN k) := fun k => below_drewN (Below.refl _ _) k
  have HBE := Lib.hid below0
  clear ha0 hb0 ia0 ib0 ia1 ib1 hLa hLb hh M1 M2 M3 S1 S2 em en hlt hbits HM below0 hA hB lm1 ln1
  go_enter Try.func130, Try.ntmps130
  go_wp2
  go_quiet ((go_at_call 78; exact quiet_l (H0.out _ (HA.out.keep (HBE.out _)))))
  go_wp2
  go_quiet ((go_at_call 78; exact quiet_a (H1.out _ (HB.out.keep (HBE.out _)))))
  go_wp2_with (fail)
  refine (HM1.out _ _ _ (IA0.out _ (HA.out.keep (HBE.out _))) (IB0.out _ (HB.out.keep (HBE.out _)))).mono ?_
  rintro e w1 ⟨v1, rfl, hv1, hb1⟩
  have c1 : Below w.heap.size w w1 := (HBE.out _).trans (hb1.mono (HBE.out _).size)
  obtain ⟨A1, d1, rfl, hd1, k1⟩ := hv1.is
  clear hv1
  have ll1 : (dig B64 (m0 * n0)).length ≤ 2 * h := dig_len_le b64_two HBI.out.1
  obtain ⟨l1, hl1⟩ : ∃ l, (dig B64 (m0 * n0)).length = l := ⟨_, rfl⟩
  have HL1 := Lib.hid hl1
  rw [hl1] at hd1 ll1 ⊢
  clear hl1
  go_wp2_with (fail)
  refine (HM2.out _ _ _ (IA1.out _ (HA.out.keep c1)) (IB1.out _ (HB.out.keep c1))).mono ?_
  rintro e w2 ⟨v2, rfl, hv2, hb2⟩
  have c2 := below_at c1 (Nat.le_refl _) hb2
  have k1' := k1.keep hb2
  obtain ⟨A2, d2', rfl, hd2, k2⟩ := hv2.is
  clear hv2 k1
  have ll2 : (dig B64 (m1 * n1)).length ≤ La + Lb - 2 * h := dig_len_le b64_two HBI.out.2.1
  obtain ⟨l2, hl2⟩ : ∃ l, (dig B64 (m1 * n1)).length = l := ⟨_, rfl⟩
  have HL2 := Lib.hid hl2
  rw [hl2] at hd2 ll2 ⊢
  clear hl2
  go_wp2_with (fail)
  refine (HS1.out _ _ _ (IA0.out _ (HA.out.keep c2)) (IA1.out _ (HA.out.keep c2))).mono ?_
  rintro e w3 ⟨v3, rfl, hv3, hb3⟩
  have c3 := below_at c2 (Nat.le_refl _) hb3
  go_wp2_with (fail)
  refine (HS2.out _ _ _ (IB0.out _ (HB.out.keep c3)) (IB1.out _ (HB.out.keep c3))).mono ?_
  rintro e w4 ⟨v4, rfl, hv4, hb4⟩
  have c4 := below_at c3 (Nat.le_refl _) hb4
  go_wp2_with (fail)
  refine (HM3.out _ _ _ (hv3.is.keep hb4) hv4.is).mono ?_
  rintro e w5 ⟨v5, rfl, ⟨g5, c5, zs5, rfl, hc5, hcz5, hg5, hr5, hl5, ht5⟩, hb5⟩
  have c5' := below_at c4 (Nat.le_refl _) hb5
  clear hv3 hv4
  have hK2 := kara_mid m0 m1 n0 n1
  have hmid5 : RawAt w5 g5 zs5 (dig B64 ((m0 + m1) * (n0 + n1))).length ((m0 + m1) * (n0 + n1)) := ⟨hr5, hl5, by omega, by
    have : seg zs5 0 (dig B64 ((m0 + m1) * (n0 + n1))).length = zs5.take (dig B64 ((m0 + m1) * (n0 + n1))).length := by simp [seg]
    rw [this, ht5, val_dig b64_two]⟩
  have lmid : (dig B64 ((m0 + m1) * (n0 + n1))).length ≤ 2 * h + 2 := dig_len_le b64_two HBI.out.2.2
  have w2g : w2.heap.size ≤ g5 := Nat.le_trans hb3.size (Nat.le_trans hb4.size hg5)
  have d2 : Below w2.heap.size w2 w5 := (hb3.trans (hb4.mono hb3.size)).trans (hb5.mono (Nat.le_trans hb3.size hb4.size))
  have HK2 := Lib.hid hK2
  have HT5 := Lib.hid ht5
  clear hK2 ht5 hr5
  generalize (dig B64 ((m0 + m1) * (n0 + n1))).length = lm at *
  subst hcz5
  go_wp2_with (fail)
  refine (subFrom_raw g5 lm _ (m0 * n0) _ zs5 _ w2 _ hmid5 ⟨_, _, by rw [HL1.out], by rw [HL1.out]; exact hd1, k1'⟩ d2 w2g HK2.out.2.1 (by omega)).mono ?_
  rintro e w6 ⟨zs6, rfl, hmid6, hlen6, hgr6⟩
  have d3 : Below w2.heap.size w2 w6 := d2.grown hgr6 d2.size (fun k hk => by injection hk with hk; omega)
  go_wp2_with (fail)
  refine (subFrom_raw g5 lm _ (m1 * n1) _ zs6 _ w2 _ hmid6 ⟨_, _, by rw [HL2.out], by rw [HL2.out]; exact hd2, k2⟩ d3 w2g HK2.out.2.2 (by omega)).mono ?_
  rintro e w7 ⟨zs7, rfl, hmid7, hlen7, hgr7⟩
  have d4 : Below w2.heap.size w2 w7 := d3.grown hgr7 d3.size (fun k hk => by injection hk with hk; omega)
  rw [HK2.out.1] at hmid7
  have k1z := k1'.keep d4
  have k2z := k2.keep d4
  have hr0 := Row.made w7 .u64 (La + Lb) 24
  have hbA : Below w7.heap.size w7 (w7.alloc (.cells (madeCells #[.int .u64 0] (La + Lb)) 24)) := (Below.refl _ _).alloc (Nat.le_refl _) _
  have q1 := k1z.keep hbA
  have q2 := k2z.keep hbA
  have HR0 := Lib.hid hr0
  have hn1 : (lay (List.replicate (La + Lb) 0) 0 (dig B64 (m0 * n0))).length = La + Lb := by rw [lay_len (by simp only [List.length_replicate, HL1.out]; omega)]; simp
  have HN1 := Lib.hid hn1
  clear hr0 hn1
  go_wp2_with (first
    | (refine wpList_copy_row rfl (.tmp 57) (.tmp 58) rfl _ _ _ _ _ _ rfl rfl _ 0 _ _ HR0.out q1 HL1.out.symm (by omega) (fun _ => rfl) (by simp only [List.length_replicate]; omega) ?_
       intro w8 hr8 hg8
       have hb8 : Below w7.heap.size w7 w8 := hbA.grown hg8 hbA.size (by simp)
       have q3 := q2.grown (nums_ne k2z (Nat.le_refl _)) hg8)
    | (refine wpList_copy_row rfl (.tmp 63) (.tmp 64) rfl _ _ _ _ _ _ rfl rfl _ (2 * h) _ _ (by assumption) (by assumption) HL2.out.symm (by omega) (fun _ => rfl) (by rw [HN1.out]; omega) ?_
       intro w9 hr9 hg9
       have hb9 : Below w7.heap.size w7 w9 := hb8.grown hg9 hb8.size (by simp)))
  have ev : (h : Int) ≤ (La : Int) + (Lb : Int) := by omega
  have nv : ¬ La + Lb = h := by omega
  have q5 : Row .u64 24 w9.drew g5 zs7 := (hmid7.row.below hb9 hmid7.row.lt).drew
  have q6 := q5.nums0 lm
  have t1 := trim_any (some ⟨g5, 0, none⟩) zs5.length lm (zs7.take lm) w9.drew q6 (hmid7.low.take lm) (by rw [List.length_take, Nat.min_eq_left hmid7.le]) (by have := hmid7.le; omega) (by omega)
  have t2 : val B64 (zs7.take lm) = m0 * n1 + m1 * n0 := by have := hmid7.eq; simpa [seg] using this
  rw [t2] at t1
  have hmn : m * n = m0 * n0 + B64 ^ h * B64 ^ h * (m1 * n1) + B64 ^ h * (m0 * n1 + m1 * n0) := by
    have := kara_sum m0 m1 n0 n1 (B64 ^ h)
    rwa [HEM.out, HEN.out] at this
  have hml : m0 * n1 + m1 * n0 < B64 ^ (La + Lb - h) := mid_lt hmn (by rw [show h + (La + Lb - h) = La + Lb by omega]; exact HLT.out)
  have hl3 : (dig B64 (m0 * n1 + m1 * n0)).length ≤ La + Lb - h := dig_len_le b64_two hml
  have q7 := q6.take (dig B64 (m0 * n1 + m1 * n0)).length
  have q8 := trim_take b64_two (hmid7.low.take lm)
  rw [t2] at q8
  rw [q8] at q7
  obtain ⟨Z, hZ⟩ : ∃ Z, lay (lay (List.replicate (La + Lb) 0) 0 (dig B64 (m0 * n0))) (2 * h) (dig B64 (m1 * n1)) = Z := ⟨_, rfl⟩
  have zl : Z.length = La + Lb := by rw [← hZ, lay_len (by rw [HN1.out, HL2.out]; omega), HN1.out]
  have zlow : Low B64 Z := by rw [← hZ]; exact lay_low (lay_low (Low.replicate b64_pos _) (dig_low64 _)) (dig_low64 _)
  have zv : val B64 Z = m0 * n0 + B64 ^ h * B64 ^ h * (m1 * n1) := by
    rw [← hZ, val_two (by rw [HL1.out]; omega) (by rw [HL2.out]; omega), val_dig b64_two, val_dig b64_two, show 2 * h = h + h by omega, Nat.pow_add]
  have zv2 : val B64 Z + B64 ^ h * val B64 (dig B64 (m0 * n1 + m1 * n0)) = m * n := by rw [zv, hmn, val_dig b64_two]
  have zlt : m * n < B64 ^ Z.length := by rw [zl]; exact HLT.out
  rw [hZ] at hr9
  have hr10 := hr9.drew
  have g2 : w.heap.size ≤ g5 := Nat.le_trans c2.size w2g
  have c6 : Below w.heap.size w w7 := (c5'.grown hgr6 c5'.size (fun k hk => by injection hk with hk; omega)) |>.grown hgr7 (by have := c5'.size; have := hgr6.size; omega) (fun k hk => by injection hk with hk; omega)
  have c9 : Below w.heap.size w w9 := below_at c6 (Nat.le_refl _) hb9
  have c10 : Below w.heap.size w w9.drew := c9.drew
  have g7 : w.heap.size ≤ w7.heap.size := c6.size
  have g57 : g5 < w7.heap.size := hmid7.row.lt
  have TT := Lib.hid t1
  have T2 := Lib.hid t2
  have ZL := Lib.hid zl
  have ZV := Lib.hid zv2
  clear t1 t2 hmn q8 hZ zl zv zv2 hr9
  go_still_tail 5, (by kernel_rfl)
  still_call (TT.out.mono fun _ _ ⟨he, hm⟩ => ⟨he, hm.symm⟩)
  refine wpStill_nil ?_
  change wpList _ _ _ _ _ w9.drew
  generalize w9.drew = w10 at *
  go_wp2_with (first
    | (go_at_call 106
       refine (addTo_any w7.heap.size h (La + Lb - h) (La + Lb - h) _ _ Z _ _ _ hr10 zlow (by rw [ZL.out]; omega) q7 (dig_low64 _) (fun _ a ha => by injection ha with ha; subst ha; exact Nat.ne_of_lt g57) rfl hl3 (by omega)).mono ?_
       rintro e w11 ⟨zs', cy, rfl, hst, hr11, hg11⟩
       have hb11 : Below w.heap.size w w11 := c10.grown hg11 c10.size (fun k hk => by injection hk with hk; omega)
       have hl11 := hst.len.trans ZL.out
       have hn11 : Nums .u64 w11 (some ⟨w7.heap.size, 0, none⟩) zs' := by have := hr11.nums0 zs'.length; rwa [List.take_length] at this
       have HL11 := Lib.hid hl11
       clear hl11)
    | (go_at_call 78
       refine (trim_any _ (La + Lb) (La + Lb) zs' _ (by assumption) hst.low HL11.out.symm (Nat.le_refl _) (by omega)).mono ?_
       rintro e w12 ⟨rfl, rfl⟩))
  go_ret
  have hv := hst.whole (by rw [ZL.out]; omega) hl3 ZV.out zlt
  rw [← hv]
  refine ⟨_, rfl, ?_, hb11⟩
  have := own_of_trim b64_two hr11 hst.low g7
  rw [HL11.out] at this
  exact this
end Go.Proofs.Ytaegkhdkhgemmaa

namespace Go.Proofs.Ytaegkhdkhgemmaa
open Go.RowKit Num

/-- One block of a number. -/
theorem block_is (ga oa c m i j : Nat) (w : World) (hA : Nums .u64 w (some ⟨ga, oa, none⟩) (dig B64 m)) (hc : (dig B64 m).length ≤ c) (hij : i + j ≤ (dig B64 m).length) (hbig : (dig B64 m).length ≤ 1000000000) :
    (Calls Try.prog 78 #[.slice (some ⟨ga, oa + i, none⟩) j (c - i)] w fun e w' => e = .returned (.slice (some ⟨ga, oa + i, none⟩) (dig B64 (m / B64 ^ i % B64 ^ j)).length (c - i)) ∧ w = w')
    ∧ W64 w (.slice (some ⟨ga, oa + i, none⟩) (dig B64 (m / B64 ^ i % B64 ^ j)).length (c - i)) (m / B64 ^ i % B64 ^ j) := by
  obtain ⟨A, d, e, _, hN⟩ := high_is ga oa c m i w hA hc
  injection e with e1 e2 e3
  subst e1 e3
  have hl := dig_len_div b64_two m i
  exact ⟨low_half _ _ _ j w hN (by omega) (by omega) (by omega), low_is _ _ _ j w hN (by omega) (by omega)⟩
theorem mod_block (b m i j : Nat) : m % b ^ i + b ^ i * (m / b ^ i % b ^ j) = m % b ^ (i + j) := by
  rw [Nat.pow_add, Nat.mod_mul]

set_option maxHeartbeats 4000000 in
set_option maxRecDepth 100000 in
theorem blocks_any {K : Nat} (HM : MulSpec K) (ga oa c gb ob c' La Lb m n : Nat) (w : World) (hA : Nums .u64 w (some ⟨ga, oa, none⟩) (dig B64 m)) (hB : Nums .u64 w (some ⟨gb, ob, none⟩) (dig B64 n))
    (hLa : La = (dig B64 m).length) (hLb : Lb = (dig B64 n).length) (h80 : 80 ≤ Lb) (h2 : 2 * Lb ≤ La) (hc : La ≤ c) (hc' : Lb ≤ c') (hbig : La ≤ 1000000000) (hK : Lb ≤ K) :
    Calls Try.prog 129 #[.slice (some ⟨ga, oa, none⟩) La c, .slice (some ⟨gb, ob, none⟩) Lb c'] w (SumPost w (m * n)) := by
  have hmk := make64 (La + Lb) (by omega)
  push_cast at hmk
  have hr0 := Row.made w .u64 (La + Lb) 24
  have hbA : Below w.heap.size w (w.alloc (.cells (madeCells #[.int .u64 0] (La + Lb)) 24)) := (Below.refl _ _).alloc (Nat.le_refl _) _
  have hv0 : val B64 (List.replicate (La + Lb) 0) = m % B64 ^ 0 * n := by rw [val_replicate, Nat.pow_zero, Nat.mod_one, Nat.zero_mul]
  have hlt := Nat.mul_lt_mul_of_lt_of_lt (dig_len_lt b64_two (n := m)) (dig_len_lt b64_two (n := n))
  rw [← hLa, ← hLb, ← Nat.pow_add] at hlt
  have HLT := Lib.hid hlt
  have HV0 := Lib.hid hv0
  have HR0 := Lib.hid hr0
  have HA := Lib.hid hA
  have HB := Lib.hid hB
  have HLA := Lib.hid hLa
  have HLB := Lib.hid hLb
  have HMM := Lib.hid HM
  clear hA hB hLa hLb HM hr0 hv0 hlt
  go_enter Try.func129, Try.ntmps129
  go_wp2
  go_loopw [6] (fun t wr => ∃ (i : Nat) (zs : List Nat), i ≤ La + Lb ∧ t = .int .i64 (i : Int) ∧ zs.length = La + Lb ∧ Low B64 zs ∧ val B64 zs = m % B64 ^ i * n ∧ Row .u64 24 wr w.heap.size zs ∧ Below w.heap.size w wr) (fun t _ => La + Lb - (intOf t).toNat)
  case atStart => exact ⟨0, _, Nat.zero_le _, rfl, by simp, Low.replicate b64_pos _, HV0.out, HR0.out, hbA⟩
  case round =>
    clear HR0 HV0 hbA hmk
    obtain ⟨i, zs, hi, rfl, hzl, hzlow, hzv, hrow, hbl⟩ := hrel
    have HZL := Lib.hid hzl
    have HZV := Lib.hid hzv
    clear hzl hzv
    by_cases hlt : i < La
    · have hci : ¬ c = i := by omega
      have ev : (i : Int) ≤ (La : Int) + (Lb : Int) := by omega
      have nv : ¬ La + Lb = i := by omega
      obtain ⟨j, hj⟩ : ∃ j, (min ((i : Int) + (Lb : Int)) (La : Int)).toNat - i = j := ⟨_, rfl⟩
      have j1 : j ≤ Lb := by omega
      have j2 : i + j ≤ La := by omega
      have j3 : i + j = La ∨ j = Lb := by omega
      have HJ := Lib.hid hj
      have J3 := Lib.hid j3
      have bc := fun w (hA : Nums .u64 w (some ⟨ga, oa, none⟩) (dig B64 m)) => block_is ga oa c m i j w hA (by rw [← HLA.out]; exact hc) (by rw [← HLA.out]; exact j2) (by rw [← HLA.out]; exact hbig)
      have bl : (dig B64 (m / B64 ^ i % B64 ^ j)).length ≤ j := dig_len_mod b64_two _ _
      have bm := mod_block B64 m i j
      obtain ⟨mb, hmb⟩ : ∃ mb, m / B64 ^ i % B64 ^ j = mb := ⟨_, rfl⟩
      rw [hmb] at bc bl bm
      have BC := Lib.hid bc
      have BM := Lib.hid bm
      have hpl : (dig B64 (mb * n)).length ≤ La + Lb - i := by
        refine dig_len_le b64_two ?_
        have h1 := Nat.mul_lt_mul_of_lt_of_lt (lt_of_wlen bl) (dig_len_lt b64_two (n := n))
        rw [← HLB.out, ← Nat.pow_add] at h1
        exact Nat.lt_of_lt_of_le h1 (Nat.pow_le_pow_right b64_pos (by omega))
      clear hj j3 bc bm hmb
      go_wp2_with (go_at_call 78; rw [HJ.out]; refine ((BC.out _ (HA.out.keep hbl)).1).mono ?_; rintro e w1 ⟨rfl, rfl⟩)
      have hrow1 := hrow.drew
      have hbl1 : Below w.heap.size w wr.drew := hbl.drew
      have hgz : w.heap.size < wr.drew.heap.size := hrow1.lt
      clear hrow hbl
      have hmul := HMM.out _ _ mb n wr.drew ((BC.out _ (HA.out.keep hbl1)).2) ⟨_, _, by rw [← HLB.out], by rw [← HLB.out]; exact hc', HB.out.keep hbl1⟩ (by omega) (by rw [← HLB.out]; exact hK)
      have HMUL := Lib.hid hmul
      clear hmul
      go_region_with (first
        | (go_at_call 111
           refine HMUL.out.mono ?_
           rintro e w2 ⟨v2, rfl, ⟨g2, c2, zs2, rfl, hc2, hcz2, hg2, hr2, hl2, ht2⟩, hb2⟩
           have hrow2 := hrow1.below hb2 hgz
           have hn2 : Nums .u64 w2 (some ⟨g2, 0, none⟩) (dig B64 (mb * n)) := by have := hr2.nums0 (dig B64 (mb * n)).length; rwa [ht2] at this
           have hbl2 : Below w.heap.size w w2 := below_at hbl1 (Nat.le_refl _) hb2
           have HC2 := Lib.hid hcz2
           clear hcz2 ht2 hr2)
        | (go_at_call 106
           refine (addTo_any w.heap.size i (La + Lb - i) (La + Lb - i) _ _ zs _ _ _ hrow2 hzlow (by rw [HZL.out]; omega) hn2 (dig_low64 _) (fun _ a ha => by injection ha with ha; subst ha; exact Nat.ne_of_gt (Nat.lt_of_lt_of_le hgz hg2)) rfl hpl (by omega)).mono ?_
           rintro e w3 ⟨zs', cy, rfl, hst, hr3, hg3⟩
           have hbl3 : Below w.heap.size w w3 := hbl2.grown hg3 hbl2.size (fun k hk => by injection hk with hk; omega)))
      go_wp2_with (fail)
      go_roundw
      case rel =>
        refine ⟨i + Lb, zs', by omega, by go_num, hst.len.trans HZL.out, hst.low, ?_, hr3, hbl3⟩
        have e1 : m % B64 ^ (i + Lb) = m % B64 ^ (i + j) := by
          rcases J3.out with h | h
          · have hm : m < B64 ^ La := lt_of_wlen (by rw [← HLA.out]; exact Nat.le_refl _)
            rw [h, Nat.mod_eq_of_lt hm, Nat.mod_eq_of_lt (Nat.lt_of_lt_of_le hm (Nat.pow_le_pow_right b64_pos (by omega)))]
          · rw [h]
        refine hst.whole (by rw [HZL.out]; omega) hpl ?_ ?_
        · rw [HZV.out, val_dig b64_two, e1, ← BM.out, Nat.add_mul, Nat.mul_assoc]
        · rw [HZL.out]
          exact Nat.lt_of_le_of_lt (Nat.mul_le_mul_right _ (Nat.mod_le _ _)) HLT.out
      case measure => simp [intOf]; omega
    · have hm : m < B64 ^ La := lt_of_wlen (by rw [← HLA.out]; exact Nat.le_refl _)
      have hv : val B64 zs = m * n := by rw [HZV.out, Nat.mod_eq_of_lt (Nat.lt_of_lt_of_le hm (Nat.pow_le_pow_right b64_pos (by omega)))]
      have hn := hrow.nums0 zs.length
      rw [List.take_length] at hn
      have HV := Lib.hid hv
      clear hv
      go_wp2_with (go_at_call 78
                   refine (trim_any _ (La + Lb) (La + Lb) zs _ hn hzlow HZL.out.symm (Nat.le_refl _) (by omega)).mono ?_
                   rintro e w1 ⟨rfl, rfl⟩)
      go_ret
      rw [← HV.out]
      refine ⟨_, rfl, ?_, hbl⟩
      have := own_of_trim b64_two hrow hzlow (Nat.le_refl w.heap.size)
      rw [HZL.out] at this
      exact this
end Go.Proofs.Ytaegkhdkhgemmaa

namespace Go.Proofs.Ytaegkhdkhgemmaa
open Go.RowKit Num

/-- Karatsuba's and the blocks' method, whichever multiply picks. -/
theorem big_ways {N : Nat} (HM : MulSpec (N - 1)) (A A' : Option Addr) (c c' La Lb m n : Nat) (w : World) (hA : Nums .u64 w A (dig B64 m)) (hB : Nums .u64 w A' (dig B64 n)) (hLa : La = (dig B64 m).length) (hLb : Lb = (dig B64 n).length)
    (h80 : 80 ≤ Lb) (hle : Lb ≤ La) (hc : La ≤ c) (hc' : Lb ≤ c') (hbig : La ≤ 1000000000) (hN : La ≤ N) :
    (La < 2 * Lb → Calls Try.prog 130 #[.slice A La c, .slice A' Lb c'] w (SumPost w (m * n))) ∧ (2 * Lb ≤ La → Calls Try.prog 129 #[.slice A La c, .slice A' Lb c'] w (SumPost w (m * n))) := by
  obtain ⟨ga, oa, rfl, _, _⟩ := hA (by omega)
  obtain ⟨gb, ob, rfl, _, _⟩ := hB (by omega)
  refine ⟨fun h2 => ?_, fun h2 => blocks_any HM ga oa c gb ob c' La Lb m n w hA hB hLa hLb h80 h2 hc hc' hbig (by omega)⟩
  by_cases hcb : c' = (La + 1) / 2
  · exact kara_eq HM ga oa c gb ob c' La Lb m n w hA hB hLa hLb h80 hle h2 hc hc' hbig (by omega) hcb
  · exact kara_any HM ga oa c gb ob c' La Lb m n w hA hB hLa hLb h80 hle h2 hc hc' hbig (by omega) hcb

set_option maxHeartbeats 400000 in
theorem mul_step {N : Nat} (HM : MulSpec (N - 1)) (a b : Value) (m n : Nat) (w : World) (ha : W64 w a m) (hb : W64 w b n) (hm : (dig B64 m).length ≤ N) (hn : (dig B64 n).length ≤ N) (hbig : N ≤ 1000000000)
    (h80 : 80 ≤ (dig B64 m).length) (h80' : 80 ≤ (dig B64 n).length) : Calls Try.prog 111 #[a, b] w (SumPost w (m * n)) := by
  obtain ⟨A, c, rfl, hc, hA⟩ := ha
  obtain ⟨A', c', rfl, hc', hA'⟩ := hb
  generalize hL : (dig B64 m).length = L at *
  generalize hL' : (dig B64 n).length = L' at *
  by_cases hlt : L < L'
  · have h := big_ways HM A' A c' c L' L n m w hA' hA hL'.symm hL.symm h80 (by omega) hc' hc (by omega) hn
    rw [Nat.mul_comm n m] at h
    have H := Lib.hid h
    clear h hL hL' HM hA hA'
    by_cases h2 : L' < 2 * L
    · go_enter Try.func111, Try.ntmps111
      go_wp2_with (go_at_call 130; refine (H.out.1 h2).mono ?_; rintro e w1 ⟨v, rfl, hv, hb1⟩)
      go_ret
      exact ⟨_, rfl, hv, hb1⟩
    · go_enter Try.func111, Try.ntmps111
      go_wp2_with (go_at_call 129; refine (H.out.2 (by omega)).mono ?_; rintro e w1 ⟨v, rfl, hv, hb1⟩)
      go_ret
      exact ⟨_, rfl, hv, hb1⟩
  · have h := big_ways HM A A' c c' L L' m n w hA hA' hL.symm hL'.symm h80' (by omega) hc hc' (by omega) hm
    have H := Lib.hid h
    clear h hL hL' HM hA hA'
    by_cases h2 : L < 2 * L'
    · go_enter Try.func111, Try.ntmps111
      go_wp2_with (go_at_call 130; refine (H.out.1 h2).mono ?_; rintro e w1 ⟨v, rfl, hv, hb1⟩)
      go_ret
      exact ⟨_, rfl, hv, hb1⟩
    · go_enter Try.func111, Try.ntmps111
      go_wp2_with (go_at_call 129; refine (H.out.2 (by omega)).mono ?_; rintro e w1 ⟨v, rfl, hv, hb1⟩)
      go_ret
      exact ⟨_, rfl, hv, hb1⟩

/-- multiply, whatever the factors' lengths. -/
theorem mulSpec_all : ∀ N, N ≤ 1000000000 → MulSpec N := by
  intro N
  induction N with
  | zero => exact fun _ a b m n w ha hb hm hn => mul_short a b m n w ha hb (by omega) (by omega) (.inl (by omega))
  | succ N ih =>
    intro h a b m n w ha hb hm hn
    by_cases h1 : (dig B64 m).length ≤ 79
    · exact mul_short a b m n w ha hb (by omega) (by omega) (.inl h1)
    · by_cases h2 : (dig B64 n).length ≤ 79
      · exact mul_short a b m n w ha hb (by omega) (by omega) (.inr h2)
      · exact mul_step (N := N + 1) (ih (by omega)) a b m n w ha hb hm hn h (by omega) (by omega)
theorem mulAt_all {m n : Nat} (hm : (dig B64 m).length ≤ 1000000000) (hn : (dig B64 n).length ≤ 1000000000) : MulAt m n := fun a b w ha hb => mulSpec_all _ (Nat.le_refl _) a b m n w ha hb hm hn
end Go.Proofs.Ytaegkhdkhgemmaa
