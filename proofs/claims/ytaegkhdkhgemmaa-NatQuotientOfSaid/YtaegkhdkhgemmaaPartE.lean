/- Part of the proof of NatQuotientOf: BitsR, RefS, RefOf, ChecksW, Subs, DivW, DivM, RefC, RefAdd, RefSub, Whole, AddsW. -/
import Derived.Test.YtaegkhdkhgemmaaPartD
import Derived.Test.YtaegkhdkhgemmaaPartC
namespace Go.Proofs.Ytaegkhdkhgemmaa
open Go.RowKit Num

set_option maxHeartbeats 1000000 in
set_option maxRecDepth 100000 in
theorem bits_ok (a : Value) (n : Nat) (w : World) (ha : N32 w a n) (hl : (dig B32 n).length ≤ 262144) : Calls Try.prog 28 #[a] w (Ret2 w (.int .i64 (nbits n : Nat)) (.int .i64 0)) := by
  have hc := checkAll_any w.heap.size 1 1 _ _ (nats1 (Limbs.num ha (by omega))) rfl (by omega)
  rw [chkAll1, chk_dig hl] at hc
  have hbA := below_new w (.cells #[a] 23)
  have HC := Lib.hid hc
  have hpost := fun L v => @nbits_limbs n L v
  obtain ⟨A, c, rfl, _, hA⟩ := ha
  clear hc hbA
  obtain ⟨xs, hxs⟩ : ∃ xs, dig B32 n = xs := ⟨_, rfl⟩
  have hlow := low_dig b32_two n
  have hz : xs.length = 0 → n = 0 := fun h => (dig_nil_iff b32_two).1 (by rw [hxs]; exact List.eq_nil_of_length_eq_zero h)
  have hpost' : ∀ L v, xs.length = L + 1 → xs[L]? = some v → nbits n = 32 * L + nbits v := fun L v h1 h2 => hpost L v (by rw [← h1, ← hxs]; rfl) (by rw [← h2, ← hxs]; rfl)
  rw [hxs] at hlow hl hA HC ⊢
  clear hxs hpost
  obtain ⟨L, hL⟩ : ∃ L, xs.length = L := ⟨_, rfl⟩
  rw [hL] at hz hl HC ⊢
  have HP := Lib.hid hpost'
  have HL := Lib.hid hL
  clear hpost' hL
  by_cases h0 : L = 0
  · have hn0 := hz h0
    subst hn0
    subst h0
    clear hz hA hlow
    rw [nbits_zero]
    go_enter Try.func28, Try.ntmps28
    go_wp2_with (go_at_call 75; refine HC.out.mono ?_; rintro e w1 ⟨rfl, rfl⟩)
    go_ret2
    exact ⟨rfl, below_new _ _⟩
  · obtain ⟨K, rfl⟩ : ∃ K, L = K + 1 := ⟨L - 1, by omega⟩
    obtain ⟨g, off, v, rfl, hg, hv, hcv⟩ := hA.at_ (i := K) (by have := HL.out; omega)
    have hvl : v < B32 := hlow v (List.mem_of_getElem? hv)
    have hb32 : nbits v ≤ 32 := nbits_le (k := 32) hvl
    have hres := HP.out K v HL.out hv
    obtain ⟨r, hr⟩ : ∃ r, nbits n = r := ⟨_, rfl⟩
    rw [hr] at hres ⊢
    have hsh : ∀ i, (v : Int) / 2 ^ i = ((v / 2 ^ i : Nat) : Int) := fun i => by push_cast; rfl
    have hne : ∀ i, v / 2 ^ i ≠ 0 ↔ i < nbits v := fun i => shr_ne
    have HR := Lib.hid hres
    have HSH := Lib.hid hsh
    have HNE := Lib.hid hne
    have HV := Lib.hid hv
    have HRR := Lib.hid hr
    have hk0 : ((K : Int) + 1 == 0) = false := by simp; omega
    clear hres hsh hne hv hr hA hlow hz h0 hvl
    generalize nbits v = q at *
    go_enter Try.func28, Try.ntmps28
    go_wp2_with (go_at_call 75; refine HC.out.mono ?_; rintro e w1 ⟨rfl, rfl⟩)
    go_loop [6, 20] (fun ct t => ∃ i ct' : Nat, i ≤ 32 ∧ t = .int .i64 (i : Int) ∧ ct = .int .i64 (ct' : Int) ∧ Hid (ct' = min i q)) (fun _ t => 32 - (intOf t).toNat)
    case atStart => exact ⟨0, 0, by omega, rfl, rfl, Lib.hid (by simp)⟩
    case round =>
      obtain ⟨i, ct, hi, rfl, rfl, hct⟩ := hrel
      by_cases hlt : i < 32
      · have hs := HSH.out i
        by_cases hq : i < q
        · have hnz : v / 2 ^ i ≠ 0 := (HNE.out i).2 hq
          have hb : (((v / 2 ^ i : Nat) : Int) != 0) = true := by simp; omega
          rw [← hs] at hb
          have HNZ := Lib.hid hnz
          clear hnz hs
          go_wp2
          go_round
          case rel => exact ⟨i + 1, i + 1, by omega, by go_num, by go_num, Lib.hid (by omega)⟩
          case measure => simp [intOf]; omega
        · have hnz : v / 2 ^ i = 0 := by
            rcases Nat.eq_zero_or_pos (v / 2 ^ i) with h | h
            · exact h
            · exact absurd ((HNE.out i).1 (by omega)) hq
          have hb : (((v / 2 ^ i : Nat) : Int) != 0) = false := by rw [hnz]; rfl
          rw [← hs] at hb
          have HNZ := Lib.hid hnz
          clear hnz hs
          go_wp2
          go_round
          case rel => exact ⟨i + 1, ct, by omega, by go_num, rfl, Lib.hid (by have := hct.out; omega)⟩
          case measure => simp [intOf]; omega
      · have hct' : ct ≤ 32 := by have := hct.out; omega
        go_wp2
        go_ret2
        have e : (32 * (K : Int) + (ct : Int)) = (r : Int) := by have h1 := HR.out; have h2 := hct.out; omega
        refine ⟨?_, below_new _ _⟩
        rw [← e]
        rfl

set_option maxHeartbeats 1000000 in
set_option maxRecDepth 100000 in
theorem refBits_any (a : Value) (n : Nat) (w : World) (ha : N32 w a n) (hl : (dig B32 n).length ≤ 1000000000) : Calls Try.prog 36 #[a] w fun e w' => e = .returned (.int .i64 (nbits n : Nat)) ∧ w = w' := by
  have hpost := fun L v => @nbits_limbs n L v
  obtain ⟨A, c, rfl, _, hA⟩ := ha
  obtain ⟨xs, hxs⟩ : ∃ xs, dig B32 n = xs := ⟨_, rfl⟩
  have hlow := low_dig b32_two n
  have hz : xs.length = 0 → n = 0 := fun h => (dig_nil_iff b32_two).1 (by rw [hxs]; exact List.eq_nil_of_length_eq_zero h)
  have hpost' : ∀ L v, xs.length = L + 1 → xs[L]? = some v → nbits n = 32 * L + nbits v := fun L v h1 h2 => hpost L v (by rw [← h1, ← hxs]; rfl) (by rw [← h2, ← hxs]; rfl)
  rw [hxs] at hlow hl hA ⊢
  clear hxs hpost
  obtain ⟨L, hL⟩ : ∃ L, xs.length = L := ⟨_, rfl⟩
  rw [hL] at hz hl ⊢
  have HP := Lib.hid hpost'
  have HL := Lib.hid hL
  clear hpost' hL
  by_cases h0 : L = 0
  · have hn0 := hz h0
    subst hn0
    subst h0
    clear hz hA hlow
    rw [nbits_zero]
    go_enter Try.func36, Try.ntmps36
    go_wp2
    go_ret
    exact ⟨rfl, rfl⟩
  · obtain ⟨K, rfl⟩ : ∃ K, L = K + 1 := ⟨L - 1, by omega⟩
    obtain ⟨g, off, v, rfl, hg, hv, hcv⟩ := hA.at_ (i := K) (by have := HL.out; omega)
    have hvl : v < B32 := hlow v (List.mem_of_getElem? hv)
    have hb32 : nbits v ≤ 32 := nbits_le (k := 32) hvl
    have hres := HP.out K v HL.out hv
    obtain ⟨r, hr⟩ : ∃ r, nbits n = r := ⟨_, rfl⟩
    rw [hr] at hres ⊢
    have HR := Lib.hid hres
    have HV := Lib.hid hv
    have HRR := Lib.hid hr
    have HVL := Lib.hid hvl
    have hk0 : ((K : Int) + 1 == 0) = false := by simp; omega
    clear hres hv hr hA hlow hz h0 hvl
    obtain ⟨q, hq⟩ : ∃ q, nbits v = q := ⟨_, rfl⟩
    rw [hq] at hb32
    have HQ := Lib.hid hq
    clear hq
    go_enter Try.func36, Try.ntmps36
    go_wp2
    go_loop [3, 4] (fun ct t => ∃ u ct' : Nat, t = .int .u32 (u : Int) ∧ ct = .int .i64 (ct' : Int) ∧ ct' ≤ 32 ∧ Hid (u < B32) ∧ Hid (ct' + nbits u = q)) (fun _ t => (intOf t).toNat)
    case atStart => exact ⟨v, 0, rfl, rfl, by omega, HVL, Lib.hid (by rw [HQ.out]; omega)⟩
    case round =>
      obtain ⟨u, ct, rfl, rfl, hct32, hu32, hct⟩ := hrel
      by_cases hu : 0 < u
      · have hh := nbits_half (v := u) (by omega)
        have hc2 : ct + 1 + nbits (u / 2) = q := by have := hct.out; omega
        have hc3 : ct + 1 ≤ 32 := by omega
        have HC2 := Lib.hid hc2
        clear hh hc2
        go_wp2
        go_round
        case rel => exact ⟨u / 2, ct + 1, by congr 1; have := hu32.out; unfold B32 at this; omega, by go_num, hc3, Lib.hid (by have := hu32.out; omega), HC2⟩
        case measure => simp [intOf]; omega
      · have hu0 : u = 0 := by omega
        subst hu0
        have hq' : ct = q := by have := hct.out; rw [nbits_zero] at this; omega
        have HQ' := Lib.hid hq'
        clear hq' hct hu
        go_wp2
        go_ret
        have e : (32 * (K : Int) + (ct : Int)) = (r : Int) := by have h1 := HR.out; have h2 := HQ'.out; have h3 := HQ.out; omega
        exact ⟨ret_i e, rfl⟩
end Go.Proofs.Ytaegkhdkhgemmaa

namespace Go.Proofs.Ytaegkhdkhgemmaa
open Go.RowKit Num

theorem div_step {n k x : Nat} (hx : (dig B32 n)[k]? = some x) : n / B32 ^ (k + 1) * 4294967296 + x = n / B32 ^ k := by
  have e := dig_getElem? b32_two hx
  rw [Nat.pow_succ, ← Nat.div_div_eq_div_mul]
  have := Nat.mod_add_div (n / B32 ^ k) B32
  rw [← e] at this
  unfold B32 at *
  omega

set_option maxHeartbeats 1000000 in
set_option maxRecDepth 100000 in
theorem small_no (a : Value) (n : Nat) (w : World) (ha : N32 w a n) (hl : (dig B32 n).length ≤ 1000000000) (h2 : 2 < (dig B32 n).length) : Calls Try.prog 35 #[a] w (Ret2 w (.int .u64 0) (.bool false)) := by
  obtain ⟨A, c, rfl, _, hA⟩ := ha
  clear hA
  generalize (dig B32 n).length = L at *
  go_enter Try.func35, Try.ntmps35
  go_wp2
  go_ret2
  exact ⟨rfl, Below.refl _ _⟩

set_option maxHeartbeats 1000000 in
set_option maxRecDepth 100000 in
theorem small_ok (a : Value) (n : Nat) (w : World) (ha : N32 w a n) (hl : (dig B32 n).length ≤ 2) : Calls Try.prog 35 #[a] w (Ret2 w (.int .u64 (n : Nat)) (.bool true)) := by
  have hlt : n < B64 := by
    have h1 := dig_len_lt b32_two (n := n)
    have h2 := Nat.pow_le_pow_right b32_pos hl
    have : B32 ^ 2 = B64 := by decide
    omega
  obtain ⟨A, c, rfl, _, hA⟩ := ha
  have hstep := @div_step n
  have htop : n / B32 ^ (dig B32 n).length = 0 := div_pow_len b32_two (Nat.le_refl _)
  have hlow := low_dig b32_two n
  have HST : Hid (∀ k x, (dig B32 n)[k]? = some x → n / B32 ^ (k + 1) * 4294967296 + x = n / B32 ^ k) := fun k x h => hstep h
  have HTOP := Lib.hid htop
  have HLT := Lib.hid hlt
  clear hstep htop hlt
  obtain ⟨L, hL⟩ : ∃ L, (dig B32 n).length = L := ⟨_, rfl⟩
  rw [hL] at hl HTOP ⊢
  have HL := Lib.hid hL
  clear hL
  go_enter Try.func35, Try.ntmps35
  go_wp2
  go_loop [4, 5] (fun q t => ∃ k v : Nat, k ≤ L ∧ t = .int .i64 ((k : Int) - 1) ∧ q = .int .u64 (v : Int) ∧ Hid (v = n / B32 ^ k)) (fun _ t => (intOf t + 1).toNat)
  case atStart => exact ⟨L, 0, Nat.le_refl _, rfl, rfl, Lib.hid HTOP.out.symm⟩
  case round =>
    obtain ⟨k, v, hk, rfl, rfl, hv⟩ := hrel
    by_cases h0 : k = 0
    · subst h0
      go_wp2
      go_ret2
      have e : v = n := by have := hv.out; simpa using this
      subst e
      exact ⟨rfl, Below.refl _ _⟩
    · obtain ⟨j, rfl⟩ : ∃ j, k = j + 1 := ⟨k - 1, by omega⟩
      obtain ⟨g, off, x, rfl, hg, hx, hcx⟩ := hA.at_ (i := j) (by have := HL.out; omega)
      have hxl : x < B32 := hlow x (List.mem_of_getElem? hx)
      have he := HST.out j x hx
      rw [← hv.out] at he
      have hle : v * 4294967296 + x < B64 := by rw [he]; exact Nat.lt_of_le_of_lt (Nat.div_le_self _ _) HLT.out
      obtain ⟨p, hp⟩ : ∃ p, v * 4294967296 = p := ⟨_, rfl⟩
      have w1 : IntKind.u64.wrap ((v : Int) * 4294967296) = (p : Int) := by rw [IntKind.wrap_u64]; unfold B64 at hle; omega
      have w2 : IntKind.u64.wrap (x : Int) = (x : Int) := by rw [IntKind.wrap_u64]; unfold B32 at hxl; omega
      obtain ⟨s, hs⟩ : ∃ s, p + x = s := ⟨_, rfl⟩
      have w3 : IntKind.u64.wrap ((p : Int) + (x : Int)) = (s : Int) := by rw [IntKind.wrap_u64]; unfold B64 at hle; omega
      have hs2 : s = n / B32 ^ j := by rw [← he]; omega
      have HS2 := Lib.hid hs2
      have HX := Lib.hid hx
      have HP := Lib.hid hp
      have HS := Lib.hid hs
      have HE := Lib.hid he
      clear hs2 hx hp hs he hle hxl hA hlow
      go_wp2
      go_round
      case rel => exact ⟨j, s, by omega, by congr 1, rfl, HS2⟩
      case measure => simp [intOf]

set_option maxHeartbeats 1000000 in
set_option maxRecDepth 100000 in
theorem refTrim_any (A : Option Addr) (c n : Nat) (xs : List Nat) (w : World) (h : Nums .u32 w A xs) (hlow : Low B32 xs) (hn : n = xs.length) (hc : n ≤ 1000000000) :
    Calls Try.prog 80 #[.slice A n c] w (LsPost w (dig B32 (val B32 xs))) := by
  subst hn
  have fin : ∀ k, k ≤ xs.length → ZeroFrom xs k → (∀ v, 0 < k → xs[k - 1]? = some v → v ≠ 0) → xs.take k = dig B32 (val B32 xs) := fun k hk hz hn => trim_val b32_two hlow hk hz hn
  have FIN := Lib.hid fin
  clear fin
  obtain ⟨ds, hds⟩ : ∃ ds, dig B32 (val B32 xs) = ds := ⟨_, rfl⟩
  rw [hds] at FIN ⊢
  have HDS := Lib.hid hds
  clear hds hlow
  obtain ⟨i0, hi, hz0, hz1, hz2⟩ := info_parts info56
  have ho := own_empty w 56
  have hbA := below_new w (.cells #[] 56)
  have HO := Lib.hid ho
  have H := Lib.hid h
  clear ho
  go_enter Try.func80, Try.ntmps80
  go_wp2
  go_loop [3] (fun t => ∃ k : Nat, k ≤ xs.length ∧ t = .int .i64 k ∧ ZeroFrom xs k) (fun t => (intOf t).toNat)
  case atStart => exact ⟨xs.length, Nat.le_refl _, rfl, fun i v hv hi => by have := (List.getElem?_eq_some_iff.1 hv).1; omega⟩
  case round =>
    obtain ⟨k, hk, rfl, hz⟩ := hrel
    have hex : (∃ v, 0 < k ∧ xs[k - 1]? = some v ∧ v = 0) ∨ (∀ v, 0 < k → xs[k - 1]? = some v → v ≠ 0) := by
      by_cases hh : ∃ v, 0 < k ∧ xs[k - 1]? = some v ∧ v = 0
      · exact .inl hh
      · exact .inr fun v h1 h2 h3 => hh ⟨v, h1, h2, h3⟩
    rcases hex with ⟨v, hp, hv, hv0⟩ | hfin
    · obtain ⟨g, off, v', rfl, hg, hv', hc1⟩ := h.at_ (i := k - 1) (by omega)
      have e : v' = v := by rw [hv] at hv'; injection hv' with hv'; exact hv'.symm
      subst e
      have hq : ((v' : Int) == 0) = true := by simp [hv0]
      have HV := Lib.hid hv
      have H0 := Lib.hid hv0
      clear hv hv' hv0 h
      go_wp2
      go_round
      case rel =>
        refine ⟨k - 1, by omega, by congr 1; omega, fun i u hu hi => ?_⟩
        by_cases e : i = k - 1
        · have := HV.out; rw [e] at hu; rw [hu] at this; injection this with this; rw [this]; exact H0.out
        · exact hz i u hu (by omega)
      case measure => simp [intOf]; omega
    · have htk := FIN.out k hk hz hfin
      have HT := Lib.hid htk
      clear htk
      by_cases hp : 0 < k
      · obtain ⟨g, off, v, rfl, hg, hv, hc1⟩ := h.at_ (i := k - 1) (by omega)
        have hq : ((v : Int) == 0) = false := by have := hfin v hp hv; simp; omega
        have HV := Lib.hid hv
        clear hv h hfin
        go_wp2
        go_loopw [4, 5] (fun out t wr => ∃ m : Nat, m ≤ k ∧ t = .int .i64 (m : Int) ∧ wr.ownsRow w.heap.size 56 1 out m (ints .u32 (xs.take m)) ∧ Below w.heap.size w wr) (fun _ t _ => k - (intOf t).toNat)
        case atStart => exact ⟨0, Nat.zero_le _, rfl, HO.out, hbA⟩
        case round =>
          clear hbA HO
          obtain ⟨m, hm, rfl, hown, hbl⟩ := hrel
          by_cases hlt : m < k
          · obtain ⟨q, qo, u, e0, hq', hu, hcu⟩ := (H.out.keep hbl).at_ (i := m) (by omega)
            first | (injection e0 with e0; injection e0 with e1 e2 e3; subst e1; subst e2) | subst e0
            have htk2 : ints .u32 (xs.take m) ++ [.int .u32 (u : Int)] = ints .u32 (xs.take (m + 1)) := by
              have hml : m < xs.length := by omega
              rw [List.take_succ_eq_append_getElem hml, (List.getElem?_eq_some_iff.1 hu).2]; simp [ints]
            have HT2 := Lib.hid htk2
            have HU := Lib.hid hu
            clear htk2 hu
            go_wp2_with (at_builtin
                         refine wpList_append_own _ rfl _ _ 35 rfl w.heap.size 56 i0 (.int .u32 0) 1 4 Try.underlying35 hi hz0 hz1 hz2 rfl (by decide) _ m _ rfl (hown.alloc _) ⟨wr.heap.size, 0, none⟩ 1 1 [.int .u32 (u : Int)] rfl rfl (cell_one_new _ _ _) (ints_one .u32 [u]) ?c4 ?c5 (Nat.le_trans hbl.size (by simp)) ?_)
            case c4 => unfold maxLen; omega
            case c5 => omega
            intro v' w1 hown1 hgr1 _
            have hb1 : Below w.heap.size w w1 := (hbl.alloc hbl.size _).grown hgr1 (Nat.le_trans hbl.size (by simp)) (fun g' hg' => by
              rcases hown.2 with ⟨rfl, _⟩ | ⟨g2, cap, cur, rfl, hg2, _⟩
              · simp [Value.ownBlock] at hg'
              · simp [Value.ownBlock] at hg'; omega)
            rw [HT2.out] at hown1
            have H1 := Lib.hid hown1
            clear hown1 hown
            go_wp2
            go_roundw
            case rel => exact ⟨m + 1, by omega, by go_num, H1.out, hb1⟩
            case measure => simp [intOf]; omega
          · have hmk : m = k := by omega
            subst hmk
            clear hlt
            rw [HT.out] at hown
            have hlen : ds.length = m := by rw [← HT.out, List.length_take]; omega
            have HLEN := Lib.hid hlen
            have HOW := Lib.hid hown
            clear hlen hown
            go_wp2
            go_ret
            have := HOW.out
            rw [← HLEN.out] at this
            exact ⟨_, rfl, this, hbl⟩
      · clear h hfin
        go_wp2
        go_loopw [4, 5] (fun out t wr => ∃ m : Nat, m ≤ k ∧ t = .int .i64 (m : Int) ∧ wr.ownsRow w.heap.size 56 1 out m (ints .u32 (xs.take m)) ∧ Below w.heap.size w wr) (fun _ t _ => k - (intOf t).toNat)
        case atStart => exact ⟨0, Nat.zero_le _, rfl, HO.out, hbA⟩
        case round =>
          clear hbA HO
          obtain ⟨m, hm, rfl, hown, hbl⟩ := hrel
          by_cases hlt : m < k
          · exfalso; omega
          · have hmk : m = k := by omega
            subst hmk
            clear hlt
            rw [HT.out] at hown
            have hlen : ds.length = m := by rw [← HT.out, List.length_take]; omega
            have HLEN := Lib.hid hlen
            have HOW := Lib.hid hown
            clear hlen hown
            go_wp2
            go_ret
            have := HOW.out
            rw [← HLEN.out] at this
            exact ⟨_, rfl, this, hbl⟩
end Go.Proofs.Ytaegkhdkhgemmaa

namespace Go.Proofs.Ytaegkhdkhgemmaa
open Go.RowKit Num

set_option maxHeartbeats 1000000 in
set_option maxRecDepth 100000 in
theorem refOf_any (v : Nat) (hv : v < B64) (w : World) : Calls Try.prog 34 #[.int .u64 (v : Int)] w (LsPost w (dig B32 v)) := by
  obtain ⟨lo, hlo⟩ : ∃ lo, v % 4294967296 = lo := ⟨_, rfl⟩
  obtain ⟨hi, hhi⟩ : ∃ hi, v / 4294967296 = hi := ⟨_, rfl⟩
  have l1 : lo < B32 := by unfold B32; omega
  have l2 : hi < B32 := by unfold B32; unfold B64 at hv; omega
  have e1 : (v : Int) % 4294967296 = (lo : Int) := by omega
  have e2 : (v : Int) / 4294967296 = (hi : Int) := by omega
  have w1 : IntKind.u32.wrap (lo : Int) = (lo : Int) := by rw [IntKind.wrap_u32']; unfold B32 at l1; omega
  have w2 : IntKind.u32.wrap (hi : Int) = (hi : Int) := by rw [IntKind.wrap_u32']; unfold B32 at l2; omega
  have w3 : IntKind.u64.wrap (hi : Int) = (hi : Int) := by rw [IntKind.wrap_u64]; unfold B32 at l2; omega
  have w4 : (hi : Int) % 4294967296 = (hi : Int) := by unfold B32 at l2; omega
  have hval : val B32 [lo, hi] = v := by simp only [val]; unfold B32; omega
  have hlow : Low B32 [lo, hi] := Low.cons l1 (Low.cons l2 (Low.nil _))
  have hl := new_limbs w [lo, hi] (by simp)
  have hbA := below_new w (.cells (ints .u32 [lo, hi]).toArray 56)
  have ht : Calls Try.prog 80 #[.slice (some ⟨w.heap.size, 0, none⟩) 2 2] (w.alloc (.cells #[.int .u32 (lo : Int), .int .u32 (hi : Int)] 56)) (LsPost (w.alloc (.cells #[.int .u32 (lo : Int), .int .u32 (hi : Int)] 56)) (dig B32 v)) := by
    obtain ⟨A, c, e, _, _, hn⟩ := hl
    injection e with e1 e2 e3
    subst e1
    have := refTrim_any _ 2 2 [lo, hi] _ hn hlow rfl (by omega)
    rw [hval] at this
    exact this
  have HT := Lib.hid ht
  have H1 := Lib.hid hlo
  have H2 := Lib.hid hhi
  clear ht hl hval hlow hlo hhi l1 l2 hv
  go_enter Try.func34, Try.ntmps34
  go_wp2_with (go_at_call 80; refine HT.out.mono ?_; rintro e w1 ⟨r, rfl, hr, hb⟩)
  go_ret
  refine ⟨_, rfl, ?_, below_at hbA (Nat.le_refl _) hb⟩
  obtain ⟨q1, q2⟩ := hr
  refine ⟨q1, ?_⟩
  rcases q2 with q2 | ⟨g, c, cur, e, hg, r⟩
  · exact .inl q2
  · exact .inr ⟨g, c, cur, e, by simp at hg; omega, r⟩
end Go.Proofs.Ytaegkhdkhgemmaa

namespace Go.Proofs.Ytaegkhdkhgemmaa
open Go.RowKit Num

theorem check_l (a : Value) (xs : List Nat) (w : World) (h : Limbs w a xs) : Calls Try.prog 31 #[a] w fun e w' => e = .returned (.int .i64 (chk xs)) ∧ w = w' := by
  obtain ⟨A, c, rfl, _, hl, hA⟩ := h
  exact check_any A c _ xs w hA rfl hl
theorem refCheck_l (a : Value) (xs : List Nat) (w : World) (h : Limbs w a xs) : Calls Try.prog 27 #[a] w fun e w' => e = .returned (.int .i64 (chk xs)) ∧ w = w' := by
  obtain ⟨A, c, rfl, _, hl, hA⟩ := h
  exact refCheck_any A c _ xs w hA rfl hl
/-- Limbs that Check takes are the digits of a number. -/
theorem chk_zero {xs : List Nat} (hlow : Low B32 xs) (h : chk xs = 0) : xs = dig B32 (val B32 xs) := by
  refine (dig_val b32_two hlow ((neat_iff xs).2 fun hl h0 => ?_)).symm
  unfold chk at h
  split at h
  · cases h
  · rw [if_pos ⟨hl, by rw [List.getD_eq_getElem?_getD, List.getElem?_eq_getElem (by omega)]; exact h0⟩] at h
    cases h
theorem len_u64 {v : Nat} (hv : v < B64) : (dig B32 v).length ≤ 2 := by
  have e : B32 ^ 2 = B64 := by decide
  exact dig_len_le b32_two (by omega)
theorem same_of (a b : Value) (v : Nat) (w : World) (ha : N32 w a v) (hb : Limbs w b (dig B32 v)) (hv : v < B64) : Calls Try.prog 32 #[a, b] w fun e w' => e = .returned (.bool true) ∧ Below w.heap.size w w' := by
  have hl := len_u64 hv
  have := same_nums a b _ _ w (Limbs.num ha (by omega)) hb
  rw [decide_eq_true rfl] at this
  exact this

set_option maxHeartbeats 2000000 in
set_option maxRecDepth 100000 in
theorem checks_bad (A : Option Addr) (c L v : Nat) (xs : List Nat) (w : World) (hA : Nums .u32 w A xs) (hL : L = xs.length) (hc : L ≤ c) (hnil : A = none → c = 0) (hv : v < B64)
    (hbad : chk (xs.take 40) ≠ 0) : Calls Try.prog 3 #[.slice A L c, .int .u64 (v : Int)] w (LivesPost w) := by
  have hcut := cut_any A c L 40 xs w hA hL hc hnil (by omega)
  have hlen : (xs.take 40).length ≤ 40 := by rw [List.length_take]; omega
  generalize xs.take 40 = ys at *
  have hlim : ∀ B w' a, OwnLs B w' a ys → Limbs w' a ys := fun B w' a h => h.limbs (by omega)
  have hof := fun w => of_any v hv w
  have hrof := fun w => refOf_any v hv w
  have hlim2 : ∀ B w' a, OwnLs B w' a (dig B32 v) → Limbs w' a (dig B32 v) := fun B w' a h => h.limbs (Nat.le_trans (len_u64 hv) (by omega))
  have hsame := fun a b w h1 h2 => same_of a b v w h1 h2 hv
  have hb28 := fun a w h => bits_bad a ys w h hbad
  have hb29 := fun a w h => uint64_bad a ys w h hbad
  have h27 := fun a w h => refCheck_l a ys w h
  have h31 := fun a w h => check_l a ys w h
  obtain ⟨r, hr⟩ : ∃ r, chk ys = r := ⟨_, rfl⟩
  rw [hr] at hbad hb28 hb29 h27 h31
  have hq : (r != 0) = true := by simp [hbad]
  have hq0 : (r == r) = true := by simp
  have hq1 : (r != r) = false := by simp
  have HCUT := Lib.hid hcut
  have HLIM := Lib.hid hlim
  have HLIM2 := Lib.hid hlim2
  have HOF := Lib.hid hof
  have HROF := Lib.hid hrof
  have HSAME := Lib.hid hsame
  have H28 := Lib.hid hb28
  have H29 := Lib.hid hb29
  have H27 := Lib.hid h27
  have H31 := Lib.hid h31
  have HR := Lib.hid hr
  have HB := Lib.hid hbad
  clear hcut hlim hlim2 hof hrof hsame hb28 hb29 h27 h31 hr hbad hA hL hlen hnil hv
  go_enter Try.func3, Try.ntmps3
  go_wp2_with (first
    | (go_at_call 26; refine HCUT.out.mono ?_; rintro e w1 ⟨va, rfl, hva, hb1⟩
       have ka := HLIM.out _ _ _ hva)
    | (go_at_call 27; refine (H27.out _ _ ka).mono ?_; rintro e w2 ⟨rfl, rfl⟩)
    | (go_at_call 28; refine (H28.out _ _ ka).mono ?_; rintro e w2 ⟨rfl, hb2⟩
       have b2 := below_at hb1 (Nat.le_refl _) hb2
       have ka2 := ka.keep hb2)
    | (go_at_call 29; refine (H29.out _ _ ka2).mono ?_; rintro e w3 ⟨rfl, hb3⟩
       have b3 := below_at b2 (Nat.le_refl _) hb3
       have ka3 := ka2.keep hb3)
    | (go_at_call 30; refine (lives_any _).mono ?_; rintro e w4 ⟨rfl, hb4⟩
       have b4 := below_at b3 (Nat.le_refl _) hb4
       have ka4 := ka3.keep hb4)
    | (go_at_call 31; refine (H31.out _ _ ka4).mono ?_; rintro e w5 ⟨rfl, rfl⟩)
    | (go_at_call 33; refine (HOF.out _).mono ?_; rintro e w6 ⟨v6, rfl, hv6, hb6⟩
       have b6 := below_at b4 (Nat.le_refl _) hb6)
    | (go_at_call 34; refine (HROF.out _).mono ?_; rintro e w7 ⟨v7, rfl, hv7, hb7⟩
       have b7 := below_at b6 (Nat.le_refl _) hb7
       have k6 := hv6.is.keep hb7
       have k7 := HLIM2.out _ _ _ hv7)
    | (go_at_call 32; refine (HSAME.out _ _ _ k6 k7).mono ?_; rintro e w8 ⟨rfl, hb8⟩
       have b8 := below_at b7 (Nat.le_refl _) hb8))
  go_ret
  exact ⟨rfl, b8⟩
set_option maxHeartbeats 2000000 in
set_option maxRecDepth 100000 in
theorem checks_ok2 (A : Option Addr) (c L v n : Nat) (xs : List Nat) (w : World) (hA : Nums .u32 w A xs) (hL : L = xs.length) (hc : L ≤ c) (hnil : A = none → c = 0) (hv : v < B64)
    (hn : xs.take 40 = dig B32 n) (h2 : (dig B32 n).length ≤ 2) : Calls Try.prog 3 #[.slice A L c, .int .u64 (v : Int)] w (LivesPost w) := by
  have hcut := cut_any A c L 40 xs w hA hL hc hnil (by omega)
  have hlen : (xs.take 40).length ≤ 40 := by rw [List.length_take]; omega
  rw [hn] at hcut hlen
  have hlim : ∀ B w' a, OwnLs B w' a (dig B32 n) → Limbs w' a (dig B32 n) := fun B w' a h => h.limbs (by omega)
  have hof := fun w => of_any v hv w
  have hrof := fun w => refOf_any v hv w
  have hlim2 : ∀ B w' a, OwnLs B w' a (dig B32 v) → Limbs w' a (dig B32 v) := fun B w' a h => h.limbs (Nat.le_trans (len_u64 hv) (by omega))
  have hsame := fun a b w h1 h2 => same_of a b v w h1 h2 hv
  have hb28 := fun a w (h : Limbs w a (dig B32 n)) => bits_ok a n w h.is (by omega)
  have hb29 := fun a w (h : Limbs w a (dig B32 n)) => uint64_ok a n w h.is h2
  have h27 := fun a w h => refCheck_l a (dig B32 n) w h
  have h31 := fun a w h => check_l a (dig B32 n) w h
  have h35 := fun a w (h : Limbs w a (dig B32 n)) => small_ok a n w h.is h2
  have h36 := fun a w (h : Limbs w a (dig B32 n)) => refBits_any a n w h.is (by omega)
  rw [chk_dig (n := n) (by omega)] at h27 h31
  generalize nbits n = r at *
  have HCUT := Lib.hid hcut
  have HLIM := Lib.hid hlim
  have HLIM2 := Lib.hid hlim2
  have HOF := Lib.hid hof
  have HROF := Lib.hid hrof
  have HSAME := Lib.hid hsame
  have H28 := Lib.hid hb28
  have H29 := Lib.hid hb29
  have H27 := Lib.hid h27
  have H31 := Lib.hid h31
  have H35 := Lib.hid h35
  have H36 := Lib.hid h36
  clear hcut hlim hlim2 hof hrof hsame hb28 hb29 h27 h31 h35 h36 hA hL hlen hnil hv hn h2
  go_enter Try.func3, Try.ntmps3
  go_wp2_with (first
    | (go_at_call 26; refine HCUT.out.mono ?_; rintro e w1 ⟨va, rfl, hva, hb1⟩
       have ka := HLIM.out _ _ _ hva)
    | (go_at_call 27; refine (H27.out _ _ ka).mono ?_; rintro e w2 ⟨rfl, rfl⟩)
    | (go_at_call 28; refine (H28.out _ _ ka).mono ?_; rintro e w2 ⟨rfl, hb2⟩
       have b2 := below_at hb1 (Nat.le_refl _) hb2
       have ka2 := ka.keep hb2)
    | (go_at_call 29; refine (H29.out _ _ ka2).mono ?_; rintro e w3 ⟨rfl, hb3⟩
       have b3 := below_at b2 (Nat.le_refl _) hb3
       have ka3 := ka2.keep hb3)
    | (go_at_call 30; refine (lives_any _).mono ?_; rintro e w4 ⟨rfl, hb4⟩
       have b4 := below_at b3 (Nat.le_refl _) hb4
       have ka4 := ka3.keep hb4)
    | (go_at_call 31; refine (H31.out _ _ ka4).mono ?_; rintro e w5 ⟨rfl, rfl⟩)
    | (go_at_call 33; refine (HOF.out _).mono ?_; rintro e w6 ⟨v6, rfl, hv6, hb6⟩
       have b6 := below_at b4 (Nat.le_refl _) hb6
       have ka6 := ka4.keep hb6)
    | (go_at_call 34; refine (HROF.out _).mono ?_; rintro e w7 ⟨v7, rfl, hv7, hb7⟩
       have b7 := below_at b6 (Nat.le_refl _) hb7
       have k6 := hv6.is.keep hb7
       have k7 := HLIM2.out _ _ _ hv7
       have ka7 := ka6.keep hb7)
    | (go_at_call 32; refine (HSAME.out _ _ _ k6 k7).mono ?_; rintro e w8 ⟨rfl, hb8⟩
       have b8 := below_at b7 (Nat.le_refl _) hb8
       have ka8 := ka7.keep hb8)
    | (go_at_call 35; refine (H35.out _ _ ka8).mono ?_; rintro e w9 ⟨rfl, hb9⟩
       have b9 := below_at b8 (Nat.le_refl _) hb9
       have ka9 := ka8.keep hb9)
    | (go_at_call 36; refine (H36.out _ _ ka9).mono ?_; rintro e w10 ⟨rfl, rfl⟩))
  go_ret
  exact ⟨rfl, b9⟩

set_option maxHeartbeats 2000000 in
set_option maxRecDepth 100000 in
theorem checks_ok3 (A : Option Addr) (c L v n : Nat) (xs : List Nat) (w : World) (hA : Nums .u32 w A xs) (hL : L = xs.length) (hc : L ≤ c) (hnil : A = none → c = 0) (hv : v < B64)
    (hn : xs.take 40 = dig B32 n) (h2 : 2 < (dig B32 n).length) : Calls Try.prog 3 #[.slice A L c, .int .u64 (v : Int)] w (LivesPost w) := by
  have hcut := cut_any A c L 40 xs w hA hL hc hnil (by omega)
  have hlen : (xs.take 40).length ≤ 40 := by rw [List.length_take]; omega
  rw [hn] at hcut hlen
  have hlim : ∀ B w' a, OwnLs B w' a (dig B32 n) → Limbs w' a (dig B32 n) := fun B w' a h => h.limbs (by omega)
  have hof := fun w => of_any v hv w
  have hrof := fun w => refOf_any v hv w
  have hlim2 : ∀ B w' a, OwnLs B w' a (dig B32 v) → Limbs w' a (dig B32 v) := fun B w' a h => h.limbs (Nat.le_trans (len_u64 hv) (by omega))
  have hsame := fun a b w h1 h2 => same_of a b v w h1 h2 hv
  have hb28 := fun a w (h : Limbs w a (dig B32 n)) => bits_ok a n w h.is (by omega)
  have hb29 := fun a w (h : Limbs w a (dig B32 n)) => uint64_range a n w h.is (by omega) h2
  have h27 := fun a w h => refCheck_l a (dig B32 n) w h
  have h31 := fun a w h => check_l a (dig B32 n) w h
  have h35 := fun a w (h : Limbs w a (dig B32 n)) => small_no a n w h.is (by omega) h2
  have h36 := fun a w (h : Limbs w a (dig B32 n)) => refBits_any a n w h.is (by omega)
  rw [chk_dig (n := n) (by omega)] at h27 h31
  generalize nbits n = r at *
  have HCUT := Lib.hid hcut
  have HLIM := Lib.hid hlim
  have HLIM2 := Lib.hid hlim2
  have HOF := Lib.hid hof
  have HROF := Lib.hid hrof
  have HSAME := Lib.hid hsame
  have H28 := Lib.hid hb28
  have H29 := Lib.hid hb29
  have H27 := Lib.hid h27
  have H31 := Lib.hid h31
  have H35 := Lib.hid h35
  have H36 := Lib.hid h36
  clear hcut hlim hlim2 hof hrof hsame hb28 hb29 h27 h31 h35 h36 hA hL hlen hnil hv hn h2
  go_enter Try.func3, Try.ntmps3
  go_wp2_with (first
    | (go_at_call 26; refine HCUT.out.mono ?_; rintro e w1 ⟨va, rfl, hva, hb1⟩
       have ka := HLIM.out _ _ _ hva)
    | (go_at_call 27; refine (H27.out _ _ ka).mono ?_; rintro e w2 ⟨rfl, rfl⟩)
    | (go_at_call 28; refine (H28.out _ _ ka).mono ?_; rintro e w2 ⟨rfl, hb2⟩
       have b2 := below_at hb1 (Nat.le_refl _) hb2
       have ka2 := ka.keep hb2)
    | (go_at_call 29; refine (H29.out _ _ ka2).mono ?_; rintro e w3 ⟨rfl, hb3⟩
       have b3 := below_at b2 (Nat.le_refl _) hb3
       have ka3 := ka2.keep hb3)
    | (go_at_call 30; refine (lives_any _).mono ?_; rintro e w4 ⟨rfl, hb4⟩
       have b4 := below_at b3 (Nat.le_refl _) hb4
       have ka4 := ka3.keep hb4)
    | (go_at_call 31; refine (H31.out _ _ ka4).mono ?_; rintro e w5 ⟨rfl, rfl⟩)
    | (go_at_call 33; refine (HOF.out _).mono ?_; rintro e w6 ⟨v6, rfl, hv6, hb6⟩
       have b6 := below_at b4 (Nat.le_refl _) hb6
       have ka6 := ka4.keep hb6)
    | (go_at_call 34; refine (HROF.out _).mono ?_; rintro e w7 ⟨v7, rfl, hv7, hb7⟩
       have b7 := below_at b6 (Nat.le_refl _) hb7
       have k6 := hv6.is.keep hb7
       have k7 := HLIM2.out _ _ _ hv7
       have ka7 := ka6.keep hb7)
    | (go_at_call 32; refine (HSAME.out _ _ _ k6 k7).mono ?_; rintro e w8 ⟨rfl, hb8⟩
       have b8 := below_at b7 (Nat.le_refl _) hb8
       have ka8 := ka7.keep hb8)
    | (go_at_call 35; refine (H35.out _ _ ka8).mono ?_; rintro e w9 ⟨rfl, hb9⟩
       have b9 := below_at b8 (Nat.le_refl _) hb9
       have ka9 := ka8.keep hb9)
    | (go_at_call 36; refine (H36.out _ _ ka9).mono ?_; rintro e w10 ⟨rfl, rfl⟩))
  go_ret
  exact ⟨rfl, b9⟩

/-- The law NatChecks, for whatever limbs and whatever word. -/
theorem checks_walk (A : Option Addr) (c L v : Nat) (xs : List Nat) (w : World) (hA : Nums .u32 w A xs) (hlow : Low B32 xs) (hL : L = xs.length) (hc : L ≤ c) (hnil : A = none → c = 0) (hv : v < B64) :
    Calls Try.prog 3 #[.slice A L c, .int .u64 (v : Int)] w (LivesPost w) := by
  by_cases h0 : chk (xs.take 40) = 0
  · have hn := chk_zero (hlow.take 40) h0
    rcases Nat.lt_or_ge 2 (dig B32 (val B32 (xs.take 40))).length with h2 | h2
    · exact checks_ok3 A c L v _ xs w hA hL hc hnil hv hn h2
    · exact checks_ok2 A c L v _ xs w hA hL hc hnil hv hn h2
  · exact checks_bad A c L v xs w hA hL hc hnil hv h0
end Go.Proofs.Ytaegkhdkhgemmaa

namespace Go.Proofs.Ytaegkhdkhgemmaa
open Go.RowKit Num

theorem cmp64_call (a b : Value) (m n : Nat) (w : World) (ha : W64 w a m) (hb : W64 w b n) (hm : (dig B64 m).length ≤ 1000000000) (hn : (dig B64 n).length ≤ 1000000000) :
    Calls Try.prog 83 #[a, b] w fun e w' => e = .returned (.int .i64 (cmpN m n)) ∧ Below w.heap.size w w' := by
  obtain ⟨A, c, rfl, _, hA⟩ := ha
  obtain ⟨A', c', rfl, _, hA'⟩ := hb
  exact compare83 A A' c c' _ _ m n w hA hA' rfl rfl (by omega) (by omega)

set_option maxHeartbeats 1000000 in
set_option maxRecDepth 100000 in
theorem sub_ok (a b : Value) (m n : Nat) (w : World) (ha : N32 w a m) (hb : N32 w b n) (hm : (dig B32 m).length ≤ 262144) (hn : (dig B32 n).length ≤ 262144) (hle : n ≤ m) : Calls Try.prog 38 #[a, b] w (NatOk w (m - n)) := by
  have hc := checkAll_any w.heap.size 2 2 _ _ (nats2 (Limbs.num ha (by omega)) (Limbs.num hb (by omega))) rfl (by omega)
  rw [chkAll2, chk2, if_pos (chk_dig hm), chk_dig hn] at hc
  have hbA := below_new w (.cells #[a, b] 23)
  have ha1 := ha.keep hbA
  have hb1 := hb.keep hbA
  have hf1 := fun w' (h : N32 w' a m) => fromNat_any a m w' h (by omega)
  have hf2 := fun w' (h : N32 w' b n) => fromNat_any b n w' h (by omega)
  have lm := words_le (n := m) (K := 131072) hm
  have ln := words_le (n := n) (K := 131072) hn
  have hcm := fun v u w' (h : W64 w' v m) (k : W64 w' u n) => cmp64_call v u m n w' h k (by omega) (by omega)
  have hpr := fun v u w' (h : W64 w' v m) (k : W64 w' u n) => diff_any v u m n w' h k (by omega) hle
  have hnt := fun v w' (h : W64 w' v (m - n)) => nat_any v (m - n) w' h (Nat.le_trans (dig_len_mono (Nat.sub_le m n)) (by omega))
  have hcv : 0 ≤ cmpN m n := by unfold cmpN; split <;> (try split) <;> omega
  generalize cmpN m n = r at *
  have HC := Lib.hid hc
  have HA := Lib.hid ha1
  have HB := Lib.hid hb1
  have HF1 := Lib.hid hf1
  have HF2 := Lib.hid hf2
  have HP := Lib.hid hpr
  have HN := Lib.hid hnt
  have HCM := Lib.hid hcm
  obtain ⟨A, c, rfl, _⟩ := ha
  obtain ⟨A', c', rfl, _⟩ := hb
  clear hc ha1 hb1 hf1 hf2 hpr hle hnt lm ln hcm
  generalize (dig B32 m).length = L at *
  generalize (dig B32 n).length = L' at *
  go_enter Try.func38, Try.ntmps38
  go_wp2_with (go_at_call 75; refine HC.out.mono ?_; rintro e w1 ⟨rfl, rfl⟩)
  go_wp2_with (fail)
  refine (HF1.out _ HA.out).mono ?_
  rintro e w1 ⟨v1, rfl, hv1, hb1⟩
  go_wp2_with (fail)
  refine (HF2.out _ (HB.out.keep hb1)).mono ?_
  rintro e w2 ⟨v2, rfl, hv2, hb2⟩
  have k1 := hv1.is.keep hb2
  have k2 := hv2.is
  go_wp2_with (fail)
  refine (HCM.out _ _ _ k1 k2).mono ?_
  rintro e w3 ⟨rfl, hb3⟩
  go_wp2_with (fail)
  refine (HP.out _ _ _ (k1.keep hb3) (k2.keep hb3)).mono ?_
  rintro e w4 ⟨v4, rfl, hv4, hb4⟩
  go_wp2_with (fail)
  refine (HN.out _ _ hv4.is).mono ?_
  rintro e w5 ⟨v5, rfl, hv5, hb5⟩
  go_wp2
  go_ret2
  have b1 := below_at hbA (Nat.le_refl _) hb1
  have b2 := below_at b1 (Nat.le_refl _) hb2
  have b3 := below_at b2 (Nat.le_refl _) hb3
  have b4 := below_at b3 (Nat.le_refl _) hb4
  exact ⟨_, rfl, hv5.mono b4.size, below_at b4 (Nat.le_refl _) hb5⟩

set_option maxHeartbeats 1000000 in
set_option maxRecDepth 100000 in
theorem sub_range (a b : Value) (m n : Nat) (w : World) (ha : N32 w a m) (hb : N32 w b n) (hm : (dig B32 m).length ≤ 262144) (hn : (dig B32 n).length ≤ 262144) (hlt : m < n) : Calls Try.prog 38 #[a, b] w (NatErr w 5) := by
  have hc := checkAll_any w.heap.size 2 2 _ _ (nats2 (Limbs.num ha (by omega)) (Limbs.num hb (by omega))) rfl (by omega)
  rw [chkAll2, chk2, if_pos (chk_dig hm), chk_dig hn] at hc
  have hbA := below_new w (.cells #[a, b] 23)
  have ha1 := ha.keep hbA
  have hb1 := hb.keep hbA
  have hf1 := fun w' (h : N32 w' a m) => fromNat_any a m w' h (by omega)
  have hf2 := fun w' (h : N32 w' b n) => fromNat_any b n w' h (by omega)
  have lm := words_le (n := m) (K := 131072) hm
  have ln := words_le (n := n) (K := 131072) hn
  have hcm := fun v u w' (h : W64 w' v m) (k : W64 w' u n) => cmp64_call v u m n w' h k (by omega) (by omega)
  rw [cmpN_lt hlt] at hcm
  have HC := Lib.hid hc
  have HA := Lib.hid ha1
  have HB := Lib.hid hb1
  have HF1 := Lib.hid hf1
  have HF2 := Lib.hid hf2
  have HCM := Lib.hid hcm
  obtain ⟨A, c, rfl, _⟩ := ha
  obtain ⟨A', c', rfl, _⟩ := hb
  clear hc ha1 hb1 hf1 hf2 lm ln hcm hlt
  generalize (dig B32 m).length = L at *
  generalize (dig B32 n).length = L' at *
  go_enter Try.func38, Try.ntmps38
  go_wp2_with (go_at_call 75; refine HC.out.mono ?_; rintro e w1 ⟨rfl, rfl⟩)
  go_wp2_with (fail)
  refine (HF1.out _ HA.out).mono ?_
  rintro e w1 ⟨v1, rfl, hv1, hb1⟩
  go_wp2_with (fail)
  refine (HF2.out _ (HB.out.keep hb1)).mono ?_
  rintro e w2 ⟨v2, rfl, hv2, hb2⟩
  have k1 := hv1.is.keep hb2
  have k2 := hv2.is
  go_wp2_with (fail)
  refine (HCM.out _ _ _ k1 k2).mono ?_
  rintro e w3 ⟨rfl, hb3⟩
  go_wp2
  go_ret2
  have b1 := below_at hbA (Nat.le_refl _) hb1
  have b2 := below_at b1 (Nat.le_refl _) hb2
  exact ⟨rfl, below_at b2 (Nat.le_refl _) hb3⟩

set_option maxHeartbeats 400000 in
theorem both_any (a b : Value) (xs ys : List Nat) (w : World) (ha : Limbs w a xs) (hb : Limbs w b ys) : Calls Try.prog 40 #[a, b] w fun e w' => e = .returned (.int .i64 (chk2 xs ys)) ∧ w = w' := by
  have h1 := refCheck_l a xs w ha
  have h2 := refCheck_l b ys w hb
  unfold chk2
  by_cases h0 : chk xs = 0
  · rw [if_pos h0]
    rw [h0] at h1
    generalize chk ys = r at *
    have H1 := Lib.hid h1
    have H2 := Lib.hid h2
    clear h1 h2 ha hb h0
    go_enter Try.func40, Try.ntmps40
    go_wp2_with (fail)
    refine H1.out.mono ?_
    rintro e w1 ⟨rfl, rfl⟩
    go_wp2_with (fail)
    refine H2.out.mono ?_
    rintro e w1 ⟨rfl, rfl⟩
    go_wp2
    go_ret
    exact ⟨rfl, rfl⟩
  · rw [if_neg h0]
    generalize chk xs = r at *
    have hq : (r != 0) = true := by simp [h0]
    have H1 := Lib.hid h1
    have H0 := Lib.hid h0
    clear h1 h2 ha hb h0
    go_enter Try.func40, Try.ntmps40
    go_wp2_with (fail)
    refine H1.out.mono ?_
    rintro e w1 ⟨rfl, rfl⟩
    go_wp2
    go_ret
    exact ⟨rfl, rfl⟩

set_option maxHeartbeats 400000 in
/-- is: a number that is as it should be. -/
theorem is_ok (a b : Value) (n : Nat) (w : World) (ha : N32 w a n) (hb : Limbs w b (dig B32 n)) (hl : (dig B32 n).length ≤ 1000000000) : Calls Try.prog 41 #[a, .int .i64 0, b, .int .i64 0] w (LivesPost w) := by
  have hs := same_nums a b _ _ w (Limbs.num ha (by omega)) hb
  rw [decide_eq_true rfl] at hs
  have HS := Lib.hid hs
  clear hs ha hb
  go_enter Try.func41, Try.ntmps41
  go_wp2_with (go_at_call 32; refine HS.out.mono ?_; rintro e w1 ⟨rfl, hb1⟩)
  go_ret
  exact ⟨rfl, hb1⟩
set_option maxHeartbeats 400000 in
/-- is: an error that is as it should be. -/
theorem is_err (b : Value) (k : Int) (w : World) (h0 : k ≠ 0) : Calls Try.prog 41 #[.slice none 0 0, .int .i64 k, b, .int .i64 k] w (LivesPost w) := by
  have hq : (k != 0) = true := by simp [h0]
  have hq2 : (k == k) = true := by simp
  have H0 := Lib.hid h0
  clear h0
  go_enter Try.func41, Try.ntmps41
  go_wp2
  go_ret
  exact ⟨rfl, Below.refl _ _⟩
end Go.Proofs.Ytaegkhdkhgemmaa

namespace Go.Proofs.Ytaegkhdkhgemmaa
open Go.RowKit Num

/-- Division by a word from the top down: the words from k on are done. -/
structure WordSt (xs zs : List Nat) (v k l : Nat) : Prop where
  len : zs.length = xs.length
  low : Low B64 zs
  lt : l < v
  eq : val B64 (xs.drop k) = v * val B64 (zs.drop k) + l
theorem WordSt.start (xs : List Nat) {v : Nat} (hv : 0 < v) : WordSt xs (List.replicate xs.length 0) v xs.length 0 :=
  ⟨by simp, Low.replicate b64_pos _, hv, by simp [val]⟩
theorem WordSt.step {xs zs : List Nat} {v k l x q r : Nat} (h : WordSt xs zs v (k + 1) l) (hx : xs[k]? = some x) (hs : l * B64 + x = v * q + r) (hq : q < B64) (hr : r < v) : WordSt xs (zs.set k q) v k r := by
  have hk : k < xs.length := (List.getElem?_eq_some_iff.1 hx).1
  have hxe : xs[k] = x := (List.getElem?_eq_some_iff.1 hx).2
  have hkz : k < (zs.set k q).length := by rw [List.length_set, h.len]; exact hk
  refine ⟨by rw [List.length_set]; exact h.len, h.low.set hq, hr, ?_⟩
  rw [List.drop_eq_getElem_cons hk, List.drop_eq_getElem_cons hkz, hxe, List.getElem_set_self, List.drop_set_of_lt (by omega)]
  simp only [val]
  rw [h.eq]
  grind
theorem WordSt.fin {xs zs : List Nat} {v l : Nat} (h : WordSt xs zs v 0 l) : val B64 zs = val B64 xs / v ∧ val B64 xs % v = l := by
  have e := h.eq
  simp only [List.drop_zero] at e
  have hl := h.lt
  rw [e, Nat.mul_add_div (by omega), Nat.div_eq_of_lt hl, Nat.mul_add_mod, Nat.mod_eq_of_lt hl]
  simp

def DivWPost (w : World) (q r : Nat) (e : Ending) (w' : World) : Prop := ∃ v, e = .returned (.tuple #[v, .int .u64 (r : Int)]) ∧ OwnW w.heap.size w' v q ∧ Below w.heap.size w w'

set_option maxHeartbeats 2000000 in
set_option maxRecDepth 100000 in
theorem divideWord_any (A : Option Addr) (c L d : Nat) (xs : List Nat) (w : World) (hA : Nums .u64 w A xs) (hx : Low B64 xs) (hL : L = xs.length) (hl : L ≤ 100000000000) (hd0 : 0 < d) (hd : d < B64) :
    Calls Try.prog 112 #[.slice A L c, .int .u64 (d : Int)] w (DivWPost w (val B64 xs / d) (val B64 xs % d)) := by
  have hmk := make64 L (by omega) w
  have hr0 := Row.made w .u64 L 24
  have hbA : Below w.heap.size w (w.alloc (.cells (madeCells #[.int .u64 0] L) 24)) := (Below.refl _ _).alloc (Nat.le_refl _) _
  have hst0 := WordSt.start xs hd0
  rw [← hL] at hst0
  have HL := Lib.hid hL
  have HR0 := Lib.hid hr0
  clear hL hr0
  go_enter Try.func112, Try.ntmps112
  go_wp2
  go_loopw [5, 6] (fun q t wr => ∃ (k l : Nat) (zs : List Nat), k ≤ L ∧ t = .int .i64 ((k : Int) - 1) ∧ q = .int .u64 (l : Int) ∧ WordSt xs zs d k l ∧ Row .u64 24 wr w.heap.size zs ∧ Below w.heap.size w wr) (fun _ t _ => (intOf t + 1).toNat)
  case atStart => exact ⟨L, 0, _, Nat.le_refl _, rfl, rfl, hst0, HR0.out, hbA⟩
  case round =>
    clear hst0 HR0 hbA hmk
    obtain ⟨k, l, zs, hk, rfl, rfl, hst, hrow, hbl⟩ := hrel
    have hlen := hst.len
    rw [← HL.out] at hlen
    have HLEN := Lib.hid hlen
    clear hlen
    by_cases h0 : k = 0
    · subst h0
      obtain ⟨f1, f2⟩ := hst.fin
      have hn := hrow.nums0 zs.length
      rw [List.take_length] at hn
      have own := own_of_trim b64_two hrow hst.low (Nat.le_refl w.heap.size)
      rw [f1, HLEN.out] at own
      have htr := trim_any _ L L zs _ hn hst.low HLEN.out.symm (Nat.le_refl _) (by omega)
      rw [f1] at htr
      have HT := Lib.hid htr
      have F2 := Lib.hid f2
      clear htr f1 f2 hn hst hx hA
      go_wp2_with (go_at_call 78; refine HT.out.mono ?_; rintro e w9 ⟨rfl, rfl⟩)
      go_ret2
      rw [F2.out]
      exact ⟨_, rfl, own, hbl⟩
    · obtain ⟨j, rfl⟩ : ∃ j, k = j + 1 := ⟨k - 1, by omega⟩
      obtain ⟨g, off, x, rfl, hg, hxv, hcx⟩ := (hA.keep hbl).at_ (i := j) (by have := HL.out; omega)
      have hxl : x < B64 := hx x (List.mem_of_getElem? hxv)
      have hdv := fun w => div64_any l x d hst.lt hxl hd w
      have hs := Nat.div_add_mod (l * B64 + x) d
      have hr := Nat.mod_lt (l * B64 + x) hd0
      have hq : (l * B64 + x) / d < B64 := by
        refine Nat.div_lt_of_lt_mul ?_
        have := Nat.mul_le_mul_right B64 (show l + 1 ≤ d from hst.lt)
        rw [Nat.add_mul] at this; omega
      generalize (l * B64 + x) / d = q at *
      generalize (l * B64 + x) % d = r at *
      have hst' := hst.step hxv hs.symm hq hr
      obtain ⟨o, ho⟩ : ∃ o, zs[j]? = some o := ⟨zs[j]'(by have := HLEN.out; omega), List.getElem?_eq_getElem _⟩
      have hco := hrow.cell ho
      have hfo := hrow.frozen j
      have HST := Lib.hid hst'
      have HX := Lib.hid hxv
      have HO := Lib.hid ho
      have HDV := Lib.hid hdv
      clear hst' hxv ho hxl hs hq hr hst hA hx hdv
      go_wp2_with (go_at_call 131; refine (HDV.out _).mono ?_; rintro e w1 ⟨rfl, m, rfl⟩)
      go_roundw
      case rel => exact ⟨j, r, _, by omega, by first | rfl | go_num, rfl, HST.out, Row.set (Row.of_block hrow (by rfl)) j q, below_set (below_drewN hbl _) (Nat.le_refl _) _⟩
      case measure => simp [intOf]
theorem divideWord_call (a : Value) (m d : Nat) (w : World) (ha : W64 w a m) (hl : (dig B64 m).length ≤ 100000000000) (hd0 : 0 < d) (hd : d < B64) : Calls Try.prog 112 #[a, .int .u64 (d : Int)] w (DivWPost w (m / d) (m % d)) := by
  obtain ⟨A, c, rfl, _, hA⟩ := ha
  have := divideWord_any A c _ d _ w hA (low_dig b64_two m) rfl hl hd0 hd
  rw [val_dig b64_two] at this
  exact this

/-- A divisor whose highest bit is set. -/
def Normal (n : Nat) : Prop := ∃ k, 2 ≤ k ∧ B64 ^ k ≤ 2 * n ∧ n < B64 ^ k
theorem Normal.len {n : Nat} (h : Normal n) : 2 ≤ (dig B64 n).length ∧ B64 ^ (dig B64 n).length ≤ 2 * n ∧ ∀ t, (dig B64 n)[(dig B64 n).length - 1]? = some t → B64 ≤ 2 * t := by
  obtain ⟨k, h2, h1, h3⟩ := h
  have hle := dig_len_le b64_two h3
  have hge : k ≤ (dig B64 n).length := by
    rcases Nat.lt_or_ge (dig B64 n).length k with h4 | h4
    · exfalso
      have h5 := dig_len_lt b64_two (n := n)
      have h6 := Nat.pow_le_pow_right b64_pos (show (dig B64 n).length + 1 ≤ k from h4)
      rw [Nat.pow_succ] at h6
      have h7 : B64 ^ (dig B64 n).length * 2 ≤ B64 ^ (dig B64 n).length * B64 := Nat.mul_le_mul_left _ b64_two
      omega
    · exact h4
  have hk : (dig B64 n).length = k := by omega
  refine ⟨by omega, by rw [hk]; exact h1, fun t ht => ?_⟩
  rw [hk] at ht
  have e := dig_getElem? b64_two ht
  have hd : n / B64 ^ (k - 1) < B64 := by
    refine Nat.div_lt_of_lt_mul ?_
    have : B64 ^ k = B64 ^ (k - 1) * B64 := by rw [← Nat.pow_succ]; congr 1; omega
    omega
  rw [Nat.mod_eq_of_lt hd] at e
  have hp : 0 < B64 ^ (k - 1) := Nat.pow_pos b64_pos
  have h8 := Nat.lt_div_mul_add (a := n) hp
  rw [← e] at h8
  have h9 : B64 ^ k = B64 * B64 ^ (k - 1) := by rw [Nat.mul_comm, ← Nat.pow_succ]; congr 1; omega
  rcases Nat.lt_or_ge (2 * t + 1) B64 with h10 | h10
  · exfalso
    have h11 : (2 * t + 2) * B64 ^ (k - 1) ≤ B64 * B64 ^ (k - 1) := Nat.mul_le_mul_right _ h10
    have h12 : (2 * t + 2) * B64 ^ (k - 1) = 2 * (t * B64 ^ (k - 1) + B64 ^ (k - 1)) := by grind
    omega
  · unfold B64 at *; omega

theorem lenm {m n : Nat} (h : n ≤ m) : (dig B64 n).length ≤ (dig B64 m).length := dig_len_mono h

set_option maxHeartbeats 2000000 in
set_option maxRecDepth 100000 in
theorem divideNormal_lt (a b : Value) (m n : Nat) (w : World) (ha : W64 w a m) (hb : W64 w b n) (hn : (dig B64 n).length ≤ 100000000) (hm : (dig B64 m).length ≤ 100000000) (hlt : m < n) :
    Calls Try.prog 114 #[a, b] w (DivPost w (m / n) (m % n)) := by
  have hcmp := cmp64_call a b m n w ha hb (by omega) (by omega)
  rw [cmpN_lt hlt] at hcmp
  rw [Nat.div_eq_of_lt hlt, Nat.mod_eq_of_lt hlt]
  have HC := Lib.hid hcmp
  have HA := Lib.hid ha
  obtain ⟨A, c, rfl, _⟩ := ha
  obtain ⟨A', c', rfl, _⟩ := hb
  clear hcmp hlt
  generalize (dig B64 m).length = L at *
  generalize (dig B64 n).length = L' at *
  go_enter Try.func114, Try.ntmps114
  go_wp2_with (fail)
  refine HC.out.mono ?_
  rintro e w1 ⟨rfl, hb1⟩
  go_wp2
  go_ret2
  exact ⟨_, _, rfl, w64_nil _, HA.out.keep hb1, hb1⟩

set_option maxHeartbeats 2000000 in
set_option maxRecDepth 100000 in
theorem divideNormal_s (a b : Value) (m n : Nat) (w : World) (ha : W64 w a m) (hb : W64 w b n) (hn : Normal n) (hm : (dig B64 m).length ≤ 100000000) (hle : n ≤ m) (hs : (dig B64 n).length < 200) :
    Calls Try.prog 114 #[a, b] w (DivPost w (m / n) (m % n)) := by
  have hll := lenm hle
  have hcmp := cmp64_call a b m n w ha hb (by omega) (by omega)
  have hc0 : 0 ≤ cmpN m n := by
    rcases Nat.lt_or_ge n m with h | h
    · rw [cmpN_gt h]; omega
    · obtain rfl : m = n := by omega
      rw [cmpN_eq]; omega
  generalize cmpN m n = cc at *
  obtain ⟨n1, n2, n3⟩ := hn.len
  have hld : ∀ w', Below w.heap.size w w' → Calls Try.prog 132 #[a, b] w' (DivPost w' (m / n) (m % n)) := fun w' h => by
    obtain ⟨A, c, rfl, _, hA⟩ := ha.keep h
    obtain ⟨A', c', rfl, _, hB⟩ := hb.keep h
    have := longDivide_any A A' c c' _ _ _ _ w' hA hB (low_dig b64_two m) (low_dig b64_two n) (neat_dig b64_two n) rfl rfl n1 hll (by omega) n3
    rw [val_dig b64_two, val_dig b64_two] at this
    exact this
  have HC := Lib.hid hcmp
  have HLD := Lib.hid hld
  obtain ⟨A, c, rfl, _⟩ := ha
  obtain ⟨A', c', rfl, _⟩ := hb
  clear hcmp hld n2 n3 hn hle
  generalize (dig B64 m).length = L at *
  generalize (dig B64 n).length = L' at *
  have hs' : L' < 200 := hs
  go_enter Try.func114, Try.ntmps114
  go_wp2_with (fail)
  refine HC.out.mono ?_
  rintro e w1 ⟨rfl, hb1⟩
  go_wp2_with (fail)
  refine (HLD.out _ hb1).mono ?_
  rintro e w2 ⟨v, u, rfl, hv, hu, hb2⟩
  go_wp2
  go_ret2
  exact ⟨_, _, rfl, hv, hu, below_at hb1 (Nat.le_refl _) hb2⟩

set_option maxHeartbeats 2000000 in
set_option maxRecDepth 100000 in
theorem divideNormal_l (a b : Value) (m n : Nat) (w : World) (ha : W64 w a m) (hb : W64 w b n) (hn : Normal n) (hm : (dig B64 m).length ≤ 100000000) (hle : n ≤ m) (hs0 : 200 ≤ (dig B64 n).length) (hs : (dig B64 m).length < 200 + (dig B64 n).length) :
    Calls Try.prog 114 #[a, b] w (DivPost w (m / n) (m % n)) := by
  have hll := lenm hle
  have hcmp := cmp64_call a b m n w ha hb (by omega) (by omega)
  have hc0 : 0 ≤ cmpN m n := by
    rcases Nat.lt_or_ge n m with h | h
    · rw [cmpN_gt h]; omega
    · obtain rfl : m = n := by omega
      rw [cmpN_eq]; omega
  generalize cmpN m n = cc at *
  obtain ⟨n1, n2, n3⟩ := hn.len
  have hld : ∀ w', Below w.heap.size w w' → Calls Try.prog 132 #[a, b] w' (DivPost w' (m / n) (m % n)) := fun w' h => by
    obtain ⟨A, c, rfl, _, hA⟩ := ha.keep h
    obtain ⟨A', c', rfl, _, hB⟩ := hb.keep h
    have := longDivide_any A A' c c' _ _ _ _ w' hA hB (low_dig b64_two m) (low_dig b64_two n) (neat_dig b64_two n) rfl rfl n1 hll (by omega) n3
    rw [val_dig b64_two, val_dig b64_two] at this
    exact this
  have HC := Lib.hid hcmp
  have HLD := Lib.hid hld
  obtain ⟨A, c, rfl, _⟩ := ha
  obtain ⟨A', c', rfl, _⟩ := hb
  clear hcmp hld n2 n3 hn hle
  generalize (dig B64 m).length = L at *
  generalize (dig B64 n).length = L' at *
  have hs' : L < 200 + L' := hs
  have hs1 : ¬ L' < 200 := by omega
  go_enter Try.func114, Try.ntmps114
  go_wp2_with (fail)
  refine HC.out.mono ?_
  rintro e w1 ⟨rfl, hb1⟩
  go_wp2_with (fail)
  refine (HLD.out _ hb1).mono ?_
  rintro e w2 ⟨v, u, rfl, hv, hu, hb2⟩
  go_wp2
  go_ret2
  exact ⟨_, _, rfl, hv, hu, below_at hb1 (Nat.le_refl _) hb2⟩

theorem divideNormal_any (a b : Value) (m n : Nat) (w : World) (ha : W64 w a m) (hb : W64 w b n) (hn : Normal n) (hnl : (dig B64 n).length ≤ 100000000) (hm : (dig B64 m).length ≤ 100000000) (hs : (dig B64 n).length < 200 ∨ (dig B64 m).length < 200 + (dig B64 n).length) :
    Calls Try.prog 114 #[a, b] w (DivPost w (m / n) (m % n)) := by
  rcases Nat.lt_or_ge m n with h | h
  · exact divideNormal_lt a b m n w ha hb hnl hm h
  · rcases Nat.lt_or_ge (dig B64 n).length 200 with h2 | h2
    · exact divideNormal_s a b m n w ha hb hn hm h h2
    · exact divideNormal_l a b m n w ha hb hn hm h h2 (by omega)

/-- The shift that makes a divisor normal. -/
theorem normal_shift {n v : Nat} (h2 : 2 ≤ (dig B64 n).length) (hv : (dig B64 n)[(dig B64 n).length - 1]? = some v) : Normal (n * 2 ^ (64 - nbits v)) ∧ (dig B64 (n * 2 ^ (64 - nbits v))).length ≤ (dig B64 n).length ∧ v < B64 ∧ v ≠ 0 := by
  obtain ⟨L, hL⟩ : ∃ L, (dig B64 n).length = L + 1 := ⟨(dig B64 n).length - 1, by omega⟩
  rw [hL, Nat.add_sub_cancel] at hv
  have hb := nbits_words hL hv
  have hvl : v < B64 := low_dig b64_two n v (List.mem_of_getElem? hv)
  have hv64 := nbits_64 hvl
  have hv0 : v ≠ 0 := fun h => by
    have := (neat_iff _).1 (neat_dig b64_two n) (by omega)
    simp only [hL, Nat.add_sub_cancel] at this
    rw [(List.getElem?_eq_some_iff.1 hv).2] at this
    exact this h
  have hn0 : n ≠ 0 := fun h => by rw [h, dig_zero] at hL; simp at hL
  have h1 := nbits_ge hn0
  have h3 := nbits_lt n
  have hp := nbits_ne hv0
  have e : B64 ^ (L + 1) = 2 ^ (64 * L + 64) := by rw [← pow_b64]; congr 1
  have k1 : B64 ^ (L + 1) ≤ 2 * (n * 2 ^ (64 - nbits v)) := by
    have := Nat.mul_le_mul_right (2 ^ (64 - nbits v)) h1
    rw [← Nat.pow_add, show nbits n - 1 + (64 - nbits v) = 64 * L + 63 by omega] at this
    rw [e, show 64 * L + 64 = 64 * L + 63 + 1 by omega, Nat.pow_succ]
    omega
  have k2 : n * 2 ^ (64 - nbits v) < B64 ^ (L + 1) := by
    have := Nat.mul_lt_mul_of_pos_right h3 (Nat.two_pow_pos (64 - nbits v))
    rw [← Nat.pow_add, show nbits n + (64 - nbits v) = 64 * L + 64 by omega] at this
    rw [e]; exact this
  exact ⟨⟨L + 1, by omega, k1, k2⟩, by rw [hL]; exact dig_len_le b64_two k2, hvl, hv0⟩
theorem shift_len {m s : Nat} (hs : s ≤ 64) : (dig B64 (m * 2 ^ s)).length ≤ (dig B64 m).length + 1 := by
  refine dig_len_le b64_two ?_
  rw [Nat.pow_succ]
  have h1 := dig_len_lt b64_two (n := m)
  have h2 : 2 ^ s ≤ B64 := by
    have := Nat.pow_le_pow_right (show 0 < 2 by omega) hs
    have e : B64 = 2 ^ 64 := by decide
    omega
  exact Nat.lt_of_lt_of_le (Nat.mul_lt_mul_of_pos_right h1 (Nat.two_pow_pos s)) (Nat.mul_le_mul_left _ h2)

set_option maxHeartbeats 2000000 in
set_option maxRecDepth 100000 in
theorem divide_lt (a b : Value) (m n : Nat) (w : World) (ha : W64 w a m) (hb : W64 w b n) (hn : (dig B64 n).length ≤ 100000000) (hm : (dig B64 m).length ≤ 100000000) (hlt : m < n) :
    Calls Try.prog 88 #[a, b] w (DivPost w (m / n) (m % n)) := by
  have hcmp := cmp64_call a b m n w ha hb (by omega) (by omega)
  rw [cmpN_lt hlt] at hcmp
  rw [Nat.div_eq_of_lt hlt, Nat.mod_eq_of_lt hlt]
  have HC := Lib.hid hcmp
  have HA := Lib.hid ha
  obtain ⟨A, c, rfl, _⟩ := ha
  obtain ⟨A', c', rfl, _⟩ := hb
  clear hcmp hlt
  generalize (dig B64 m).length = L at *
  generalize (dig B64 n).length = L' at *
  go_enter Try.func88, Try.ntmps88
  go_wp2_with (fail)
  refine HC.out.mono ?_
  rintro e w1 ⟨rfl, hb1⟩
  go_wp2
  go_ret2
  exact ⟨_, _, rfl, w64_nil _, HA.out.keep hb1, hb1⟩

set_option maxHeartbeats 2000000 in
set_option maxRecDepth 100000 in
theorem divide_one (a b : Value) (m n : Nat) (w : World) (ha : W64 w a m) (hb : W64 w b n) (hn : (dig B64 n).length = 1) (hm : (dig B64 m).length ≤ 100000000) (hle : n ≤ m) :
    Calls Try.prog 88 #[a, b] w (DivPost w (m / n) (m % n)) := by
  have hcmp := cmp64_call a b m n w ha hb (by omega) (by omega)
  have hc0 : 0 ≤ cmpN m n := by
    rcases Nat.lt_or_ge n m with h | h
    · rw [cmpN_gt h]; omega
    · obtain rfl : m = n := by omega
      rw [cmpN_eq]; omega
  generalize cmpN m n = cc at *
  have hnl := dig_len_lt b64_two (n := n)
  rw [hn, Nat.pow_one] at hnl
  have hn0 : 0 < n := by
    rcases Nat.eq_zero_or_pos n with h | h
    · rw [h, dig_zero] at hn; simp at hn
    · exact h
  have hdw := fun w' (h : W64 w' a m) => divideWord_call a m n w' h (by omega) hn0 hnl
  have hrem : m % n < B64 := Nat.lt_of_lt_of_le (Nat.mod_lt _ hn0) (Nat.le_of_lt hnl)
  have htr := fun w' => trim_any (some ⟨w'.heap.size, 0, none⟩) 1 1 [m % n] (w'.alloc (.cells #[.int .u64 ((m % n : Nat) : Int)] 24)) (Row.nums0 (row_one w' (m % n)) 1) (Low.cons hrem (Low.nil _)) rfl (Nat.le_refl _) (by omega)
  have hown := fun w' => (own_of_trim b64_two (row_one w' (m % n)) (Low.cons hrem (Low.nil _)) (Nat.le_refl w'.heap.size)).is
  have hv1 : val B64 [m % n] = m % n := by simp [val]
  have hl1 : ([m % n] : List Nat).length = 1 := rfl
  rw [hv1] at htr
  rw [hv1, hl1] at hown
  obtain ⟨A', c', rfl, hc', hB⟩ := hb
  obtain ⟨g, off, v, rfl, hg, hv, hcv⟩ := hB.at_ (i := 0) (by omega)
  have hvn : v = n := by
    have e := dig_getElem? b64_two hv
    rw [Nat.pow_zero, Nat.div_one, Nat.mod_eq_of_lt hnl] at e
    exact e
  subst hvn
  rw [Nat.add_zero] at hcv
  rw [hn] at hcmp hc' ⊢
  have HC := Lib.hid hcmp
  have HDW := Lib.hid hdw
  have HTR := Lib.hid htr
  have HOW := Lib.hid hown
  have HA := Lib.hid ha
  obtain ⟨A, c, rfl, _⟩ := ha
  clear hcmp hdw htr hown hB hv hnl hrem hn hle hv1 hl1
  generalize (dig B64 m).length = L at *
  generalize m % v = R at *
  generalize m / v = Q at *
  go_enter Try.func88, Try.ntmps88
  go_wp2_with (fail)
  refine HC.out.mono ?_
  rintro e w1 ⟨rfl, hb1⟩
  have hcv1 := (hb1.cell (p := ⟨g, off, none⟩) hg).trans hcv
  go_wp2_with (fail)
  refine (HDW.out _ (HA.out.keep hb1)).mono ?_
  rintro e w2 ⟨q, rfl, hq, hb2⟩
  go_wp2_with (fail)
  refine (HTR.out _).mono ?_
  rintro e w3 ⟨rfl, rfl⟩
  go_wp2
  go_ret2
  exact ⟨_, _, rfl, hq.is.keep (below_new _ _), HOW.out _, (below_at hb1 (Nat.le_refl _) hb2).alloc (below_at hb1 (Nat.le_refl _) hb2).size _⟩

set_option maxHeartbeats 2000000 in
set_option maxRecDepth 100000 in
theorem divide_long (a b : Value) (m n : Nat) (w : World) (ha : W64 w a m) (hb : W64 w b n) (hn : 2 ≤ (dig B64 n).length) (hm : (dig B64 m).length ≤ 10000000) (hle : n ≤ m) (hs : (dig B64 n).length < 200 ∨ (dig B64 m).length < 199 + (dig B64 n).length) :
    Calls Try.prog 88 #[a, b] w (DivPost w (m / n) (m % n)) := by
  have hll := lenm hle
  have hcmp := cmp64_call a b m n w ha hb (by omega) (by omega)
  have hc0 : 0 ≤ cmpN m n := by
    rcases Nat.lt_or_ge n m with h | h
    · rw [cmpN_gt h]; omega
    · obtain rfl : m = n := by omega
      rw [cmpN_eq]; omega
  generalize cmpN m n = cc at *
  obtain ⟨A', c', hbe, hc', hB⟩ := id hb
  obtain ⟨g, off, v, hAe, hg, hv, hcv⟩ := hB.at_ (i := (dig B64 n).length - 1) (by omega)
  obtain ⟨hN, hnl, hvl, hv0⟩ := normal_shift hn hv
  have hnb := nbits_ne hv0
  have hlz := fun w => lz_any v hvl w
  have hs64 : 64 - nbits v ≤ 64 := by omega
  generalize 64 - nbits v = s at *
  have hml := shift_len (m := m) (s := s) hs64
  have hge : (dig B64 n).length ≤ (dig B64 (n * 2 ^ s)).length := dig_len_mono (Nat.le_mul_of_pos_right _ (Nat.two_pow_pos s))
  have hsa := fun w' (h : W64 w' a m) => shiftLeft_any a m s w' h (by omega) (by omega)
  have hsb := fun w' (h : W64 w' b n) => shiftLeft_any b n s w' h (by omega) (by omega)
  have hdn := fun x y w' (h : W64 w' x (m * 2 ^ s)) (k : W64 w' y (n * 2 ^ s)) => divideNormal_any x y _ _ w' h k hN (by omega) (by omega) (by omega)
  have e1 : m * 2 ^ s / (n * 2 ^ s) = m / n := Nat.mul_div_mul_right _ _ (Nat.two_pow_pos s)
  have e2 : m * 2 ^ s % (n * 2 ^ s) = m % n * 2 ^ s := Nat.mul_mod_mul_right _ _ _
  rw [e1, e2] at hdn
  have hrl : (dig B64 (m % n * 2 ^ s)).length ≤ 100000000 := by
    have := lenm (show m % n * 2 ^ s ≤ m * 2 ^ s from Nat.mul_le_mul_right _ (Nat.mod_le _ _))
    omega
  have hsr := fun x w' (h : W64 w' x (m % n * 2 ^ s)) => shiftRight_any x _ s w' h (by omega) (by omega)
  rw [Nat.mul_div_cancel _ (Nat.two_pow_pos s)] at hsr
  have HC := Lib.hid hcmp
  have HLZ := Lib.hid hlz
  have HSA := Lib.hid hsa
  have HSB := Lib.hid hsb
  have HDN := Lib.hid hdn
  have HSR := Lib.hid hsr
  have HA := Lib.hid ha
  have HB := Lib.hid hb
  obtain ⟨A, c, rfl, _⟩ := ha
  subst hbe hAe
  clear hcmp hlz hsa hsb hdn hsr hb hB hv hN hnl hml hge hrl e1 e2 hle hs hv0 hvl
  have hx : ((dig B64 n).length : Int) - 1 = (((dig B64 n).length - 1 : Nat) : Int) := by omega
  generalize (dig B64 m).length = L at *
  generalize hL' : (dig B64 n).length = L' at *
  obtain ⟨K, rfl⟩ : ∃ K, L' = K + 1 := ⟨L' - 1, by omega⟩
  rw [Nat.add_sub_cancel] at hcv
  clear hx hL'
  have hne : (((K : Int) + 1) == 1) = false := by simp; omega
  go_enter Try.func88, Try.ntmps88
  go_wp2_with (fail)
  refine HC.out.mono ?_
  rintro e w1 ⟨rfl, hb1⟩
  have hcv1 := (hb1.cell (p := ⟨g, off + K, none⟩) hg).trans hcv
  go_wp2_with (fail)
  refine (HLZ.out _).mono ?_
  rintro e w2 ⟨rfl, rfl⟩
  have ka := HA.out.keep hb1
  have kb := HB.out.keep hb1
  go_wp2_with (fail)
  refine (HSA.out _ ka).mono ?_
  rintro e w3 ⟨x, rfl, hx, hb3⟩
  go_wp2_with (fail)
  refine (HSB.out _ (kb.keep hb3)).mono ?_
  rintro e w4 ⟨y, rfl, hy, hb4⟩
  go_wp2_with (fail)
  refine (HDN.out _ _ _ (hx.is.keep hb4) hy.is).mono ?_
  rintro e w5 ⟨q, r, rfl, hq, hr, hb5⟩
  go_wp2_with (fail)
  refine (HSR.out _ _ hr).mono ?_
  rintro e w6 ⟨z, rfl, hz, hb6⟩
  go_wp2
  go_ret2
  exact ⟨_, _, rfl, hq.keep hb6, hz, below_at (below_at (below_at (below_at hb1 (Nat.le_refl _) hb3) (Nat.le_refl _) hb4) (Nat.le_refl _) hb5) (Nat.le_refl _) hb6⟩

/-- divide: where long division is what is done. -/
theorem divide_any (a b : Value) (m n : Nat) (w : World) (ha : W64 w a m) (hb : W64 w b n) (hn0 : 0 < n) (hn : (dig B64 n).length ≤ 10000000) (hm : (dig B64 m).length ≤ 10000000) (hs : (dig B64 n).length < 200 ∨ (dig B64 m).length < 199 + (dig B64 n).length) :
    Calls Try.prog 88 #[a, b] w (DivPost w (m / n) (m % n)) := by
  rcases Nat.lt_or_ge m n with h | h
  · exact divide_lt a b m n w ha hb (by omega) (by omega) h
  · have h1 := dig_len_pos (n := n) (by omega)
    rcases Nat.lt_or_ge (dig B64 n).length 2 with h2 | h2
    · exact divide_one a b m n w ha hb (by omega) (by omega) h
    · exact divide_long a b m n w ha hb h2 hm h hs
end Go.Proofs.Ytaegkhdkhgemmaa

namespace Go.Proofs.Ytaegkhdkhgemmaa
open Go.RowKit Num

set_option maxHeartbeats 1000000 in
set_option maxRecDepth 100000 in
theorem divMod_bad (a b : Value) (xs ys : List Nat) (w : World) (ha : Limbs w a xs) (hb : Limbs w b ys) (h0 : chk2 xs ys ≠ 0) : Calls Try.prog 47 #[a, b] w fun e w' => e = .returned (.tuple #[.slice none 0 0, .slice none 0 0, .int .i64 (chk2 xs ys)]) ∧ Below w.heap.size w w' := by
  have hc := checkAll_any w.heap.size 2 2 _ _ (nats2 ha hb) rfl (by omega)
  rw [chkAll2] at hc
  generalize chk2 xs ys = r at *
  have hbA := below_new w (.cells #[a, b] 23)
  have hq : (r != 0) = true := by simp [h0]
  have HC := Lib.hid hc
  have H0 := Lib.hid h0
  obtain ⟨A, c, rfl, _⟩ := ha
  obtain ⟨A', c', rfl, _⟩ := hb
  clear hc h0
  generalize xs.length = L at *
  generalize ys.length = L' at *
  go_enter Try.func47, Try.ntmps47
  go_wp2_with (go_at_call 75; refine HC.out.mono ?_; rintro e w1 ⟨rfl, rfl⟩)
  go_ret3
  exact ⟨rfl, hbA⟩

set_option maxHeartbeats 1000000 in
set_option maxRecDepth 100000 in
theorem divMod_zero (a b : Value) (m n : Nat) (w : World) (ha : N32 w a m) (hb : N32 w b n) (hm : (dig B32 m).length ≤ 262144) (hn : (dig B32 n).length ≤ 262144) (h0 : n = 0) : Calls Try.prog 47 #[a, b] w fun e w' => e = .returned (.tuple #[.slice none 0 0, .slice none 0 0, .int .i64 4]) ∧ Below w.heap.size w w' := by
  have hc := checkAll_any w.heap.size 2 2 _ _ (nats2 (Limbs.num ha (by omega)) (Limbs.num hb (by omega))) rfl (by omega)
  rw [chkAll2, chk2, if_pos (chk_dig hm), chk_dig hn] at hc
  have hbA := below_new w (.cells #[a, b] 23)
  have HC := Lib.hid hc
  have hz : (dig B32 n).length = 0 := by rw [h0, dig_zero]; rfl
  obtain ⟨A, c, rfl, _⟩ := ha
  obtain ⟨A', c', rfl, _⟩ := hb
  clear hc h0
  rw [hz] at HC hbA ⊢
  clear hz hn
  generalize (dig B32 m).length = L at *
  go_enter Try.func47, Try.ntmps47
  go_wp2_with (go_at_call 75; refine HC.out.mono ?_; rintro e w1 ⟨rfl, rfl⟩)
  go_ret3
  exact ⟨rfl, hbA⟩

/-- Quotient and remainder come back, both of the call's own. -/
def DivNat (w : World) (q r : Nat) (e : Ending) (w' : World) : Prop := ∃ v u, e = .returned (.tuple #[v, u, .int .i64 0]) ∧ OwnL w.heap.size w' v q ∧ OwnL w.heap.size w' u r ∧ Below w.heap.size w w'

set_option maxHeartbeats 2000000 in
set_option maxRecDepth 100000 in
theorem divMod_ok (a b : Value) (m n : Nat) (w : World) (ha : N32 w a m) (hb : N32 w b n) (hm : (dig B32 m).length ≤ 262144) (hn : (dig B32 n).length ≤ 262144) (h0 : 0 < n) (hs : (dig B64 n).length < 200 ∨ (dig B64 m).length < 199 + (dig B64 n).length) : Calls Try.prog 47 #[a, b] w (DivNat w (m / n) (m % n)) := by
  have hc := checkAll_any w.heap.size 2 2 _ _ (nats2 (Limbs.num ha (by omega)) (Limbs.num hb (by omega))) rfl (by omega)
  rw [chkAll2, chk2, if_pos (chk_dig hm), chk_dig hn] at hc
  have hbA := below_new w (.cells #[a, b] 23)
  have HC := Lib.hid hc
  have ha1 := ha.keep hbA
  have hb1 := hb.keep hbA
  have hf1 := fun w' (h : N32 w' a m) => fromNat_any a m w' h (by omega)
  have hf2 := fun w' (h : N32 w' b n) => fromNat_any b n w' h (by omega)
  have lm := words_le (n := m) (K := 131072) hm
  have ln := words_le (n := n) (K := 131072) hn
  have hdv := fun v u w' (h : W64 w' v m) (k : W64 w' u n) => divide_any v u m n w' h k h0 (by omega) (by omega) hs
  have hlq : (dig B64 (m / n)).length ≤ 131072 := Nat.le_trans (lenm (Nat.div_le_self _ _)) lm
  have hlr : (dig B64 (m % n)).length ≤ 131072 := Nat.le_trans (lenm (Nat.mod_le _ _)) lm
  have hn1 := fun v w' (h : W64 w' v (m / n)) => nat_any v _ w' h (by omega)
  have hn2 := fun v w' (h : W64 w' v (m % n)) => nat_any v _ w' h (by omega)
  have hpos : 0 < (dig B32 n).length := by
    rcases Nat.eq_zero_or_pos (dig B32 n).length with h | h
    · have := (dig_nil_iff b32_two).1 (List.eq_nil_of_length_eq_zero h); omega
    · exact h
  have HA1 := Lib.hid ha1
  have HB1 := Lib.hid hb1
  have HF1 := Lib.hid hf1
  have HF2 := Lib.hid hf2
  have HDV := Lib.hid hdv
  have HN1 := Lib.hid hn1
  have HN2 := Lib.hid hn2
  clear ha1 hb1 hf1 hf2 hdv hn1 hn2
  obtain ⟨A, c, rfl, _⟩ := ha
  obtain ⟨A', c', rfl, _⟩ := hb
  clear hc lm ln hlq hlr hs
  generalize (dig B32 m).length = L at *
  generalize (dig B32 n).length = L' at *
  go_enter Try.func47, Try.ntmps47
  go_wp2_with (fail)
  refine (HC.out).mono ?_
  rintro e w1 ⟨rfl, rfl⟩
  go_wp2_with (fail)
  refine (HF1.out _ HA1.out).mono ?_
  rintro e w2 ⟨v1, rfl, hv1, hb2⟩
  have b2 := below_at hbA (Nat.le_refl _) hb2
  have kb_2 := HB1.out.keep hb2
  have k1_2 := hv1.is
  go_wp2_with (fail)
  refine (HF2.out _ kb_2).mono ?_
  rintro e w3 ⟨v2, rfl, hv2, hb3⟩
  have b3 := below_at b2 (Nat.le_refl _) hb3
  have k1_3 := k1_2.keep hb3
  have k2_3 := hv2.is
  go_wp2_with (fail)
  refine (HDV.out _ _ _ k1_3 k2_3).mono ?_
  rintro e w4 ⟨q, r, rfl, hq, hr, hb4⟩
  have b4 := below_at b3 (Nat.le_refl _) hb4
  have kq_4 := hq
  have kr_4 := hr
  go_wp2_with (fail)
  refine (HN1.out _ _ kq_4).mono ?_
  rintro e w5 ⟨v4, rfl, hv4, hb5⟩
  have b5 := below_at b4 (Nat.le_refl _) hb5
  have kr_5 := kr_4.keep hb5
  go_wp2_with (fail)
  refine (HN2.out _ _ kr_5).mono ?_
  rintro e w6 ⟨v5, rfl, hv5, hb6⟩
  have b6 := below_at b5 (Nat.le_refl _) hb6
  go_wp2
  go_ret3
  exact ⟨_, _, rfl, (hv4.keep hb6).mono b4.size, hv5.mono b5.size, b6⟩

end Go.Proofs.Ytaegkhdkhgemmaa

namespace Go.Proofs.Ytaegkhdkhgemmaa
open Go.RowKit Num

set_option maxHeartbeats 1000000 in
theorem refCmp_any (A A' : Option Addr) (c c' L L' m n : Nat) (w : World) (h : Nums .u32 w A (dig B32 m)) (h' : Nums .u32 w A' (dig B32 n)) (hL : L = (dig B32 m).length) (hL' : L' = (dig B32 n).length) (hl : L ≤ 1000000000000) (hl' : L' ≤ 1000000000000) :
    Calls Try.prog 42 #[.slice A L c, .slice A' L' c'] w fun e w' => e = .returned (.int .i64 (cmpN m n)) ∧ Below w.heap.size w w' := by
  obtain ⟨r, hr⟩ : ∃ r, cmpN m n = r := ⟨_, rfl⟩
  rw [hr]
  by_cases hne : L = L'
  · subst hne
    have HL := Lib.hid hL
    have HL' := Lib.hid hL'
    have HR := Lib.hid hr
    clear hL hL' hr
    go_enter Try.func42, Try.ntmps42
    go_wp2
    go_loopw [5] (fun t wr => ∃ k : Nat, k ≤ L ∧ t = .int .i64 ((k : Int) - 1) ∧ Hid (m / B32 ^ k = n / B32 ^ k) ∧ Below w.heap.size w wr) (fun t _ => (intOf t + 1).toNat)
    case atStart => exact ⟨L, Nat.le_refl _, rfl, Lib.hid (by rw [div_pow_len b32_two (by rw [← HL.out]; exact Nat.le_refl _), div_pow_len b32_two (by rw [← HL'.out]; exact Nat.le_refl _)]), Below.refl _ _⟩
    case round =>
      obtain ⟨k, hk, rfl, hd, hb⟩ := hrel
      by_cases h0 : k = 0
      · subst h0
        have hmn : m = n := by have := hd.out; simpa using this
        have hr0 : r = 0 := by have := HR.out; rw [hmn, cmpN_eq] at this; exact this.symm
        have H0 := Lib.hid hr0
        clear hmn hr0
        go_wp2
        go_ret
        exact ⟨ret_i H0.out.symm, hb⟩
      · obtain ⟨j, rfl⟩ : ∃ j, k = j + 1 := ⟨k - 1, by omega⟩
        obtain ⟨g, off, x, rfl, hg, hx, hcx⟩ := (h.keep hb).at_ (i := j) (by have := HL.out; omega)
        obtain ⟨g', off', y, rfl, hg', hy, hcy⟩ := (h'.keep hb).at_ (i := j) (by have := HL'.out; omega)
        clear h h'
        rcases Nat.lt_trichotomy x y with hxy | hxy | hxy
        · have hc : r = -1 := by rw [← HR.out]; exact cmpN_lt (lt_of_digit b32_two hx hy hd.out hxy)
          have HC := Lib.hid hc
          clear hc hx hy
          go_wp2
          go_quiet (fail)
          go_wp2
          go_ret
          exact ⟨ret_i HC.out.symm, below_drewN hb _⟩
        · have hd' : m / B32 ^ j = n / B32 ^ j := eq_step b32_two hx (by rw [hxy]; exact hy) hd.out
          have HD := Lib.hid hd'
          have h1 : ¬ x < y := by omega
          have h2 : ¬ y < x := by omega
          clear hxy hd' hx hy
          go_wp2
          go_quiet (fail)
          go_wp2
          go_quiet (fail)
          go_wp2
          go_roundw
          case rel => exact ⟨j, by omega, by congr 1, HD, below_drewN hb _⟩
          case measure => simp [intOf]
        · have hc : r = 1 := by rw [← HR.out]; exact cmpN_gt (lt_of_digit b32_two hy hx hd.out.symm hxy)
          have HC := Lib.hid hc
          have h1 : ¬ x < y := by omega
          clear hc hx hy
          go_wp2
          go_quiet (fail)
          go_wp2
          go_quiet (fail)
          go_wp2
          go_ret
          exact ⟨ret_i HC.out.symm, below_drewN (below_drewN hb _) _⟩
  · have hn' : ((L : Int) != (L' : Int)) = true := by simp; omega
    have hc : cmpN L L' = r := by rw [← hr, hL, hL'] at *; exact cmp_of_len b32_two hne
    have HC := Lib.hid hc
    clear hc h h' hL hL' hr
    by_cases hlt : L < L'
    · have hr1 : r = -1 := by rw [← HC.out]; exact cmpN_lt hlt
      have H1 := Lib.hid hr1
      clear hr1
      go_enter Try.func42, Try.ntmps42
      go_wp2
      go_ret
      exact ⟨ret_i H1.out.symm, Below.refl _ _⟩
    · have hr1 : r = 1 := by rw [← HC.out]; exact cmpN_gt (by omega)
      have H1 := Lib.hid hr1
      clear hr1
      go_enter Try.func42, Try.ntmps42
      go_wp2
      go_ret
      exact ⟨ret_i H1.out.symm, Below.refl _ _⟩

theorem refCmp_call (a b : Value) (m n : Nat) (w : World) (ha : N32 w a m) (hb : N32 w b n) (hm : (dig B32 m).length ≤ 1000000000) (hn : (dig B32 n).length ≤ 1000000000) :
    Calls Try.prog 42 #[a, b] w fun e w' => e = .returned (.int .i64 (cmpN m n)) ∧ Below w.heap.size w w' := by
  obtain ⟨A, c, rfl, _, hA⟩ := ha
  obtain ⟨A', c', rfl, _, hA'⟩ := hb
  exact refCmp_any A A' c c' _ _ m n w hA hA' rfl rfl (by omega) (by omega)

set_option maxHeartbeats 400000 in
/-- at: limb i, or 0 beyond the end. -/
theorem at_any (A : Option Addr) (c L i : Nat) (xs : List Nat) (w : World) (h : Nums .u32 w A xs) (hlow : Low B32 xs) (hL : L = xs.length) :
    Calls Try.prog 86 #[.slice A L c, .int .i64 (i : Int)] w fun e w' => e = .returned (.int .u64 ((xs.getD i 0 : Nat) : Int)) ∧ w = w' := by
  obtain ⟨r, hr⟩ : ∃ r, xs.getD i 0 = r := ⟨_, rfl⟩
  rw [hr]
  by_cases hi : i < L
  · obtain ⟨g, off, x, rfl, hg, hx, hcx⟩ := h.at_ (i := i) (by omega)
    have e : r = x := by rw [← hr, List.getD_eq_getElem?_getD, hx]; rfl
    subst e
    have hxl : r < B32 := hlow r (List.mem_of_getElem? hx)
    have w1 : IntKind.u64.wrap (r : Int) = (r : Int) := by rw [IntKind.wrap_u64]; unfold B32 at hxl; omega
    have hii : (i : Int) < (L : Int) := by omega
    clear hr hx h hL hlow hxl
    go_enter Try.func86, Try.ntmps86
    go_wp2
    go_ret
    exact ⟨rfl, rfl⟩
  · have e : r = 0 := by rw [← hr, List.getD_eq_getElem?_getD, List.getElem?_eq_none (by omega)]; rfl
    subst e
    have hii : ¬ (i : Int) < (L : Int) := by omega
    clear hr h hL hlow
    go_enter Try.func86, Try.ntmps86
    go_wp2
    go_ret
    exact ⟨rfl, rfl⟩
end Go.Proofs.Ytaegkhdkhgemmaa

namespace Go.Proofs.Ytaegkhdkhgemmaa
open Go.RowKit Num

theorem val_take_getD (b : Nat) (xs : List Nat) (k : Nat) : val b (xs.take (k + 1)) = val b (xs.take k) + b ^ k * xs.getD k 0 := by
  by_cases hk : k < xs.length
  · rw [val_take_succ b xs k hk]
    simp [List.getD_eq_getElem?_getD, List.getElem?_eq_getElem hk]
  · rw [List.take_of_length_le (by omega), List.take_of_length_le (by omega)]
    simp [List.getD_eq_getElem?_getD, List.getElem?_eq_none (show xs.length ≤ k by omega)]
theorem getD_low {b : Nat} (hb : 0 < b) {xs : List Nat} (h : Low b xs) (k : Nat) : xs.getD k 0 < b := by
  rw [List.getD_eq_getElem?_getD]
  cases e : xs[k]? with
  | none => simpa using hb
  | some v => exact h v (List.mem_of_getElem? e)

/-- Digits that are appended, one after the other: the sum of the first k of both, but for the carry. -/
structure AddOut (xs ys : List Nat) (k : Nat) (os : List Nat) (c : Nat) : Prop where
  len : os.length = k
  low : Low B32 os
  le : c ≤ 1
  eq : val B32 os + B32 ^ k * c = val B32 (xs.take k) + val B32 (ys.take k)
theorem AddOut.start (xs ys : List Nat) : AddOut xs ys 0 [] 0 := ⟨rfl, Low.nil _, by omega, by simp [val]⟩
theorem AddOut.step {xs ys os : List Nat} {k c lo hi : Nat} (h : AddOut xs ys k os c) (hs : lo + B32 * hi = xs.getD k 0 + ys.getD k 0 + c) (hlo : lo < B32) (hhi : hi ≤ 1) :
    AddOut xs ys (k + 1) (os ++ [lo]) hi := by
  refine ⟨by simp [h.len], h.low.append (Low.cons hlo (Low.nil _)), hhi, ?_⟩
  rw [val_snoc, val_take_getD, val_take_getD, h.len]
  have e := h.eq
  have : B32 ^ k * (lo + B32 * hi) = B32 ^ k * (xs.getD k 0 + ys.getD k 0 + c) := by rw [hs]
  rw [Nat.pow_succ]
  grind
theorem AddOut.fin {xs ys os : List Nat} {k c : Nat} (h : AddOut xs ys k os c) (hx : xs.length ≤ k) (hy : ys.length ≤ k) : val B32 (os ++ [c]) = val B32 xs + val B32 ys := by
  have e := h.eq
  rw [List.take_of_length_le hx, List.take_of_length_le hy] at e
  rw [val_snoc, h.len]
  exact e

/-- A sum of three words that stay below 2^64, and its two halves: as the walk shows them. -/
theorem add3_ex (x y c : Nat) (hx : x < B32) (hy : y < B32) (hc : c ≤ 1) : ∃ s1 s lo hi : Nat,
    IntKind.u64.wrap ((x : Int) + (y : Int)) = (s1 : Int) ∧ IntKind.u64.wrap ((s1 : Int) + (c : Int)) = (s : Int) ∧ (s : Int) % 4294967296 = (lo : Int) ∧ (s : Int) / 4294967296 = (hi : Int) ∧
    IntKind.u32.wrap (lo : Int) = (lo : Int) ∧ (lo : Int) % 4294967296 = (lo : Int) ∧ IntKind.u64.wrap (hi : Int) = (hi : Int) ∧ lo + B32 * hi = x + y + c ∧ lo < B32 ∧ hi ≤ 1 := by
  unfold B32 at *
  refine ⟨x + y, x + y + c, (x + y + c) % 4294967296, (x + y + c) / 4294967296, ?_, ?_, by omega, by omega, ?_, by omega, ?_, by omega, by omega, by omega⟩
  · rw [IntKind.wrap_u64]; omega
  · rw [IntKind.wrap_u64]; omega
  · rw [IntKind.wrap_u32']; omega
  · rw [IntKind.wrap_u64]; omega

theorem refTrim_l (a : Value) (xs : List Nat) (w : World) (h : Limbs w a xs) (hlow : Low B32 xs) (hl : xs.length ≤ 1000000000) : Calls Try.prog 80 #[a] w (LsPost w (dig B32 (val B32 xs))) := by
  obtain ⟨A, c, rfl, _, _, hA⟩ := h
  exact refTrim_any A c _ xs w hA hlow rfl hl
theorem OwnLs.mono {B B' : Nat} {w : World} {v : Value} {ys : List Nat} (h : OwnLs B w v ys) (hB : B' ≤ B) : OwnLs B' w v ys := by
  obtain ⟨h1, h2⟩ := h
  refine ⟨h1, ?_⟩
  rcases h2 with h2 | ⟨g, c, cur, e, hg, r⟩
  · exact .inl h2
  · exact .inr ⟨g, c, cur, e, by omega, r⟩

set_option maxHeartbeats 2000000 in
set_option maxRecDepth 100000 in
theorem refAdd_any (A A' : Option Addr) (c c' L L' : Nat) (xs ys : List Nat) (w : World) (hA : Nums .u32 w A xs) (hA' : Nums .u32 w A' ys) (hx : Low B32 xs) (hy : Low B32 ys) (hL : L = xs.length) (hL' : L' = ys.length)
    (hl : L ≤ 1000000) (hl' : L' ≤ 1000000) : Calls Try.prog 43 #[.slice A L c, .slice A' L' c'] w (LsPost w (dig B32 (val B32 xs + val B32 ys))) := by
  obtain ⟨i0, hi, hz0, hz1, hz2⟩ := info_parts info56
  have ho := own_empty w 56
  have hbA := below_new w (.cells #[] 56)
  have HO := Lib.hid ho
  have HL := Lib.hid hL
  have HL' := Lib.hid hL'
  clear ho hL hL'
  obtain ⟨ds, hds⟩ : ∃ ds, dig B32 (val B32 xs + val B32 ys) = ds := ⟨_, rfl⟩
  rw [hds]
  have HDS := Lib.hid hds
  clear hds
  go_enter Try.func43, Try.ntmps43
  go_wp2
  go_loopw [5, 6, 7] (fun out q t wr => ∃ (k cy : Nat) (os : List Nat), (k ≤ L ∨ k ≤ L') ∧ t = .int .i64 (k : Int) ∧ q = .int .u64 (cy : Int) ∧ AddOut xs ys k os cy ∧ wr.ownsRow w.heap.size 56 1 out k (ints .u32 os) ∧ Below w.heap.size w wr) (fun _ _ t _ => L + L' - (intOf t).toNat)
  case atStart => exact ⟨0, 0, [], .inl (Nat.zero_le _), rfl, rfl, AddOut.start xs ys, HO.out, hbA⟩
  case round =>
    clear hbA HO
    obtain ⟨k, cy, os, hk, rfl, rfl, hst, hown, hbl⟩ := hrel
    have hk1 : k ≤ 1000000 := by omega
    by_cases hlt : k < L ∨ k < L'
    · have ha := at_any A c L k xs wr (hA.keep hbl) hx HL.out
      have hb := at_any A' c' L' k ys wr (hA'.keep hbl) hy HL'.out
      obtain ⟨s1, s, lo, hi', w1, w2, w3, w4, w5, w6, w7, hs, hlo, hhi⟩ := add3_ex _ _ cy (getD_low b32_pos hx k) (getD_low b32_pos hy k) hst.le
      have hst' := hst.step hs hlo hhi
      generalize xs.getD k 0 = x at *
      generalize ys.getD k 0 = y at *
      have HA := Lib.hid ha
      have HB := Lib.hid hb
      have HST := Lib.hid hst'
      have HS := Lib.hid hs
      clear ha hb hst' hA hA' hx hy hs hlo hst
      by_cases h1 : k < L
      all_goals
        go_wp2_with (fail)
        refine HA.out.mono ?_
        rintro e w9 ⟨rfl, rfl⟩
        go_wp2_with (fail)
        refine HB.out.mono ?_
        rintro e w9 ⟨rfl, rfl⟩
        go_wp2_with (at_builtin
                     refine wpList_append_own _ rfl _ _ 35 rfl w.heap.size 56 i0 (.int .u32 0) 1 4 Try.underlying35 hi hz0 hz1 hz2 rfl (by decide) _ k _ rfl (hown.alloc _) ⟨wr.heap.size, 0, none⟩ 1 1 [.int .u32 (lo : Int)] rfl rfl (cell_one_new _ _ _) (ints_one .u32 [lo]) ?c4 ?c5 (Nat.le_trans hbl.size (by simp)) ?_)
        case c4 => unfold maxLen; omega
        case c5 => omega
        intro v' w8 hown1 hgr1 _
        have hb1 : Below w.heap.size w w8 := (hbl.alloc hbl.size _).grown hgr1 (Nat.le_trans hbl.size (by simp)) (fun g' hg' => by
          rcases hown.2 with ⟨rfl, _⟩ | ⟨g2, cap, cur, rfl, hg2, _⟩
          · simp [Value.ownBlock] at hg'
          · simp [Value.ownBlock] at hg'; omega)
        have H1 := Lib.hid hown1
        have H0 := Lib.hid hown
        clear hown1 hown
        go_wp2
        go_roundw
        case rel => exact ⟨k + 1, hi', os ++ [lo], by omega, by go_num, rfl, HST.out, by have := H1.out; simpa [ints] using this, hb1⟩
        case measure => simp [intOf]; omega
    · have hst' := hst.fin (by have := HL.out; omega) (by have := HL'.out; omega)
      have hlow2 : Low B32 (os ++ [cy]) := hst.low.append (Low.cons (by have := hst.le; unfold B32; omega) (Low.nil _))
      have hlen2 : (os ++ [cy]).length = k + 1 := by simp [hst.len]
      have hcy := hst.le
      have w1 : IntKind.u32.wrap (cy : Int) = (cy : Int) := by rw [IntKind.wrap_u32']; omega
      have w2 : (cy : Int) % 4294967296 = (cy : Int) := by omega
      have HV := Lib.hid hst'
      have HLO := Lib.hid hlow2
      have HLE := Lib.hid hlen2
      have hA1 : ¬ k < L := by omega
      have hA2 : ¬ k < L' := by omega
      clear hst' hst hA hA' hx hy hlt hlow2 hlen2 hk
      go_wp2_with (at_builtin
                   refine wpList_append_own _ rfl _ _ 35 rfl w.heap.size 56 i0 (.int .u32 0) 1 4 Try.underlying35 hi hz0 hz1 hz2 rfl (by decide) _ k _ rfl (hown.alloc _) ⟨wr.heap.size, 0, none⟩ 1 1 [.int .u32 (cy : Int)] rfl rfl (cell_one_new _ _ _) (ints_one .u32 [cy]) ?c4 ?c5 (Nat.le_trans hbl.size (by simp)) ?_)
      case c4 => unfold maxLen; omega
      case c5 => omega
      intro v' w8 hown1 hgr1 _
      have hb1 : Below w.heap.size w w8 := (hbl.alloc hbl.size _).grown hgr1 (Nat.le_trans hbl.size (by simp)) (fun g' hg' => by
        rcases hown.2 with ⟨rfl, _⟩ | ⟨g2, cap, cur, rfl, hg2, _⟩
        · simp [Value.ownBlock] at hg'
        · simp [Value.ownBlock] at hg'; omega)
      have hls : OwnLs w.heap.size w8 v' (os ++ [cy]) := by
        unfold OwnLs
        rw [HLE.out]
        simpa [ints] using hown1
      have hlim := hls.limbs (by rw [HLE.out]; omega)
      have htr := refTrim_l v' (os ++ [cy]) w8 hlim HLO.out (by rw [HLE.out]; omega)
      rw [HV.out, HDS.out] at htr
      have HT := Lib.hid htr
      clear htr hlim hls hown1 hown
      go_wp2_with (go_at_call 80; refine HT.out.mono ?_; rintro e w9 ⟨v9, rfl, hv9, hb9⟩)
      go_ret
      exact ⟨_, rfl, hv9.mono hb1.size, below_at hb1 (Nat.le_refl _) hb9⟩

theorem refAdd_call (a b : Value) (m n : Nat) (w : World) (ha : N32 w a m) (hb : N32 w b n) (hm : (dig B32 m).length ≤ 1000000) (hn : (dig B32 n).length ≤ 1000000) : Calls Try.prog 43 #[a, b] w (LsPost w (dig B32 (m + n))) := by
  obtain ⟨A, c, rfl, _, hA⟩ := ha
  obtain ⟨A', c', rfl, _, hA'⟩ := hb
  have := refAdd_any A A' c c' _ _ _ _ w hA hA' (low_dig b32_two m) (low_dig b32_two n) rfl rfl hm hn
  rw [val_dig b32_two, val_dig b32_two] at this
  exact this
end Go.Proofs.Ytaegkhdkhgemmaa

namespace Go.Proofs.Ytaegkhdkhgemmaa
open Go.RowKit Num

structure SubOut (xs ys : List Nat) (k : Nat) (os : List Nat) (c : Nat) : Prop where
  len : os.length = k
  low : Low B32 os
  le : c ≤ 1
  eq : val B32 os + val B32 (ys.take k) = val B32 (xs.take k) + B32 ^ k * c
theorem SubOut.start (xs ys : List Nat) : SubOut xs ys 0 [] 0 := ⟨rfl, Low.nil _, by omega, by simp [val]⟩
theorem SubOut.step {xs ys os : List Nat} {k c lo hi : Nat} (h : SubOut xs ys k os c) (hs : lo + ys.getD k 0 + c = xs.getD k 0 + B32 * hi) (hlo : lo < B32) (hhi : hi ≤ 1) :
    SubOut xs ys (k + 1) (os ++ [lo]) hi := by
  refine ⟨by simp [h.len], h.low.append (Low.cons hlo (Low.nil _)), hhi, ?_⟩
  rw [val_snoc, val_take_getD, val_take_getD, h.len]
  have e := h.eq
  have : B32 ^ k * (lo + ys.getD k 0 + c) = B32 ^ k * (xs.getD k 0 + B32 * hi) := by rw [hs]
  rw [Nat.pow_succ]
  grind
theorem SubOut.fin {xs ys os : List Nat} {k c : Nat} (h : SubOut xs ys k os c) (hx : xs.length ≤ k) (hy : ys.length ≤ k) (hle : val B32 ys ≤ val B32 xs) (hylow : Low B32 ys) : val B32 os = val B32 xs - val B32 ys := by
  have e := h.eq
  rw [List.take_of_length_le hx, List.take_of_length_le hy] at e
  have h1 := val_lt B32 os h.low
  rw [h.len] at h1
  have h5 : c = 0 := by
    rcases Nat.eq_zero_or_pos c with h0 | h0
    · exact h0
    · have : B32 ^ k * 1 ≤ B32 ^ k * c := Nat.mul_le_mul_left _ h0
      have h2 := val_lt B32 ys hylow
      have h3 : B32 ^ ys.length ≤ B32 ^ k := Nat.pow_le_pow_right b32_pos hy
      omega
  subst h5
  simp at e
  omega

theorem sub3_ex (x y c : Nat) (hx : x < B32) (hy : y < B32) (hc : c ≤ 1) : ∃ s1 s2 s lo q hi : Nat,
    IntKind.u64.wrap (4294967296 + (x : Int)) = (s1 : Int) ∧ IntKind.u64.wrap ((s1 : Int) - (y : Int)) = (s2 : Int) ∧ IntKind.u64.wrap ((s2 : Int) - (c : Int)) = (s : Int) ∧ (s : Int) % 4294967296 = (lo : Int) ∧ (s : Int) / 4294967296 = (q : Int) ∧
    IntKind.u32.wrap (lo : Int) = (lo : Int) ∧ (lo : Int) % 4294967296 = (lo : Int) ∧ IntKind.u64.wrap (q : Int) = (q : Int) ∧ IntKind.u64.wrap (1 - (q : Int)) = (hi : Int) ∧ lo + y + c = x + B32 * hi ∧ lo < B32 ∧ hi ≤ 1 := by
  unfold B32 at *
  refine ⟨4294967296 + x, 4294967296 + x - y, 4294967296 + x - y - c, (4294967296 + x - y - c) % 4294967296, (4294967296 + x - y - c) / 4294967296, 1 - (4294967296 + x - y - c) / 4294967296, ?_, ?_, ?_, by omega, by omega, ?_, by omega, ?_, ?_, by omega, by omega, by omega⟩
  · rw [IntKind.wrap_u64]; omega
  · rw [IntKind.wrap_u64]; omega
  · rw [IntKind.wrap_u64]; omega
  · rw [IntKind.wrap_u32']; omega
  · rw [IntKind.wrap_u64]; omega
  · rw [IntKind.wrap_u64]; omega

set_option maxHeartbeats 2000000 in
set_option maxRecDepth 100000 in
theorem refSub_any (A A' : Option Addr) (c c' L L' : Nat) (xs ys : List Nat) (w : World) (hA : Nums .u32 w A xs) (hA' : Nums .u32 w A' ys) (hx : Low B32 xs) (hy : Low B32 ys) (hL : L = xs.length) (hL' : L' = ys.length)
    (hl : L ≤ 1000000) (hle' : L' ≤ L) (hle : val B32 ys ≤ val B32 xs) : Calls Try.prog 44 #[.slice A L c, .slice A' L' c'] w (LsPost w (dig B32 (val B32 xs - val B32 ys))) := by
  obtain ⟨i0, hi, hz0, hz1, hz2⟩ := info_parts info56
  have ho := own_empty w 56
  have hbA := below_new w (.cells #[] 56)
  have HO := Lib.hid ho
  have HL := Lib.hid hL
  have HL' := Lib.hid hL'
  have HLE := Lib.hid hle
  have HY := Lib.hid hy
  clear ho hL hL' hle
  obtain ⟨ds, hds⟩ : ∃ ds, dig B32 (val B32 xs - val B32 ys) = ds := ⟨_, rfl⟩
  rw [hds]
  have HDS := Lib.hid hds
  clear hds
  go_enter Try.func44, Try.ntmps44
  go_wp2
  go_loopw [5, 6, 7] (fun out q t wr => ∃ (k cy : Nat) (os : List Nat), k ≤ L ∧ t = .int .i64 (k : Int) ∧ q = .int .u64 (cy : Int) ∧ SubOut xs ys k os cy ∧ wr.ownsRow w.heap.size 56 1 out k (ints .u32 os) ∧ Below w.heap.size w wr) (fun _ _ t _ => L - (intOf t).toNat)
  case atStart => exact ⟨0, 0, [], Nat.zero_le _, rfl, rfl, SubOut.start xs ys, HO.out, hbA⟩
  case round =>
    clear hbA HO
    obtain ⟨k, cy, os, hk, rfl, rfl, hst, hown, hbl⟩ := hrel
    by_cases hlt : k < L
    · have ha := at_any A c L k xs wr (hA.keep hbl) hx HL.out
      have hb := at_any A' c' L' k ys wr (hA'.keep hbl) hy HL'.out
      obtain ⟨s1, s2, s, lo, qq, hi', w1, w2, w3, w4, w5, w6, w7, w8, w9, hs, hlo, hhi⟩ := sub3_ex _ _ cy (getD_low b32_pos hx k) (getD_low b32_pos hy k) hst.le
      have hst' := hst.step hs hlo hhi
      generalize xs.getD k 0 = x at *
      generalize ys.getD k 0 = y at *
      have HA := Lib.hid ha
      have HB := Lib.hid hb
      have HST := Lib.hid hst'
      have HS := Lib.hid hs
      clear ha hb hst' hA hA' hx hy hs hlo hst
      go_wp2_with (fail)
      refine HA.out.mono ?_
      rintro e wq ⟨rfl, rfl⟩
      go_wp2_with (fail)
      refine HB.out.mono ?_
      rintro e wq ⟨rfl, rfl⟩
      go_wp2_with (at_builtin
                   refine wpList_append_own _ rfl _ _ 35 rfl w.heap.size 56 i0 (.int .u32 0) 1 4 Try.underlying35 hi hz0 hz1 hz2 rfl (by decide) _ k _ rfl (hown.alloc _) ⟨wr.heap.size, 0, none⟩ 1 1 [.int .u32 (lo : Int)] rfl rfl (cell_one_new _ _ _) (ints_one .u32 [lo]) ?c4 ?c5 (Nat.le_trans hbl.size (by simp)) ?_)
      case c4 => unfold maxLen; omega
      case c5 => omega
      intro v' wv hown1 hgr1 _
      have hb1 : Below w.heap.size w wv := (hbl.alloc hbl.size _).grown hgr1 (Nat.le_trans hbl.size (by simp)) (fun g' hg' => by
        rcases hown.2 with ⟨rfl, _⟩ | ⟨g2, cap, cur, rfl, hg2, _⟩
        · simp [Value.ownBlock] at hg'
        · simp [Value.ownBlock] at hg'; omega)
      have H1 := Lib.hid hown1
      have H0 := Lib.hid hown
      clear hown1 hown
      go_wp2
      go_roundw
      case rel => exact ⟨k + 1, hi', os ++ [lo], by omega, by go_num, rfl, HST.out, by have := H1.out; simpa [ints] using this, hb1⟩
      case measure => simp [intOf]; omega
    · have hkL : k = L := by omega
      subst hkL
      have hst' := hst.fin (by have := HL.out; omega) (by have := HL'.out; omega) HLE.out HY.out
      have hlen2 : os.length = k := hst.len
      have hls : OwnLs w.heap.size wr u5 os := by
        unfold OwnLs
        rw [hlen2]
        exact hown
      have hlim := hls.limbs (by rw [hlen2]; omega)
      have htr := refTrim_l u5 os wr hlim hst.low (by rw [hlen2]; omega)
      rw [hst', HDS.out] at htr
      have HT := Lib.hid htr
      clear htr hlim hls hown hst' hst hA hA' hx hy hlt hlen2 hk
      go_wp2_with (go_at_call 80; refine HT.out.mono ?_; rintro e w9 ⟨v9, rfl, hv9, hb9⟩)
      go_ret
      exact ⟨_, rfl, hv9.mono hbl.size, below_at hbl (Nat.le_refl _) hb9⟩

theorem refSub_call (a b : Value) (m n : Nat) (w : World) (ha : N32 w a m) (hb : N32 w b n) (hm : (dig B32 m).length ≤ 1000000) (hle : n ≤ m) : Calls Try.prog 44 #[a, b] w (LsPost w (dig B32 (m - n))) := by
  obtain ⟨A, c, rfl, _, hA⟩ := ha
  obtain ⟨A', c', rfl, _, hA'⟩ := hb
  have := refSub_any A A' c c' _ _ _ _ w hA hA' (low_dig b32_two m) (low_dig b32_two n) rfl rfl hm (dig_len_le b32_two (Nat.lt_of_le_of_lt hle (dig_len_lt b32_two))) (by rw [val_dig b32_two, val_dig b32_two]; exact hle)
  rw [val_dig b32_two, val_dig b32_two] at this
  exact this
end Go.Proofs.Ytaegkhdkhgemmaa

namespace Go.Proofs.Ytaegkhdkhgemmaa
open Go.RowKit Num

/-- The length in a slot: for a loop's measure. -/
def lenOf : Value → Nat | .slice _ n _ => n | _ => 0

theorem limbs_cut {w : World} {A : Option Addr} {c : Nat} {xs : List Nat} (h : Limbs w (.slice A xs.length c) xs) : ∀ i, 0 < xs.length → i < xs.length → ∃ g off v, A = some ⟨g, off, none⟩ ∧ g < w.heap.size ∧ xs[i]? = some v ∧ w.cell? ⟨g, off + i, none⟩ = some (.int .u32 (v : Int)) := by
  intro i _ hi
  obtain ⟨A', c', e, _, _, hn⟩ := h
  injection e with e1 e2 e3
  subst e1
  exact hn.at_ hi

set_option maxHeartbeats 1000000 in
set_option maxRecDepth 100000 in
/-- whole: cut, then without the zeros at the end. -/
theorem whole_any (A : Option Addr) (c L n : Nat) (xs : List Nat) (w : World) (hA : Nums .u32 w A xs) (hlow : Low B32 xs) (hL : L = xs.length) (hc : L ≤ c) (hnil : A = none → c = 0) (hn : n ≤ 1000) :
    Calls Try.prog 69 #[.slice A L c, .int .i64 (n : Int)] w fun e w' => ∃ v, e = .returned v ∧ N32 w' v (val B32 (xs.take n)) ∧ Below w.heap.size w w' := by
  have hcut := cut_any A c L n xs w hA hL hc hnil hn
  have hlow' := hlow.take n
  have hlen : (xs.take n).length ≤ 1000 := by rw [List.length_take]; omega
  generalize xs.take n = ys at *
  obtain ⟨r, hr⟩ : ∃ r, val B32 ys = r := ⟨_, rfl⟩
  have fin : ∀ k, k ≤ ys.length → ZeroFrom ys k → (∀ v, 0 < k → ys[k - 1]? = some v → v ≠ 0) → ys.take k = dig B32 r := fun k hk hz hn => by rw [← hr]; exact trim_val b32_two hlow' hk hz hn
  have FIN := Lib.hid fin
  have HC := Lib.hid hcut
  have HR := Lib.hid hr
  rw [hr]
  clear hcut hA hL hnil fin hr
  go_enter Try.func69, Try.ntmps69
  go_wp2_with (go_at_call 26
               refine HC.out.mono ?_
               rintro e w1 ⟨v1, rfl, hv1, hb1⟩
               obtain ⟨A1, c1, he1, hc1, hn1⟩ := own_reads hv1
               have HV1 := Lib.hid hv1
               clear hv1
               subst he1)
  go_loop [0] (fun t => ∃ k : Nat, k ≤ ys.length ∧ t = .slice A1 k c1 ∧ ZeroFrom ys k) (fun t => lenOf t)
  case atStart => exact ⟨ys.length, Nat.le_refl _, rfl, fun i v hv hi => by have := (List.getElem?_eq_some_iff.1 hv).1; omega⟩
  case round =>
    obtain ⟨k, hk, rfl, hz⟩ := hrel
    have hex : (∃ v, 0 < k ∧ ys[k - 1]? = some v ∧ v = 0) ∨ (∀ v, 0 < k → ys[k - 1]? = some v → v ≠ 0) := by
      by_cases hh : ∃ v, 0 < k ∧ ys[k - 1]? = some v ∧ v = 0
      · exact .inl hh
      · exact .inr fun v h1 h2 h3 => hh ⟨v, h1, h2, h3⟩
    rcases hex with ⟨v, hp, hv, hv0⟩ | hfin
    · obtain ⟨g, off, v', rfl, hg, hv', hc2⟩ := hn1.at_ (i := k - 1) (by omega)
      have e : v' = v := by rw [hv] at hv'; injection hv' with hv'; exact hv'.symm
      subst e
      have hq : ((v' : Int) == 0) = true := by simp [hv0]
      have HV := Lib.hid hv
      have H0 := Lib.hid hv0
      clear hv hv' hv0 hn1
      go_wp2
      go_round
      case rel =>
        refine ⟨k - 1, by omega, rfl, fun i u hu hi => ?_⟩
        by_cases e : i = k - 1
        · have := HV.out; rw [e] at hu; rw [hu] at this; injection this with this; rw [this]; exact H0.out
        · exact hz i u hu (by omega)
      case measure => simp [lenOf]; omega
    · have htk := FIN.out k hk hz hfin
      have hlen2 : (dig B32 r).length = k := by rw [← htk, List.length_take]; omega
      have hnum : Nums .u32 w1 A1 (dig B32 r) := by rw [← htk]; exact hn1.take k
      have hres : N32 w1 (.slice A1 k c1) r := ⟨A1, c1, by rw [hlen2], by rw [hlen2]; omega, hnum⟩
      have HRES := Lib.hid hres
      clear htk hlen2 hnum hres
      by_cases hp : 0 < k
      · obtain ⟨g, off, v, rfl, hg, hv, hc2⟩ := hn1.at_ (i := k - 1) (by omega)
        have hq : ((v : Int) == 0) = false := by have := hfin v hp hv; simp; omega
        have HV := Lib.hid hv
        clear hv hn1 hfin
        go_wp2
        go_ret
        exact ⟨_, rfl, HRES.out, hb1⟩
      · clear hn1 hfin
        go_wp2
        go_ret
        exact ⟨_, rfl, HRES.out, hb1⟩
end Go.Proofs.Ytaegkhdkhgemmaa

namespace Go.Proofs.Ytaegkhdkhgemmaa
open Go.RowKit Num

set_option maxHeartbeats 2000000 in
set_option maxRecDepth 100000 in
theorem adds_bad (A A' : Option Addr) (c c' L L' : Nat) (xs ys : List Nat) (w : World) (hA : Nums .u32 w A xs) (hA' : Nums .u32 w A' ys) (hL : L = xs.length) (hL' : L' = ys.length) (hc : L ≤ c) (hc' : L' ≤ c') (hnil : A = none → c = 0) (hnil' : A' = none → c' = 0)
    (hbad : chk2 (xs.take 60) (ys.take 60) ≠ 0) : Calls Try.prog 4 #[.slice A L c, .slice A' L' c'] w (LivesPost w) := by
  have hcut := fun w' (h : Below w.heap.size w w') => cut_any A c L 60 xs w' (hA.keep h) hL hc hnil (by omega)
  have hcut' := fun w' (h : Below w.heap.size w w') => cut_any A' c' L' 60 ys w' (hA'.keep h) hL' hc' hnil' (by omega)
  have l1 : (xs.take 60).length ≤ 60 := by rw [List.length_take]; omega
  have l2 : (ys.take 60).length ≤ 60 := by rw [List.length_take]; omega
  generalize xs.take 60 = us at *
  generalize ys.take 60 = vs at *
  have hlu : ∀ B w' a, OwnLs B w' a us → Limbs w' a us := fun B w' a h => h.limbs (by omega)
  have hlv : ∀ B w' a, OwnLs B w' a vs → Limbs w' a vs := fun B w' a h => h.limbs (by omega)
  have h37 := fun a b w h k => add_bad a b us vs w h k hbad
  have h38 := fun a b w h k => sub_bad a b us vs w h k hbad
  have h39 := fun a b w h k => cmp_bad a b us vs w h k hbad
  have h40 := fun a b w h k => both_any a b us vs w h k
  generalize chk2 us vs = r at *
  have hq : (r != 0) = true := by simp [hbad]
  have hq0 : (r == r) = true := by simp
  have h41 := fun b w => is_err b r w hbad
  have HC := Lib.hid hcut
  have HC' := Lib.hid hcut'
  have HLU := Lib.hid hlu
  have HLV := Lib.hid hlv
  have H37 := Lib.hid h37
  have H38 := Lib.hid h38
  have H39 := Lib.hid h39
  have H40 := Lib.hid h40
  have H41 := Lib.hid h41
  have HB := Lib.hid hbad
  clear hcut hcut' hlu hlv h37 h38 h39 h40 h41 hbad hA hA' hL hL' hnil hnil' l1 l2
  go_enter Try.func4, Try.ntmps4
  go_wp2_with (fail)
  refine (HC.out _ (Below.refl _ _)).mono ?_
  rintro e w1 ⟨va, rfl, hva, hb1⟩
  have ka := HLU.out _ _ _ hva
  go_wp2_with (fail)
  refine (HC'.out _ hb1).mono ?_
  rintro e w2 ⟨vb, rfl, hvb, hb2⟩
  have kb := HLV.out _ _ _ hvb
  have b2 := below_at hb1 (Nat.le_refl _) hb2
  have ka2 := ka.keep hb2
  go_wp2_with (first
    | (go_at_call 37; refine (H37.out _ _ _ ka2 kb).mono ?_; rintro e w3 ⟨rfl, hb3⟩
       have b3 := below_at b2 (Nat.le_refl _) hb3
       have ka3 := ka2.keep hb3
       have kb3 := kb.keep hb3)
    | (go_at_call 38; refine (H38.out _ _ _ ka3 kb3).mono ?_; rintro e w4 ⟨rfl, hb4⟩
       have b4 := below_at b3 (Nat.le_refl _) hb4
       have ka4 := ka3.keep hb4
       have kb4 := kb3.keep hb4)
    | (go_at_call 39; refine (H39.out _ _ _ ka4 kb4).mono ?_; rintro e w5 ⟨rfl, hb5⟩
       have b5 := below_at b4 (Nat.le_refl _) hb5
       have ka5 := ka4.keep hb5
       have kb5 := kb4.keep hb5)
    | (go_at_call 40; refine (H40.out _ _ _ ka5 kb5).mono ?_; rintro e w6 ⟨rfl, rfl⟩)
    | (go_at_call 30; refine (lives_any _).mono ?_; rintro e w7 ⟨rfl, hb7⟩
       have b7 := below_at b5 (Nat.le_refl _) hb7))
  refine (H41.out _ _).mono ?_
  rintro e w8 ⟨rfl, hb8⟩
  have b8 := below_at b7 (Nat.le_refl _) hb8
  go_wp2_with (fail)
  refine (H41.out _ _).mono ?_
  rintro e w9 ⟨rfl, hb9⟩
  have b9 := below_at b8 (Nat.le_refl _) hb9
  go_wp2
  go_ret
  exact ⟨rfl, b9⟩

theorem sum_len {m n : Nat} (hm : (dig B32 m).length ≤ 60) (hn : (dig B32 n).length ≤ 60) : (dig B32 (m + n)).length ≤ 61 := by
  have h1 := Nat.lt_of_lt_of_le (dig_len_lt b32_two (n := m)) (Nat.pow_le_pow_right b32_pos hm)
  have h2 := Nat.lt_of_lt_of_le (dig_len_lt b32_two (n := n)) (Nat.pow_le_pow_right b32_pos hn)
  exact dig_len_le b32_two (two_pow_lt b32_two h1 h2)
theorem bits_of_len {n K : Nat} (h : (dig B32 n).length ≤ K) : nbits n ≤ 32 * K := by
  refine nbits_le (Nat.lt_of_lt_of_le (dig_len_lt b32_two) ?_)
  rw [Nat.pow_mul]
  exact Nat.pow_le_pow_right b32_pos h
theorem sum_small {m n : Nat} (hm : (dig B32 m).length ≤ 60) (hn : (dig B32 n).length ≤ 60) : nbits (m + n) ≤ 8388608 := Nat.le_trans (bits_of_len (sum_len hm hn)) (by omega)

set_option maxHeartbeats 2000000 in
set_option maxRecDepth 100000 in
theorem adds_lt (A A' : Option Addr) (c c' L L' m n : Nat) (xs ys : List Nat) (w : World) (hA : Nums .u32 w A xs) (hA' : Nums .u32 w A' ys) (hL : L = xs.length) (hL' : L' = ys.length) (hc : L ≤ c) (hc' : L' ≤ c') (hnil : A = none → c = 0) (hnil' : A' = none → c' = 0)
    (hm : xs.take 60 = dig B32 m) (hn : ys.take 60 = dig B32 n) (hcmp : m < n) : Calls Try.prog 4 #[.slice A L c, .slice A' L' c'] w (LivesPost w) := by
  have hcut := fun w' (h : Below w.heap.size w w') => cut_any A c L 60 xs w' (hA.keep h) hL hc hnil (by omega)
  have hcut' := fun w' (h : Below w.heap.size w w') => cut_any A' c' L' 60 ys w' (hA'.keep h) hL' hc' hnil' (by omega)
  have l1 : (xs.take 60).length ≤ 60 := by rw [List.length_take]; omega
  have l2 : (ys.take 60).length ≤ 60 := by rw [List.length_take]; omega
  rw [hm] at hcut l1
  rw [hn] at hcut' l2
  have hp := sum_small l1 l2
  have ls := sum_len l1 l2
  have hlu : ∀ B w' a, OwnLs B w' a (dig B32 m) → Limbs w' a (dig B32 m) := fun B w' a h => h.limbs (by omega)
  have hlv : ∀ B w' a, OwnLs B w' a (dig B32 n) → Limbs w' a (dig B32 n) := fun B w' a h => h.limbs (by omega)
  have h37 := fun a b w (h : Limbs w a (dig B32 m)) (k : Limbs w b (dig B32 n)) => add_ok a b m n w h.is k.is (by omega) (by omega) hp
  have h38 := fun a b w (h : Limbs w a (dig B32 m)) (k : Limbs w b (dig B32 n)) => sub_range a b m n w h.is k.is (by omega) (by omega) hcmp
  have h39 := fun a b w (h : Limbs w a (dig B32 m)) (k : Limbs w b (dig B32 n)) => cmp_ok a b m n w h.is k.is (by omega) (by omega)
  have h40 := fun a b w h k => both_any a b (dig B32 m) (dig B32 n) w h k
  have h42 := fun a b w (h : Limbs w a (dig B32 m)) (k : Limbs w b (dig B32 n)) => refCmp_call a b m n w h.is k.is (by omega) (by omega)
  have h43 := fun a b w (h : Limbs w a (dig B32 m)) (k : Limbs w b (dig B32 n)) => refAdd_call a b m n w h.is k.is (by omega) (by omega)
  have h41 := fun a b w (h : N32 w a (m + n)) (k : OwnLs w.heap.size w b (dig B32 (m + n))) => is_ok a b (m + n) w h (k.limbs (by omega)) (by omega)
  have h41b : ∀ B a b w, N32 w a (m + n) → OwnLs B w b (dig B32 (m + n)) → Calls Try.prog 41 #[a, .int .i64 0, b, .int .i64 0] w (LivesPost w) := fun B a b w h k => is_ok a b (m + n) w h (k.limbs (by omega)) (by omega)
  have h41e := fun b w => is_err b 5 w (by omega)
  rw [chk2, if_pos (chk_dig (by omega)), chk_dig (by omega)] at h40
  have hcv : cmpN m n = -1 := cmpN_lt hcmp
  generalize cmpN m n = r at *
  have hq : (r != r) = false := by simp
  subst hcv
  have HC := Lib.hid hcut
  have HC' := Lib.hid hcut'
  have HLU := Lib.hid hlu
  have HLV := Lib.hid hlv
  have H37 := Lib.hid h37
  have H38 := Lib.hid h38
  have H39 := Lib.hid h39
  have H40 := Lib.hid h40
  have H41 := Lib.hid h41b
  have H42 := Lib.hid h42
  have H43 := Lib.hid h43
  have H41E := Lib.hid h41e
  clear hcut hcut' hlu hlv h37 h38 h39 h40 h41 h41b h42 h43 hA hA' hL hL' hnil hnil' l1 l2 hp ls hm hn hcmp h41e
  go_enter Try.func4, Try.ntmps4
  go_wp2_with (fail)
  refine (HC.out _ (Below.refl _ _)).mono ?_
  rintro e w1 ⟨va, rfl, hva, hb1⟩
  have ka := HLU.out _ _ _ hva
  go_wp2_with (fail)
  refine (HC'.out _ hb1).mono ?_
  rintro e w2 ⟨vb, rfl, hvb, hb2⟩
  have kb := HLV.out _ _ _ hvb
  have b2 := below_at hb1 (Nat.le_refl _) hb2
  have ka2 := ka.keep hb2
  go_wp2_with (first
    | (go_at_call 37; refine (H37.out _ _ _ ka2 kb).mono ?_; rintro e w3 ⟨vs, rfl, hvs, hb3⟩
       have b3 := below_at b2 (Nat.le_refl _) hb3
       have ka3 := ka2.keep hb3
       have kb3 := kb.keep hb3)
    | (go_at_call 38; refine (H38.out _ _ _ ka3 kb3).mono ?_; rintro e w4 ⟨rfl, hb4⟩
       have b4 := below_at b3 (Nat.le_refl _) hb4
       have ka4 := ka3.keep hb4
       have kb4 := kb3.keep hb4
       have ks4 := hvs.is.keep hb4)
    | (go_at_call 39; refine (H39.out _ _ _ ka4 kb4).mono ?_; rintro e w5 ⟨rfl, hb5⟩
       have b5 := below_at b4 (Nat.le_refl _) hb5
       have ka5 := ka4.keep hb5
       have kb5 := kb4.keep hb5
       have ks5 := ks4.keep hb5)
    | (go_at_call 40; refine (H40.out _ _ _ ka5 kb5).mono ?_; rintro e w6 ⟨rfl, rfl⟩)
    | (go_at_call 30; refine (lives_any _).mono ?_; rintro e w7 ⟨rfl, hb7⟩
       have b7 := below_at b5 (Nat.le_refl _) hb7
       have ka7 := ka5.keep hb7
       have kb7 := kb5.keep hb7
       have ks7 := ks5.keep hb7)
    | (go_at_call 42; refine (H42.out _ _ _ ka7 kb7).mono ?_; rintro e w8 ⟨rfl, hb8⟩
       have b8 := below_at b7 (Nat.le_refl _) hb8
       have ka8 := ka7.keep hb8
       have kb8 := kb7.keep hb8
       have ks8 := ks7.keep hb8)
    | (go_at_call 43; refine (H43.out _ _ _ ka8 kb8).mono ?_; rintro e w9 ⟨v9, rfl, hv9, hb9⟩
       have b9 := below_at b8 (Nat.le_refl _) hb9
       have ka9 := ka8.keep hb9
       have kb9 := kb8.keep hb9
       have ks9 := ks8.keep hb9))
  refine (H41.out _ _ _ _ ks9 hv9).mono ?_
  rintro e w10 ⟨rfl, hb10⟩
  have b10 := below_at b9 (Nat.le_refl _) hb10
  go_wp2_with (fail)
  refine (H41E.out _ _).mono ?_
  rintro e w11 ⟨rfl, hb11⟩
  have b11 := below_at b10 (Nat.le_refl _) hb11
  go_wp2
  go_ret
  exact ⟨rfl, b11⟩

set_option maxHeartbeats 2000000 in
set_option maxRecDepth 100000 in
theorem adds_ge (A A' : Option Addr) (c c' L L' m n : Nat) (xs ys : List Nat) (w : World) (hA : Nums .u32 w A xs) (hA' : Nums .u32 w A' ys) (hL : L = xs.length) (hL' : L' = ys.length) (hc : L ≤ c) (hc' : L' ≤ c') (hnil : A = none → c = 0) (hnil' : A' = none → c' = 0)
    (hm : xs.take 60 = dig B32 m) (hn : ys.take 60 = dig B32 n) (hcmp : n ≤ m) : Calls Try.prog 4 #[.slice A L c, .slice A' L' c'] w (LivesPost w) := by
  have hcut := fun w' (h : Below w.heap.size w w') => cut_any A c L 60 xs w' (hA.keep h) hL hc hnil (by omega)
  have hcut' := fun w' (h : Below w.heap.size w w') => cut_any A' c' L' 60 ys w' (hA'.keep h) hL' hc' hnil' (by omega)
  have l1 : (xs.take 60).length ≤ 60 := by rw [List.length_take]; omega
  have l2 : (ys.take 60).length ≤ 60 := by rw [List.length_take]; omega
  rw [hm] at hcut l1
  rw [hn] at hcut' l2
  have hp := sum_small l1 l2
  have ls := sum_len l1 l2
  have hlu : ∀ B w' a, OwnLs B w' a (dig B32 m) → Limbs w' a (dig B32 m) := fun B w' a h => h.limbs (by omega)
  have hlv : ∀ B w' a, OwnLs B w' a (dig B32 n) → Limbs w' a (dig B32 n) := fun B w' a h => h.limbs (by omega)
  have h37 := fun a b w (h : Limbs w a (dig B32 m)) (k : Limbs w b (dig B32 n)) => add_ok a b m n w h.is k.is (by omega) (by omega) hp
  have h38 := fun a b w (h : Limbs w a (dig B32 m)) (k : Limbs w b (dig B32 n)) => sub_ok a b m n w h.is k.is (by omega) (by omega) hcmp
  have h39 := fun a b w (h : Limbs w a (dig B32 m)) (k : Limbs w b (dig B32 n)) => cmp_ok a b m n w h.is k.is (by omega) (by omega)
  have h40 := fun a b w h k => both_any a b (dig B32 m) (dig B32 n) w h k
  have h42 := fun a b w (h : Limbs w a (dig B32 m)) (k : Limbs w b (dig B32 n)) => refCmp_call a b m n w h.is k.is (by omega) (by omega)
  have h43 := fun a b w (h : Limbs w a (dig B32 m)) (k : Limbs w b (dig B32 n)) => refAdd_call a b m n w h.is k.is (by omega) (by omega)
  have h41 := fun a b w (h : N32 w a (m + n)) (k : OwnLs w.heap.size w b (dig B32 (m + n))) => is_ok a b (m + n) w h (k.limbs (by omega)) (by omega)
  have h41b : ∀ B a b w, N32 w a (m + n) → OwnLs B w b (dig B32 (m + n)) → Calls Try.prog 41 #[a, .int .i64 0, b, .int .i64 0] w (LivesPost w) := fun B a b w h k => is_ok a b (m + n) w h (k.limbs (by omega)) (by omega)
  have ld : (dig B32 (m - n)).length ≤ 60 := Nat.le_trans (dig_len_le b32_two (Nat.lt_of_le_of_lt (Nat.sub_le m n) (dig_len_lt b32_two))) l1
  have h44 := fun a b w (h : Limbs w a (dig B32 m)) (k : Limbs w b (dig B32 n)) => refSub_call a b m n w h.is k.is (by omega) hcmp
  have h41d : ∀ B a b w, N32 w a (m - n) → OwnLs B w b (dig B32 (m - n)) → Calls Try.prog 41 #[a, .int .i64 0, b, .int .i64 0] w (LivesPost w) := fun B a b w h k => is_ok a b (m - n) w h (k.limbs (by omega)) (by omega)
  rw [chk2, if_pos (chk_dig (by omega)), chk_dig (by omega)] at h40
  have hcv : 0 ≤ cmpN m n := by unfold cmpN; split <;> (try split) <;> omega
  generalize cmpN m n = r at *
  have hq : (r != r) = false := by simp
  have HC := Lib.hid hcut
  have HC' := Lib.hid hcut'
  have HLU := Lib.hid hlu
  have HLV := Lib.hid hlv
  have H37 := Lib.hid h37
  have H38 := Lib.hid h38
  have H39 := Lib.hid h39
  have H40 := Lib.hid h40
  have H41 := Lib.hid h41b
  have H42 := Lib.hid h42
  have H43 := Lib.hid h43
  have H41D := Lib.hid h41d
  have H44 := Lib.hid h44
  clear hcut hcut' hlu hlv h37 h38 h39 h40 h41 h41b h42 h43 hA hA' hL hL' hnil hnil' l1 l2 hp ls hm hn hcmp h41d h44 ld
  go_enter Try.func4, Try.ntmps4
  go_wp2_with (fail)
  refine (HC.out _ (Below.refl _ _)).mono ?_
  rintro e w1 ⟨va, rfl, hva, hb1⟩
  have ka := HLU.out _ _ _ hva
  go_wp2_with (fail)
  refine (HC'.out _ hb1).mono ?_
  rintro e w2 ⟨vb, rfl, hvb, hb2⟩
  have kb := HLV.out _ _ _ hvb
  have b2 := below_at hb1 (Nat.le_refl _) hb2
  have ka2 := ka.keep hb2
  go_wp2_with (first
    | (go_at_call 37; refine (H37.out _ _ _ ka2 kb).mono ?_; rintro e w3 ⟨vs, rfl, hvs, hb3⟩
       have b3 := below_at b2 (Nat.le_refl _) hb3
       have ka3 := ka2.keep hb3
       have kb3 := kb.keep hb3)
    | (go_at_call 38; refine (H38.out _ _ _ ka3 kb3).mono ?_; rintro e w4 ⟨vd, rfl, hvd, hb4⟩
       have b4 := below_at b3 (Nat.le_refl _) hb4
       have ka4 := ka3.keep hb4
       have kb4 := kb3.keep hb4
       have ks4 := hvs.is.keep hb4)
    | (go_at_call 39; refine (H39.out _ _ _ ka4 kb4).mono ?_; rintro e w5 ⟨rfl, hb5⟩
       have b5 := below_at b4 (Nat.le_refl _) hb5
       have ka5 := ka4.keep hb5
       have kb5 := kb4.keep hb5
       have ks5 := ks4.keep hb5)
    | (go_at_call 40; refine (H40.out _ _ _ ka5 kb5).mono ?_; rintro e w6 ⟨rfl, rfl⟩)
    | (go_at_call 30; refine (lives_any _).mono ?_; rintro e w7 ⟨rfl, hb7⟩
       have b7 := below_at b5 (Nat.le_refl _) hb7
       have ka7 := ka5.keep hb7
       have kb7 := kb5.keep hb7
       have ks7 := ks5.keep hb7)
    | (go_at_call 42; refine (H42.out _ _ _ ka7 kb7).mono ?_; rintro e w8 ⟨rfl, hb8⟩
       have b8 := below_at b7 (Nat.le_refl _) hb8
       have ka8 := ka7.keep hb8
       have kb8 := kb7.keep hb8
       have ks8 := ks7.keep hb8)
    | (go_at_call 43; refine (H43.out _ _ _ ka8 kb8).mono ?_; rintro e w9 ⟨v9, rfl, hv9, hb9⟩
       have b9 := below_at b8 (Nat.le_refl _) hb9
       have ka9 := ka8.keep hb9
       have kb9 := kb8.keep hb9
       have ks9 := ks8.keep hb9))
  refine (H41.out _ _ _ _ ks9 hv9).mono ?_
  rintro e w10 ⟨rfl, hb10⟩
  have b10 := below_at b9 (Nat.le_refl _) hb10
  have kd := (((((hvd.is.keep hb5).keep hb7).keep hb8).keep hb9).keep hb10)
  have ka10 := ka9.keep hb10
  have kb10 := kb9.keep hb10
  go_wp2_with (fail)
  refine (H44.out _ _ _ ka10 kb10).mono ?_
  rintro e w11 ⟨v11, rfl, hv11, hb11⟩
  have b11 := below_at b10 (Nat.le_refl _) hb11
  go_wp2_with (fail)
  refine (H41D.out _ _ _ _ (kd.keep hb11) hv11).mono ?_
  rintro e w12 ⟨rfl, hb12⟩
  have b12 := below_at b11 (Nat.le_refl _) hb12
  go_wp2
  go_ret
  exact ⟨rfl, b12⟩

/-- The law NatAdds, for whatever limbs. -/
theorem adds_walk (A A' : Option Addr) (c c' L L' : Nat) (xs ys : List Nat) (w : World) (hA : Nums .u32 w A xs) (hA' : Nums .u32 w A' ys) (hlow : Low B32 xs) (hlow' : Low B32 ys) (hL : L = xs.length) (hL' : L' = ys.length) (hc : L ≤ c) (hc' : L' ≤ c') (hnil : A = none → c = 0) (hnil' : A' = none → c' = 0) :
    Calls Try.prog 4 #[.slice A L c, .slice A' L' c'] w (LivesPost w) := by
  by_cases h0 : chk2 (xs.take 60) (ys.take 60) = 0
  · have h1 : chk (xs.take 60) = 0 ∧ chk (ys.take 60) = 0 := by
      unfold chk2 at h0
      split at h0
      · rename_i h; exact ⟨h, h0⟩
      · rename_i h; exact absurd h0 h
    have hm := chk_zero (hlow.take 60) h1.1
    have hn := chk_zero (hlow'.take 60) h1.2
    rcases Nat.lt_or_ge (val B32 (xs.take 60)) (val B32 (ys.take 60)) with h2 | h2
    · exact adds_lt A A' c c' L L' _ _ xs ys w hA hA' hL hL' hc hc' hnil hnil' hm hn h2
    · exact adds_ge A A' c c' L L' _ _ xs ys w hA hA' hL hL' hc hc' hnil hnil' hm hn h2
  · exact adds_bad A A' c c' L L' xs ys w hA hA' hL hL' hc hc' hnil hnil' h0
end Go.Proofs.Ytaegkhdkhgemmaa
