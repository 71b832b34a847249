/- Part of the proof of NatTexts: BitsR, RefS, RefOf, ChecksW, Subs, DivW, DivQ, DigLaws, GiveSt, StillIn. -/
import Derived.Test.YtaegkhdkhgemmaaPartD
import Derived.Test.YtaegkhdkhgemmaaPartC
import Derived.Test.YtaegkhdkhgemmaaPartB
import Derived.RangeFuncNested
import Derived.StillTail
import Derived.StillTactics
import Derived.OrdersIn
import Derived.BigFrameIn
namespace Go.Proofs.Ytaegkhdkhgemmaa
open Go.RowKit Num

set_option maxHeartbeats 1000000 in
set_option maxRecDepth 100000 in
theorem bits_ok (a : Value) (n : Nat) (w : World) (ha : N32 w a n) (hl : (dig B32 n).length ≤ 262144) : Calls Try.prog 28 #[a] w (Ret2 w (.int .i64 (nbits n : Nat)) (.int .i64 0)) := by
  have hc := checkAll_any w.heap.size 1 1 _ _ (nats1 (Limbs.num ha (by omega))) rfl (by omega)
  rw [chkAll1, chk_dig hl] at hc
  have hbA := below_new w (.cells #[a] 23)
  have HC := Lib.hid hc
  have hpost := fun L v => @nbits_limbs n L v
  obtain ⟨A, c, rfl, _, hA⟩ := ha
  clear hc hbA
  obtain ⟨xs, hxs⟩ : ∃ xs, dig B32 n = xs := ⟨_, rfl⟩
  have hlow := low_dig b32_two n
  have hz : xs.length = 0 → n = 0 := fun h => (dig_nil_iff b32_two).1 (by rw [hxs]; exact List.eq_nil_of_length_eq_zero h)
  have hpost' : ∀ L v, xs.length = L + 1 → xs[L]? = some v → nbits n = 32 * L + nbits v := fun L v h1 h2 => hpost L v (by rw [← h1, ← hxs]; rfl) (by rw [← h2, ← hxs]; rfl)
  rw [hxs] at hlow hl hA HC ⊢
  clear hxs hpost
  obtain ⟨L, hL⟩ : ∃ L, xs.length = L := ⟨_, rfl⟩
  rw [hL] at hz hl HC ⊢
  have HP := Lib.hid hpost'
  have HL := Lib.hid hL
  clear hpost' hL
  by_cases h0 : L = 0
  · have hn0 := hz h0
    subst hn0
    subst h0
    clear hz hA hlow
    rw [nbits_zero]
    go_enter Try.func28, Try.ntmps28
    go_wp2_with (go_at_call 75; refine HC.out.mono ?_; rintro e w1 ⟨rfl, rfl⟩)
    go_ret2
    exact ⟨rfl, below_new _ _⟩
  · obtain ⟨K, rfl⟩ : ∃ K, L = K + 1 := ⟨L - 1, by omega⟩
    obtain ⟨g, off, v, rfl, hg, hv, hcv⟩ := hA.at_ (i := K) (by have := HL.out; omega)
    have hvl : v < B32 := hlow v (List.mem_of_getElem? hv)
    have hb32 : nbits v ≤ 32 := nbits_le (k := 32) hvl
    have hres := HP.out K v HL.out hv
    obtain ⟨r, hr⟩ : ∃ r, nbits n = r := ⟨_, rfl⟩
    rw [hr] at hres ⊢
    have hsh : ∀ i, (v : Int) / 2 ^ i = ((v / 2 ^ i : Nat) : Int) := fun i => by push_cast; rfl
    have hne : ∀ i, v / 2 ^ i ≠ 0 ↔ i < nbits v := fun i => shr_ne
    have HR := Lib.hid hres
    have HSH := Lib.hid hsh
    have HNE := Lib.hid hne
    have HV := Lib.hid hv
    have HRR := Lib.hid hr
    have hk0 : ((K : Int) + 1 == 0) = false := by simp; omega
    clear hres hsh hne hv hr hA hlow hz h0 hvl
    generalize nbits v = q at *
    go_enter Try.func28, Try.ntmps28
    go_wp2_with (go_at_call 75; refine HC.out.mono ?_; rintro e w1 ⟨rfl, rfl⟩)
    go_loop [6, 20] (fun ct t => ∃ i ct' : Nat, i ≤ 32 ∧ t = .int .i64 (i : Int) ∧ ct = .int .i64 (ct' : Int) ∧ Hid (ct' = min i q)) (fun _ t => 32 - (intOf t).toNat)
    case atStart => exact ⟨0, 0, by omega, rfl, rfl, Lib.hid (by simp)⟩
    case round =>
      obtain ⟨i, ct, hi, rfl, rfl, hct⟩ := hrel
      by_cases hlt : i < 32
      · have hs := HSH.out i
        by_cases hq : i < q
        · have hnz : v / 2 ^ i ≠ 0 := (HNE.out i).2 hq
          have hb : (((v / 2 ^ i : Nat) : Int) != 0) = true := by simp; omega
          rw [← hs] at hb
          have HNZ := Lib.hid hnz
          clear hnz hs
          go_wp2
          go_round
          case rel => exact ⟨i + 1, i + 1, by omega, by go_num, by go_num, Lib.hid (by omega)⟩
          case measure => simp [intOf]; omega
        · have hnz : v / 2 ^ i = 0 := by
            rcases Nat.eq_zero_or_pos (v / 2 ^ i) with h | h
            · exact h
            · exact absurd ((HNE.out i).1 (by omega)) hq
          have hb : (((v / 2 ^ i : Nat) : Int) != 0) = false := by rw [hnz]; rfl
          rw [← hs] at hb
          have HNZ := Lib.hid hnz
          clear hnz hs
          go_wp2
          go_round
          case rel => exact ⟨i + 1, ct, by omega, by go_num, rfl, Lib.hid (by have := hct.out; omega)⟩
          case measure => simp [intOf]; omega
      · have hct' : ct ≤ 32 := by have := hct.out; omega
        go_wp2
        go_ret2
        have e : (32 * (K : Int) + (ct : Int)) = (r : Int) := by have h1 := HR.out; have h2 := hct.out; omega
        refine ⟨?_, below_new _ _⟩
        rw [← e]
        rfl

set_option maxHeartbeats 1000000 in
set_option maxRecDepth 100000 in
theorem refBits_any (a : Value) (n : Nat) (w : World) (ha : N32 w a n) (hl : (dig B32 n).length ≤ 1000000000) : Calls Try.prog 36 #[a] w fun e w' => e = .returned (.int .i64 (nbits n : Nat)) ∧ w = w' := by
  have hpost := fun L v => @nbits_limbs n L v
  obtain ⟨A, c, rfl, _, hA⟩ := ha
  obtain ⟨xs, hxs⟩ : ∃ xs, dig B32 n = xs := ⟨_, rfl⟩
  have hlow := low_dig b32_two n
  have hz : xs.length = 0 → n = 0 := fun h => (dig_nil_iff b32_two).1 (by rw [hxs]; exact List.eq_nil_of_length_eq_zero h)
  have hpost' : ∀ L v, xs.length = L + 1 → xs[L]? = some v → nbits n = 32 * L + nbits v := fun L v h1 h2 => hpost L v (by rw [← h1, ← hxs]; rfl) (by rw [← h2, ← hxs]; rfl)
  rw [hxs] at hlow hl hA ⊢
  clear hxs hpost
  obtain ⟨L, hL⟩ : ∃ L, xs.length = L := ⟨_, rfl⟩
  rw [hL] at hz hl ⊢
  have HP := Lib.hid hpost'
  have HL := Lib.hid hL
  clear hpost' hL
  by_cases h0 : L = 0
  · have hn0 := hz h0
    subst hn0
    subst h0
    clear hz hA hlow
    rw [nbits_zero]
    go_enter Try.func36, Try.ntmps36
    go_wp2
    go_ret
    exact ⟨rfl, rfl⟩
  · obtain ⟨K, rfl⟩ : ∃ K, L = K + 1 := ⟨L - 1, by omega⟩
    obtain ⟨g, off, v, rfl, hg, hv, hcv⟩ := hA.at_ (i := K) (by have := HL.out; omega)
    have hvl : v < B32 := hlow v (List.mem_of_getElem? hv)
    have hb32 : nbits v ≤ 32 := nbits_le (k := 32) hvl
    have hres := HP.out K v HL.out hv
    obtain ⟨r, hr⟩ : ∃ r, nbits n = r := ⟨_, rfl⟩
    rw [hr] at hres ⊢
    have HR := Lib.hid hres
    have HV := Lib.hid hv
    have HRR := Lib.hid hr
    have HVL := Lib.hid hvl
    have hk0 : ((K : Int) + 1 == 0) = false := by simp; omega
    clear hres hv hr hA hlow hz h0 hvl
    obtain ⟨q, hq⟩ : ∃ q, nbits v = q := ⟨_, rfl⟩
    rw [hq] at hb32
    have HQ := Lib.hid hq
    clear hq
    go_enter Try.func36, Try.ntmps36
    go_wp2
    go_loop [3, 4] (fun ct t => ∃ u ct' : Nat, t = .int .u32 (u : Int) ∧ ct = .int .i64 (ct' : Int) ∧ ct' ≤ 32 ∧ Hid (u < B32) ∧ Hid (ct' + nbits u = q)) (fun _ t => (intOf t).toNat)
    case atStart => exact ⟨v, 0, rfl, rfl, by omega, HVL, Lib.hid (by rw [HQ.out]; omega)⟩
    case round =>
      obtain ⟨u, ct, rfl, rfl, hct32, hu32, hct⟩ := hrel
      by_cases hu : 0 < u
      · have hh := nbits_half (v := u) (by omega)
        have hc2 : ct + 1 + nbits (u / 2) = q := by have := hct.out; omega
        have hc3 : ct + 1 ≤ 32 := by omega
        have HC2 := Lib.hid hc2
        clear hh hc2
        go_wp2
        go_round
        case rel => exact ⟨u / 2, ct + 1, by congr 1; have := hu32.out; unfold B32 at this; omega, by go_num, hc3, Lib.hid (by have := hu32.out; omega), HC2⟩
        case measure => simp [intOf]; omega
      · have hu0 : u = 0 := by omega
        subst hu0
        have hq' : ct = q := by have := hct.out; rw [nbits_zero] at this; omega
        have HQ' := Lib.hid hq'
        clear hq' hct hu
        go_wp2
        go_ret
        have e : (32 * (K : Int) + (ct : Int)) = (r : Int) := by have h1 := HR.out; have h2 := HQ'.out; have h3 := HQ.out; omega
        exact ⟨ret_i e, rfl⟩
end Go.Proofs.Ytaegkhdkhgemmaa

namespace Go.Proofs.Ytaegkhdkhgemmaa
open Go.RowKit Num

theorem div_step {n k x : Nat} (hx : (dig B32 n)[k]? = some x) : n / B32 ^ (k + 1) * 4294967296 + x = n / B32 ^ k := by
  have e := dig_getElem? b32_two hx
  rw [Nat.pow_succ, ← Nat.div_div_eq_div_mul]
  have := Nat.mod_add_div (n / B32 ^ k) B32
  rw [← e] at this
  unfold B32 at *
  omega

set_option maxHeartbeats 1000000 in
set_option maxRecDepth 100000 in
theorem small_no (a : Value) (n : Nat) (w : World) (ha : N32 w a n) (hl : (dig B32 n).length ≤ 1000000000) (h2 : 2 < (dig B32 n).length) : Calls Try.prog 35 #[a] w (Ret2 w (.int .u64 0) (.bool false)) := by
  obtain ⟨A, c, rfl, _, hA⟩ := ha
  clear hA
  generalize (dig B32 n).length = L at *
  go_enter Try.func35, Try.ntmps35
  go_wp2
  go_ret2
  exact ⟨rfl, Below.refl _ _⟩

set_option maxHeartbeats 1000000 in
set_option maxRecDepth 100000 in
theorem small_ok (a : Value) (n : Nat) (w : World) (ha : N32 w a n) (hl : (dig B32 n).length ≤ 2) : Calls Try.prog 35 #[a] w (Ret2 w (.int .u64 (n : Nat)) (.bool true)) := by
  have hlt : n < B64 := by
    have h1 := dig_len_lt b32_two (n := n)
    have h2 := Nat.pow_le_pow_right b32_pos hl
    have : B32 ^ 2 = B64 := by decide
    omega
  obtain ⟨A, c, rfl, _, hA⟩ := ha
  have hstep := @div_step n
  have htop : n / B32 ^ (dig B32 n).length = 0 := div_pow_len b32_two (Nat.le_refl _)
  have hlow := low_dig b32_two n
  have HST : Hid (∀ k x, (dig B32 n)[k]? = some x → n / B32 ^ (k + 1) * 4294967296 + x = n / B32 ^ k) := fun k x h => hstep h
  have HTOP := Lib.hid htop
  have HLT := Lib.hid hlt
  clear hstep htop hlt
  obtain ⟨L, hL⟩ : ∃ L, (dig B32 n).length = L := ⟨_, rfl⟩
  rw [hL] at hl HTOP ⊢
  have HL := Lib.hid hL
  clear hL
  go_enter Try.func35, Try.ntmps35
  go_wp2
  go_loop [4, 5] (fun q t => ∃ k v : Nat, k ≤ L ∧ t = .int .i64 ((k : Int) - 1) ∧ q = .int .u64 (v : Int) ∧ Hid (v = n / B32 ^ k)) (fun _ t => (intOf t + 1).toNat)
  case atStart => exact ⟨L, 0, Nat.le_refl _, rfl, rfl, Lib.hid HTOP.out.symm⟩
  case round =>
    obtain ⟨k, v, hk, rfl, rfl, hv⟩ := hrel
    by_cases h0 : k = 0
    · subst h0
      go_wp2
      go_ret2
      have e : v = n := by have := hv.out; simpa using this
      subst e
      exact ⟨rfl, Below.refl _ _⟩
    · obtain ⟨j, rfl⟩ : ∃ j, k = j + 1 := ⟨k - 1, by omega⟩
      obtain ⟨g, off, x, rfl, hg, hx, hcx⟩ := hA.at_ (i := j) (by have := HL.out; omega)
      have hxl : x < B32 := hlow x (List.mem_of_getElem? hx)
      have he := HST.out j x hx
      rw [← hv.out] at he
      have hle : v * 4294967296 + x < B64 := by rw [he]; exact Nat.lt_of_le_of_lt (Nat.div_le_self _ _) HLT.out
      obtain ⟨p, hp⟩ : ∃ p, v * 4294967296 = p := ⟨_, rfl⟩
      have w1 : IntKind.u64.wrap ((v : Int) * 4294967296) = (p : Int) := by rw [IntKind.wrap_u64]; unfold B64 at hle; omega
      have w2 : IntKind.u64.wrap (x : Int) = (x : Int) := by rw [IntKind.wrap_u64]; unfold B32 at hxl; omega
      obtain ⟨s, hs⟩ : ∃ s, p + x = s := ⟨_, rfl⟩
      have w3 : IntKind.u64.wrap ((p : Int) + (x : Int)) = (s : Int) := by rw [IntKind.wrap_u64]; unfold B64 at hle; omega
      have hs2 : s = n / B32 ^ j := by rw [← he]; omega
      have HS2 := Lib.hid hs2
      have HX := Lib.hid hx
      have HP := Lib.hid hp
      have HS := Lib.hid hs
      have HE := Lib.hid he
      clear hs2 hx hp hs he hle hxl hA hlow
      go_wp2
      go_round
      case rel => exact ⟨j, s, by omega, by congr 1, rfl, HS2⟩
      case measure => simp [intOf]

set_option maxHeartbeats 1000000 in
set_option maxRecDepth 100000 in
theorem refTrim_any (A : Option Addr) (c n : Nat) (xs : List Nat) (w : World) (h : Nums .u32 w A xs) (hlow : Low B32 xs) (hn : n = xs.length) (hc : n ≤ 1000000000) :
    Calls Try.prog 80 #[.slice A n c] w (LsPost w (dig B32 (val B32 xs))) := by
  subst hn
  have fin : ∀ k, k ≤ xs.length → ZeroFrom xs k → (∀ v, 0 < k → xs[k - 1]? = some v → v ≠ 0) → xs.take k = dig B32 (val B32 xs) := fun k hk hz hn => trim_val b32_two hlow hk hz hn
  have FIN := Lib.hid fin
  clear fin
  obtain ⟨ds, hds⟩ : ∃ ds, dig B32 (val B32 xs) = ds := ⟨_, rfl⟩
  rw [hds] at FIN ⊢
  have HDS := Lib.hid hds
  clear hds hlow
  obtain ⟨i0, hi, hz0, hz1, hz2⟩ := info_parts info56
  have ho := own_empty w 56
  have hbA := below_new w (.cells #[] 56)
  have HO := Lib.hid ho
  have H := Lib.hid h
  clear ho
  go_enter Try.func80, Try.ntmps80
  go_wp2
  go_loop [3] (fun t => ∃ k : Nat, k ≤ xs.length ∧ t = .int .i64 k ∧ ZeroFrom xs k) (fun t => (intOf t).toNat)
  case atStart => exact ⟨xs.length, Nat.le_refl _, rfl, fun i v hv hi => by have := (List.getElem?_eq_some_iff.1 hv).1; omega⟩
  case round =>
    obtain ⟨k, hk, rfl, hz⟩ := hrel
    have hex : (∃ v, 0 < k ∧ xs[k - 1]? = some v ∧ v = 0) ∨ (∀ v, 0 < k → xs[k - 1]? = some v → v ≠ 0) := by
      by_cases hh : ∃ v, 0 < k ∧ xs[k - 1]? = some v ∧ v = 0
      · exact .inl hh
      · exact .inr fun v h1 h2 h3 => hh ⟨v, h1, h2, h3⟩
    rcases hex with ⟨v, hp, hv, hv0⟩ | hfin
    · obtain ⟨g, off, v', rfl, hg, hv', hc1⟩ := h.at_ (i := k - 1) (by omega)
      have e : v' = v := by rw [hv] at hv'; injection hv' with hv'; exact hv'.symm
      subst e
      have hq : ((v' : Int) == 0) = true := by simp [hv0]
      have HV := Lib.hid hv
      have H0 := Lib.hid hv0
      clear hv hv' hv0 h
      go_wp2
      go_round
      case rel =>
        refine ⟨k - 1, by omega, by congr 1; omega, fun i u hu hi => ?_⟩
        by_cases e : i = k - 1
        · have := HV.out; rw [e] at hu; rw [hu] at this; injection this with this; rw [this]; exact H0.out
        · exact hz i u hu (by omega)
      case measure => simp [intOf]; omega
    · have htk := FIN.out k hk hz hfin
      have HT := Lib.hid htk
      clear htk
      by_cases hp : 0 < k
      · obtain ⟨g, off, v, rfl, hg, hv, hc1⟩ := h.at_ (i := k - 1) (by omega)
        have hq : ((v : Int) == 0) = false := by have := hfin v hp hv; simp; omega
        have HV := Lib.hid hv
        clear hv h hfin
        go_wp2
        go_loopw [4, 5] (fun out t wr => ∃ m : Nat, m ≤ k ∧ t = .int .i64 (m : Int) ∧ wr.ownsRow w.heap.size 56 1 out m (ints .u32 (xs.take m)) ∧ Below w.heap.size w wr) (fun _ t _ => k - (intOf t).toNat)
        case atStart => exact ⟨0, Nat.zero_le _, rfl, HO.out, hbA⟩
        case round =>
          clear hbA HO
          obtain ⟨m, hm, rfl, hown, hbl⟩ := hrel
          by_cases hlt : m < k
          · obtain ⟨q, qo, u, e0, hq', hu, hcu⟩ := (H.out.keep hbl).at_ (i := m) (by omega)
            first | (injection e0 with e0; injection e0 with e1 e2 e3; subst e1; subst e2) | subst e0
            have htk2 : ints .u32 (xs.take m) ++ [.int .u32 (u : Int)] = ints .u32 (xs.take (m + 1)) := by
              have hml : m < xs.length := by omega
              rw [List.take_succ_eq_append_getElem hml, (List.getElem?_eq_some_iff.1 hu).2]; simp [ints]
            have HT2 := Lib.hid htk2
            have HU := Lib.hid hu
            clear htk2 hu
            go_wp2_with (at_builtin
                         refine wpList_append_own _ rfl _ _ 35 rfl w.heap.size 56 i0 (.int .u32 0) 1 4 Try.underlying35 hi hz0 hz1 hz2 rfl (by decide) _ m _ rfl (hown.alloc _) ⟨wr.heap.size, 0, none⟩ 1 1 [.int .u32 (u : Int)] rfl rfl (cell_one_new _ _ _) (ints_one .u32 [u]) ?c4 ?c5 (Nat.le_trans hbl.size (by simp)) ?_)
            case c4 => unfold maxLen; omega
            case c5 => omega
            intro v' w1 hown1 hgr1 _
            have hb1 : Below w.heap.size w w1 := (hbl.alloc hbl.size _).grown hgr1 (Nat.le_trans hbl.size (by simp)) (fun g' hg' => by
              rcases hown.2 with ⟨rfl, _⟩ | ⟨g2, cap, cur, rfl, hg2, _⟩
              · simp [Value.ownBlock] at hg'
              · simp [Value.ownBlock] at hg'; omega)
            rw [HT2.out] at hown1
            have H1 := Lib.hid hown1
            clear hown1 hown
            go_wp2
            go_roundw
            case rel => exact ⟨m + 1, by omega, by go_num, H1.out, hb1⟩
            case measure => simp [intOf]; omega
          · have hmk : m = k := by omega
            subst hmk
            clear hlt
            rw [HT.out] at hown
            have hlen : ds.length = m := by rw [← HT.out, List.length_take]; omega
            have HLEN := Lib.hid hlen
            have HOW := Lib.hid hown
            clear hlen hown
            go_wp2
            go_ret
            have := HOW.out
            rw [← HLEN.out] at this
            exact ⟨_, rfl, this, hbl⟩
      · clear h hfin
        go_wp2
        go_loopw [4, 5] (fun out t wr => ∃ m : Nat, m ≤ k ∧ t = .int .i64 (m : Int) ∧ wr.ownsRow w.heap.size 56 1 out m (ints .u32 (xs.take m)) ∧ Below w.heap.size w wr) (fun _ t _ => k - (intOf t).toNat)
        case atStart => exact ⟨0, Nat.zero_le _, rfl, HO.out, hbA⟩
        case round =>
          clear hbA HO
          obtain ⟨m, hm, rfl, hown, hbl⟩ := hrel
          by_cases hlt : m < k
          · exfalso; omega
          · have hmk : m = k := by omega
            subst hmk
            clear hlt
            rw [HT.out] at hown
            have hlen : ds.length = m := by rw [← HT.out, List.length_take]; omega
            have HLEN := Lib.hid hlen
            have HOW := Lib.hid hown
            clear hlen hown
            go_wp2
            go_ret
            have := HOW.out
            rw [← HLEN.out] at this
            exact ⟨_, rfl, this, hbl⟩
end Go.Proofs.Ytaegkhdkhgemmaa

namespace Go.Proofs.Ytaegkhdkhgemmaa
open Go.RowKit Num

set_option maxHeartbeats 1000000 in
set_option maxRecDepth 100000 in
theorem refOf_any (v : Nat) (hv : v < B64) (w : World) : Calls Try.prog 34 #[.int .u64 (v : Int)] w (LsPost w (dig B32 v)) := by
  obtain ⟨lo, hlo⟩ : ∃ lo, v % 4294967296 = lo := ⟨_, rfl⟩
  obtain ⟨hi, hhi⟩ : ∃ hi, v / 4294967296 = hi := ⟨_, rfl⟩
  have l1 : lo < B32 := by unfold B32; omega
  have l2 : hi < B32 := by unfold B32; unfold B64 at hv; omega
  have e1 : (v : Int) % 4294967296 = (lo : Int) := by omega
  have e2 : (v : Int) / 4294967296 = (hi : Int) := by omega
  have w1 : IntKind.u32.wrap (lo : Int) = (lo : Int) := by rw [IntKind.wrap_u32']; unfold B32 at l1; omega
  have w2 : IntKind.u32.wrap (hi : Int) = (hi : Int) := by rw [IntKind.wrap_u32']; unfold B32 at l2; omega
  have w3 : IntKind.u64.wrap (hi : Int) = (hi : Int) := by rw [IntKind.wrap_u64]; unfold B32 at l2; omega
  have w4 : (hi : Int) % 4294967296 = (hi : Int) := by unfold B32 at l2; omega
  have hval : val B32 [lo, hi] = v := by simp only [val]; unfold B32; omega
  have hlow : Low B32 [lo, hi] := Low.cons l1 (Low.cons l2 (Low.nil _))
  have hl := new_limbs w [lo, hi] (by simp)
  have hbA := below_new w (.cells (ints .u32 [lo, hi]).toArray 56)
  have ht : Calls Try.prog 80 #[.slice (some ⟨w.heap.size, 0, none⟩) 2 2] (w.alloc (.cells #[.int .u32 (lo : Int), .int .u32 (hi : Int)] 56)) (LsPost (w.alloc (.cells #[.int .u32 (lo : Int), .int .u32 (hi : Int)] 56)) (dig B32 v)) := by
    obtain ⟨A, c, e, _, _, hn⟩ := hl
    injection e with e1 e2 e3
    subst e1
    have := refTrim_any _ 2 2 [lo, hi] _ hn hlow rfl (by omega)
    rw [hval] at this
    exact this
  have HT := Lib.hid ht
  have H1 := Lib.hid hlo
  have H2 := Lib.hid hhi
  clear ht hl hval hlow hlo hhi l1 l2 hv
  go_enter Try.func34, Try.ntmps34
  go_wp2_with (go_at_call 80; refine HT.out.mono ?_; rintro e w1 ⟨r, rfl, hr, hb⟩)
  go_ret
  refine ⟨_, rfl, ?_, below_at hbA (Nat.le_refl _) hb⟩
  obtain ⟨q1, q2⟩ := hr
  refine ⟨q1, ?_⟩
  rcases q2 with q2 | ⟨g, c, cur, e, hg, r⟩
  · exact .inl q2
  · exact .inr ⟨g, c, cur, e, by simp at hg; omega, r⟩
end Go.Proofs.Ytaegkhdkhgemmaa

namespace Go.Proofs.Ytaegkhdkhgemmaa
open Go.RowKit Num

theorem check_l (a : Value) (xs : List Nat) (w : World) (h : Limbs w a xs) : Calls Try.prog 31 #[a] w fun e w' => e = .returned (.int .i64 (chk xs)) ∧ w = w' := by
  obtain ⟨A, c, rfl, _, hl, hA⟩ := h
  exact check_any A c _ xs w hA rfl hl
theorem refCheck_l (a : Value) (xs : List Nat) (w : World) (h : Limbs w a xs) : Calls Try.prog 27 #[a] w fun e w' => e = .returned (.int .i64 (chk xs)) ∧ w = w' := by
  obtain ⟨A, c, rfl, _, hl, hA⟩ := h
  exact refCheck_any A c _ xs w hA rfl hl
/-- Limbs that Check takes are the digits of a number. -/
theorem chk_zero {xs : List Nat} (hlow : Low B32 xs) (h : chk xs = 0) : xs = dig B32 (val B32 xs) := by
  refine (dig_val b32_two hlow ((neat_iff xs).2 fun hl h0 => ?_)).symm
  unfold chk at h
  split at h
  · cases h
  · rw [if_pos ⟨hl, by rw [List.getD_eq_getElem?_getD, List.getElem?_eq_getElem (by omega)]; exact h0⟩] at h
    cases h
theorem len_u64 {v : Nat} (hv : v < B64) : (dig B32 v).length ≤ 2 := by
  have e : B32 ^ 2 = B64 := by decide
  exact dig_len_le b32_two (by omega)
theorem same_of (a b : Value) (v : Nat) (w : World) (ha : N32 w a v) (hb : Limbs w b (dig B32 v)) (hv : v < B64) : Calls Try.prog 32 #[a, b] w fun e w' => e = .returned (.bool true) ∧ Below w.heap.size w w' := by
  have hl := len_u64 hv
  have := same_nums a b _ _ w (Limbs.num ha (by omega)) hb
  rw [decide_eq_true rfl] at this
  exact this

set_option maxHeartbeats 2000000 in
set_option maxRecDepth 100000 in
theorem checks_bad (A : Option Addr) (c L v : Nat) (xs : List Nat) (w : World) (hA : Nums .u32 w A xs) (hL : L = xs.length) (hc : L ≤ c) (hnil : A = none → c = 0) (hv : v < B64)
    (hbad : chk (xs.take 40) ≠ 0) : Calls Try.prog 3 #[.slice A L c, .int .u64 (v : Int)] w (LivesPost w) := by
  have hcut := cut_any A c L 40 xs w hA hL hc hnil (by omega)
  have hlen : (xs.take 40).length ≤ 40 := by rw [List.length_take]; omega
  generalize xs.take 40 = ys at *
  have hlim : ∀ B w' a, OwnLs B w' a ys → Limbs w' a ys := fun B w' a h => h.limbs (by omega)
  have hof := fun w => of_any v hv w
  have hrof := fun w => refOf_any v hv w
  have hlim2 : ∀ B w' a, OwnLs B w' a (dig B32 v) → Limbs w' a (dig B32 v) := fun B w' a h => h.limbs (Nat.le_trans (len_u64 hv) (by omega))
  have hsame := fun a b w h1 h2 => same_of a b v w h1 h2 hv
  have hb28 := fun a w h => bits_bad a ys w h hbad
  have hb29 := fun a w h => uint64_bad a ys w h hbad
  have h27 := fun a w h => refCheck_l a ys w h
  have h31 := fun a w h => check_l a ys w h
  obtain ⟨r, hr⟩ : ∃ r, chk ys = r := ⟨_, rfl⟩
  rw [hr] at hbad hb28 hb29 h27 h31
  have hq : (r != 0) = true := by simp [hbad]
  have hq0 : (r == r) = true := by simp
  have hq1 : (r != r) = false := by simp
  have HCUT := Lib.hid hcut
  have HLIM := Lib.hid hlim
  have HLIM2 := Lib.hid hlim2
  have HOF := Lib.hid hof
  have HROF := Lib.hid hrof
  have HSAME := Lib.hid hsame
  have H28 := Lib.hid hb28
  have H29 := Lib.hid hb29
  have H27 := Lib.hid h27
  have H31 := Lib.hid h31
  have HR := Lib.hid hr
  have HB := Lib.hid hbad
  clear hcut hlim hlim2 hof hrof hsame hb28 hb29 h27 h31 hr hbad hA hL hlen hnil hv
  go_enter Try.func3, Try.ntmps3
  go_wp2_with (first
    | (go_at_call 26; refine HCUT.out.mono ?_; rintro e w1 ⟨va, rfl, hva, hb1⟩
       have ka := HLIM.out _ _ _ hva)
    | (go_at_call 27; refine (H27.out _ _ ka).mono ?_; rintro e w2 ⟨rfl, rfl⟩)
    | (go_at_call 28; refine (H28.out _ _ ka).mono ?_; rintro e w2 ⟨rfl, hb2⟩
       have b2 := below_at hb1 (Nat.le_refl _) hb2
       have ka2 := ka.keep hb2)
    | (go_at_call 29; refine (H29.out _ _ ka2).mono ?_; rintro e w3 ⟨rfl, hb3⟩
       have b3 := below_at b2 (Nat.le_refl _) hb3
       have ka3 := ka2.keep hb3)
    | (go_at_call 30; refine (lives_any _).mono ?_; rintro e w4 ⟨rfl, hb4⟩
       have b4 := below_at b3 (Nat.le_refl _) hb4
       have ka4 := ka3.keep hb4)
    | (go_at_call 31; refine (H31.out _ _ ka4).mono ?_; rintro e w5 ⟨rfl, rfl⟩)
    | (go_at_call 33; refine (HOF.out _).mono ?_; rintro e w6 ⟨v6, rfl, hv6, hb6⟩
       have b6 := below_at b4 (Nat.le_refl _) hb6)
    | (go_at_call 34; refine (HROF.out _).mono ?_; rintro e w7 ⟨v7, rfl, hv7, hb7⟩
       have b7 := below_at b6 (Nat.le_refl _) hb7
       have k6 := hv6.is.keep hb7
       have k7 := HLIM2.out _ _ _ hv7)
    | (go_at_call 32; refine (HSAME.out _ _ _ k6 k7).mono ?_; rintro e w8 ⟨rfl, hb8⟩
       have b8 := below_at b7 (Nat.le_refl _) hb8))
  go_ret
  exact ⟨rfl, b8⟩
set_option maxHeartbeats 2000000 in
set_option maxRecDepth 100000 in
theorem checks_ok2 (A : Option Addr) (c L v n : Nat) (xs : List Nat) (w : World) (hA : Nums .u32 w A xs) (hL : L = xs.length) (hc : L ≤ c) (hnil : A = none → c = 0) (hv : v < B64)
    (hn : xs.take 40 = dig B32 n) (h2 : (dig B32 n).length ≤ 2) : Calls Try.prog 3 #[.slice A L c, .int .u64 (v : Int)] w (LivesPost w) := by
  have hcut := cut_any A c L 40 xs w hA hL hc hnil (by omega)
  have hlen : (xs.take 40).length ≤ 40 := by rw [List.length_take]; omega
  rw [hn] at hcut hlen
  have hlim : ∀ B w' a, OwnLs B w' a (dig B32 n) → Limbs w' a (dig B32 n) := fun B w' a h => h.limbs (by omega)
  have hof := fun w => of_any v hv w
  have hrof := fun w => refOf_any v hv w
  have hlim2 : ∀ B w' a, OwnLs B w' a (dig B32 v) → Limbs w' a (dig B32 v) := fun B w' a h => h.limbs (Nat.le_trans (len_u64 hv) (by omega))
  have hsame := fun a b w h1 h2 => same_of a b v w h1 h2 hv
  have hb28 := fun a w (h : Limbs w a (dig B32 n)) => bits_ok a n w h.is (by omega)
  have hb29 := fun a w (h : Limbs w a (dig B32 n)) => uint64_ok a n w h.is h2
  have h27 := fun a w h => refCheck_l a (dig B32 n) w h
  have h31 := fun a w h => check_l a (dig B32 n) w h
  have h35 := fun a w (h : Limbs w a (dig B32 n)) => small_ok a n w h.is h2
  have h36 := fun a w (h : Limbs w a (dig B32 n)) => refBits_any a n w h.is (by omega)
  rw [chk_dig (n := n) (by omega)] at h27 h31
  generalize nbits n = r at *
  have HCUT := Lib.hid hcut
  have HLIM := Lib.hid hlim
  have HLIM2 := Lib.hid hlim2
  have HOF := Lib.hid hof
  have HROF := Lib.hid hrof
  have HSAME := Lib.hid hsame
  have H28 := Lib.hid hb28
  have H29 := Lib.hid hb29
  have H27 := Lib.hid h27
  have H31 := Lib.hid h31
  have H35 := Lib.hid h35
  have H36 := Lib.hid h36
  clear hcut hlim hlim2 hof hrof hsame hb28 hb29 h27 h31 h35 h36 hA hL hlen hnil hv hn h2
  go_enter Try.func3, Try.ntmps3
  go_wp2_with (first
    | (go_at_call 26; refine HCUT.out.mono ?_; rintro e w1 ⟨va, rfl, hva, hb1⟩
       have ka := HLIM.out _ _ _ hva)
    | (go_at_call 27; refine (H27.out _ _ ka).mono ?_; rintro e w2 ⟨rfl, rfl⟩)
    | (go_at_call 28; refine (H28.out _ _ ka).mono ?_; rintro e w2 ⟨rfl, hb2⟩
       have b2 := below_at hb1 (Nat.le_refl _) hb2
       have ka2 := ka.keep hb2)
    | (go_at_call 29; refine (H29.out _ _ ka2).mono ?_; rintro e w3 ⟨rfl, hb3⟩
       have b3 := below_at b2 (Nat.le_refl _) hb3
       have ka3 := ka2.keep hb3)
    | (go_at_call 30; refine (lives_any _).mono ?_; rintro e w4 ⟨rfl, hb4⟩
       have b4 := below_at b3 (Nat.le_refl _) hb4
       have ka4 := ka3.keep hb4)
    | (go_at_call 31; refine (H31.out _ _ ka4).mono ?_; rintro e w5 ⟨rfl, rfl⟩)
    | (go_at_call 33; refine (HOF.out _).mono ?_; rintro e w6 ⟨v6, rfl, hv6, hb6⟩
       have b6 := below_at b4 (Nat.le_refl _) hb6
       have ka6 := ka4.keep hb6)
    | (go_at_call 34; refine (HROF.out _).mono ?_; rintro e w7 ⟨v7, rfl, hv7, hb7⟩
       have b7 := below_at b6 (Nat.le_refl _) hb7
       have k6 := hv6.is.keep hb7
       have k7 := HLIM2.out _ _ _ hv7
       have ka7 := ka6.keep hb7)
    | (go_at_call 32; refine (HSAME.out _ _ _ k6 k7).mono ?_; rintro e w8 ⟨rfl, hb8⟩
       have b8 := below_at b7 (Nat.le_refl _) hb8
       have ka8 := ka7.keep hb8)
    | (go_at_call 35; refine (H35.out _ _ ka8).mono ?_; rintro e w9 ⟨rfl, hb9⟩
       have b9 := below_at b8 (Nat.le_refl _) hb9
       have ka9 := ka8.keep hb9)
    | (go_at_call 36; refine (H36.out _ _ ka9).mono ?_; rintro e w10 ⟨rfl, rfl⟩))
  go_ret
  exact ⟨rfl, b9⟩

set_option maxHeartbeats 2000000 in
set_option maxRecDepth 100000 in
theorem checks_ok3 (A : Option Addr) (c L v n : Nat) (xs : List Nat) (w : World) (hA : Nums .u32 w A xs) (hL : L = xs.length) (hc : L ≤ c) (hnil : A = none → c = 0) (hv : v < B64)
    (hn : xs.take 40 = dig B32 n) (h2 : 2 < (dig B32 n).length) : Calls Try.prog 3 #[.slice A L c, .int .u64 (v : Int)] w (LivesPost w) := by
  have hcut := cut_any A c L 40 xs w hA hL hc hnil (by omega)
  have hlen : (xs.take 40).length ≤ 40 := by rw [List.length_take]; omega
  rw [hn] at hcut hlen
  have hlim : ∀ B w' a, OwnLs B w' a (dig B32 n) → Limbs w' a (dig B32 n) := fun B w' a h => h.limbs (by omega)
  have hof := fun w => of_any v hv w
  have hrof := fun w => refOf_any v hv w
  have hlim2 : ∀ B w' a, OwnLs B w' a (dig B32 v) → Limbs w' a (dig B32 v) := fun B w' a h => h.limbs (Nat.le_trans (len_u64 hv) (by omega))
  have hsame := fun a b w h1 h2 => same_of a b v w h1 h2 hv
  have hb28 := fun a w (h : Limbs w a (dig B32 n)) => bits_ok a n w h.is (by omega)
  have hb29 := fun a w (h : Limbs w a (dig B32 n)) => uint64_range a n w h.is (by omega) h2
  have h27 := fun a w h => refCheck_l a (dig B32 n) w h
  have h31 := fun a w h => check_l a (dig B32 n) w h
  have h35 := fun a w (h : Limbs w a (dig B32 n)) => small_no a n w h.is (by omega) h2
  have h36 := fun a w (h : Limbs w a (dig B32 n)) => refBits_any a n w h.is (by omega)
  rw [chk_dig (n := n) (by omega)] at h27 h31
  generalize nbits n = r at *
  have HCUT := Lib.hid hcut
  have HLIM := Lib.hid hlim
  have HLIM2 := Lib.hid hlim2
  have HOF := Lib.hid hof
  have HROF := Lib.hid hrof
  have HSAME := Lib.hid hsame
  have H28 := Lib.hid hb28
  have H29 := Lib.hid hb29
  have H27 := Lib.hid h27
  have H31 := Lib.hid h31
  have H35 := Lib.hid h35
  have H36 := Lib.hid h36
  clear hcut hlim hlim2 hof hrof hsame hb28 hb29 h27 h31 h35 h36 hA hL hlen hnil hv hn h2
  go_enter Try.func3, Try.ntmps3
  go_wp2_with (first
    | (go_at_call 26; refine HCUT.out.mono ?_; rintro e w1 ⟨va, rfl, hva, hb1⟩
       have ka := HLIM.out _ _ _ hva)
    | (go_at_call 27; refine (H27.out _ _ ka).mono ?_; rintro e w2 ⟨rfl, rfl⟩)
    | (go_at_call 28; refine (H28.out _ _ ka).mono ?_; rintro e w2 ⟨rfl, hb2⟩
       have b2 := below_at hb1 (Nat.le_refl _) hb2
       have ka2 := ka.keep hb2)
    | (go_at_call 29; refine (H29.out _ _ ka2).mono ?_; rintro e w3 ⟨rfl, hb3⟩
       have b3 := below_at b2 (Nat.le_refl _) hb3
       have ka3 := ka2.keep hb3)
    | (go_at_call 30; refine (lives_any _).mono ?_; rintro e w4 ⟨rfl, hb4⟩
       have b4 := below_at b3 (Nat.le_refl _) hb4
       have ka4 := ka3.keep hb4)
    | (go_at_call 31; refine (H31.out _ _ ka4).mono ?_; rintro e w5 ⟨rfl, rfl⟩)
    | (go_at_call 33; refine (HOF.out _).mono ?_; rintro e w6 ⟨v6, rfl, hv6, hb6⟩
       have b6 := below_at b4 (Nat.le_refl _) hb6
       have ka6 := ka4.keep hb6)
    | (go_at_call 34; refine (HROF.out _).mono ?_; rintro e w7 ⟨v7, rfl, hv7, hb7⟩
       have b7 := below_at b6 (Nat.le_refl _) hb7
       have k6 := hv6.is.keep hb7
       have k7 := HLIM2.out _ _ _ hv7
       have ka7 := ka6.keep hb7)
    | (go_at_call 32; refine (HSAME.out _ _ _ k6 k7).mono ?_; rintro e w8 ⟨rfl, hb8⟩
       have b8 := below_at b7 (Nat.le_refl _) hb8
       have ka8 := ka7.keep hb8)
    | (go_at_call 35; refine (H35.out _ _ ka8).mono ?_; rintro e w9 ⟨rfl, hb9⟩
       have b9 := below_at b8 (Nat.le_refl _) hb9
       have ka9 := ka8.keep hb9)
    | (go_at_call 36; refine (H36.out _ _ ka9).mono ?_; rintro e w10 ⟨rfl, rfl⟩))
  go_ret
  exact ⟨rfl, b9⟩

/-- The law NatChecks, for whatever limbs and whatever word. -/
theorem checks_walk (A : Option Addr) (c L v : Nat) (xs : List Nat) (w : World) (hA : Nums .u32 w A xs) (hlow : Low B32 xs) (hL : L = xs.length) (hc : L ≤ c) (hnil : A = none → c = 0) (hv : v < B64) :
    Calls Try.prog 3 #[.slice A L c, .int .u64 (v : Int)] w (LivesPost w) := by
  by_cases h0 : chk (xs.take 40) = 0
  · have hn := chk_zero (hlow.take 40) h0
    rcases Nat.lt_or_ge 2 (dig B32 (val B32 (xs.take 40))).length with h2 | h2
    · exact checks_ok3 A c L v _ xs w hA hL hc hnil hv hn h2
    · exact checks_ok2 A c L v _ xs w hA hL hc hnil hv hn h2
  · exact checks_bad A c L v xs w hA hL hc hnil hv h0
end Go.Proofs.Ytaegkhdkhgemmaa

namespace Go.Proofs.Ytaegkhdkhgemmaa
open Go.RowKit Num

theorem cmp64_call (a b : Value) (m n : Nat) (w : World) (ha : W64 w a m) (hb : W64 w b n) (hm : (dig B64 m).length ≤ 1000000000) (hn : (dig B64 n).length ≤ 1000000000) :
    Calls Try.prog 83 #[a, b] w fun e w' => e = .returned (.int .i64 (cmpN m n)) ∧ Below w.heap.size w w' := by
  obtain ⟨A, c, rfl, _, hA⟩ := ha
  obtain ⟨A', c', rfl, _, hA'⟩ := hb
  exact compare83 A A' c c' _ _ m n w hA hA' rfl rfl (by omega) (by omega)

set_option maxHeartbeats 1000000 in
set_option maxRecDepth 100000 in
theorem sub_ok (a b : Value) (m n : Nat) (w : World) (ha : N32 w a m) (hb : N32 w b n) (hm : (dig B32 m).length ≤ 262144) (hn : (dig B32 n).length ≤ 262144) (hle : n ≤ m) : Calls Try.prog 38 #[a, b] w (NatOk w (m - n)) := by
  have hc := checkAll_any w.heap.size 2 2 _ _ (nats2 (Limbs.num ha (by omega)) (Limbs.num hb (by omega))) rfl (by omega)
  rw [chkAll2, chk2, if_pos (chk_dig hm), chk_dig hn] at hc
  have hbA := below_new w (.cells #[a, b] 23)
  have ha1 := ha.keep hbA
  have hb1 := hb.keep hbA
  have hf1 := fun w' (h : N32 w' a m) => fromNat_any a m w' h (by omega)
  have hf2 := fun w' (h : N32 w' b n) => fromNat_any b n w' h (by omega)
  have lm := words_le (n := m) (K := 131072) hm
  have ln := words_le (n := n) (K := 131072) hn
  have hcm := fun v u w' (h : W64 w' v m) (k : W64 w' u n) => cmp64_call v u m n w' h k (by omega) (by omega)
  have hpr := fun v u w' (h : W64 w' v m) (k : W64 w' u n) => diff_any v u m n w' h k (by omega) hle
  have hnt := fun v w' (h : W64 w' v (m - n)) => nat_any v (m - n) w' h (Nat.le_trans (dig_len_mono (Nat.sub_le m n)) (by omega))
  have hcv : 0 ≤ cmpN m n := by unfold cmpN; split <;> (try split) <;> omega
  generalize cmpN m n = r at *
  have HC := Lib.hid hc
  have HA := Lib.hid ha1
  have HB := Lib.hid hb1
  have HF1 := Lib.hid hf1
  have HF2 := Lib.hid hf2
  have HP := Lib.hid hpr
  have HN := Lib.hid hnt
  have HCM := Lib.hid hcm
  obtain ⟨A, c, rfl, _⟩ := ha
  obtain ⟨A', c', rfl, _⟩ := hb
  clear hc ha1 hb1 hf1 hf2 hpr hle hnt lm ln hcm
  generalize (dig B32 m).length = L at *
  generalize (dig B32 n).length = L' at *
  go_enter Try.func38, Try.ntmps38
  go_wp2_with (go_at_call 75; refine HC.out.mono ?_; rintro e w1 ⟨rfl, rfl⟩)
  go_wp2_with (fail)
  refine (HF1.out _ HA.out).mono ?_
  rintro e w1 ⟨v1, rfl, hv1, hb1⟩
  go_wp2_with (fail)
  refine (HF2.out _ (HB.out.keep hb1)).mono ?_
  rintro e w2 ⟨v2, rfl, hv2, hb2⟩
  have k1 := hv1.is.keep hb2
  have k2 := hv2.is
  go_wp2_with (fail)
  refine (HCM.out _ _ _ k1 k2).mono ?_
  rintro e w3 ⟨rfl, hb3⟩
  go_wp2_with (fail)
  refine (HP.out _ _ _ (k1.keep hb3) (k2.keep hb3)).mono ?_
  rintro e w4 ⟨v4, rfl, hv4, hb4⟩
  go_wp2_with (fail)
  refine (HN.out _ _ hv4.is).mono ?_
  rintro e w5 ⟨v5, rfl, hv5, hb5⟩
  go_wp2
  go_ret2
  have b1 := below_at hbA (Nat.le_refl _) hb1
  have b2 := below_at b1 (Nat.le_refl _) hb2
  have b3 := below_at b2 (Nat.le_refl _) hb3
  have b4 := below_at b3 (Nat.le_refl _) hb4
  exact ⟨_, rfl, hv5.mono b4.size, below_at b4 (Nat.le_refl _) hb5⟩

set_option maxHeartbeats 1000000 in
set_option maxRecDepth 100000 in
theorem sub_range (a b : Value) (m n : Nat) (w : World) (ha : N32 w a m) (hb : N32 w b n) (hm : (dig B32 m).length ≤ 262144) (hn : (dig B32 n).length ≤ 262144) (hlt : m < n) : Calls Try.prog 38 #[a, b] w (NatErr w 5) := by
  have hc := checkAll_any w.heap.size 2 2 _ _ (nats2 (Limbs.num ha (by omega)) (Limbs.num hb (by omega))) rfl (by omega)
  rw [chkAll2, chk2, if_pos (chk_dig hm), chk_dig hn] at hc
  have hbA := below_new w (.cells #[a, b] 23)
  have ha1 := ha.keep hbA
  have hb1 := hb.keep hbA
  have hf1 := fun w' (h : N32 w' a m) => fromNat_any a m w' h (by omega)
  have hf2 := fun w' (h : N32 w' b n) => fromNat_any b n w' h (by omega)
  have lm := words_le (n := m) (K := 131072) hm
  have ln := words_le (n := n) (K := 131072) hn
  have hcm := fun v u w' (h : W64 w' v m) (k : W64 w' u n) => cmp64_call v u m n w' h k (by omega) (by omega)
  rw [cmpN_lt hlt] at hcm
  have HC := Lib.hid hc
  have HA := Lib.hid ha1
  have HB := Lib.hid hb1
  have HF1 := Lib.hid hf1
  have HF2 := Lib.hid hf2
  have HCM := Lib.hid hcm
  obtain ⟨A, c, rfl, _⟩ := ha
  obtain ⟨A', c', rfl, _⟩ := hb
  clear hc ha1 hb1 hf1 hf2 lm ln hcm hlt
  generalize (dig B32 m).length = L at *
  generalize (dig B32 n).length = L' at *
  go_enter Try.func38, Try.ntmps38
  go_wp2_with (go_at_call 75; refine HC.out.mono ?_; rintro e w1 ⟨rfl, rfl⟩)
  go_wp2_with (fail)
  refine (HF1.out _ HA.out).mono ?_
  rintro e w1 ⟨v1, rfl, hv1, hb1⟩
  go_wp2_with (fail)
  refine (HF2.out _ (HB.out.keep hb1)).mono ?_
  rintro e w2 ⟨v2, rfl, hv2, hb2⟩
  have k1 := hv1.is.keep hb2
  have k2 := hv2.is
  go_wp2_with (fail)
  refine (HCM.out _ _ _ k1 k2).mono ?_
  rintro e w3 ⟨rfl, hb3⟩
  go_wp2
  go_ret2
  have b1 := below_at hbA (Nat.le_refl _) hb1
  have b2 := below_at b1 (Nat.le_refl _) hb2
  exact ⟨rfl, below_at b2 (Nat.le_refl _) hb3⟩

set_option maxHeartbeats 400000 in
theorem both_any (a b : Value) (xs ys : List Nat) (w : World) (ha : Limbs w a xs) (hb : Limbs w b ys) : Calls Try.prog 40 #[a, b] w fun e w' => e = .returned (.int .i64 (chk2 xs ys)) ∧ w = w' := by
  have h1 := refCheck_l a xs w ha
  have h2 := refCheck_l b ys w hb
  unfold chk2
  by_cases h0 : chk xs = 0
  · rw [if_pos h0]
    rw [h0] at h1
    generalize chk ys = r at *
    have H1 := Lib.hid h1
    have H2 := Lib.hid h2
    clear h1 h2 ha hb h0
    go_enter Try.func40, Try.ntmps40
    go_wp2_with (fail)
    refine H1.out.mono ?_
    rintro e w1 ⟨rfl, rfl⟩
    go_wp2_with (fail)
    refine H2.out.mono ?_
    rintro e w1 ⟨rfl, rfl⟩
    go_wp2
    go_ret
    exact ⟨rfl, rfl⟩
  · rw [if_neg h0]
    generalize chk xs = r at *
    have hq : (r != 0) = true := by simp [h0]
    have H1 := Lib.hid h1
    have H0 := Lib.hid h0
    clear h1 h2 ha hb h0
    go_enter Try.func40, Try.ntmps40
    go_wp2_with (fail)
    refine H1.out.mono ?_
    rintro e w1 ⟨rfl, rfl⟩
    go_wp2
    go_ret
    exact ⟨rfl, rfl⟩

set_option maxHeartbeats 400000 in
/-- is: a number that is as it should be. -/
theorem is_ok (a b : Value) (n : Nat) (w : World) (ha : N32 w a n) (hb : Limbs w b (dig B32 n)) (hl : (dig B32 n).length ≤ 1000000000) : Calls Try.prog 41 #[a, .int .i64 0, b, .int .i64 0] w (LivesPost w) := by
  have hs := same_nums a b _ _ w (Limbs.num ha (by omega)) hb
  rw [decide_eq_true rfl] at hs
  have HS := Lib.hid hs
  clear hs ha hb
  go_enter Try.func41, Try.ntmps41
  go_wp2_with (go_at_call 32; refine HS.out.mono ?_; rintro e w1 ⟨rfl, hb1⟩)
  go_ret
  exact ⟨rfl, hb1⟩
set_option maxHeartbeats 400000 in
/-- is: an error that is as it should be. -/
theorem is_err (b : Value) (k : Int) (w : World) (h0 : k ≠ 0) : Calls Try.prog 41 #[.slice none 0 0, .int .i64 k, b, .int .i64 k] w (LivesPost w) := by
  have hq : (k != 0) = true := by simp [h0]
  have hq2 : (k == k) = true := by simp
  have H0 := Lib.hid h0
  clear h0
  go_enter Try.func41, Try.ntmps41
  go_wp2
  go_ret
  exact ⟨rfl, Below.refl _ _⟩
end Go.Proofs.Ytaegkhdkhgemmaa

namespace Go.Proofs.Ytaegkhdkhgemmaa
open Go.RowKit Num

/-- Division by a word from the top down: the words from k on are done. -/
structure WordSt (xs zs : List Nat) (v k l : Nat) : Prop where
  len : zs.length = xs.length
  low : Low B64 zs
  lt : l < v
  eq : val B64 (xs.drop k) = v * val B64 (zs.drop k) + l
theorem WordSt.start (xs : List Nat) {v : Nat} (hv : 0 < v) : WordSt xs (List.replicate xs.length 0) v xs.length 0 :=
  ⟨by simp, Low.replicate b64_pos _, hv, by simp [val]⟩
theorem WordSt.step {xs zs : List Nat} {v k l x q r : Nat} (h : WordSt xs zs v (k + 1) l) (hx : xs[k]? = some x) (hs : l * B64 + x = v * q + r) (hq : q < B64) (hr : r < v) : WordSt xs (zs.set k q) v k r := by
  have hk : k < xs.length := (List.getElem?_eq_some_iff.1 hx).1
  have hxe : xs[k] = x := (List.getElem?_eq_some_iff.1 hx).2
  have hkz : k < (zs.set k q).length := by rw [List.length_set, h.len]; exact hk
  refine ⟨by rw [List.length_set]; exact h.len, h.low.set hq, hr, ?_⟩
  rw [List.drop_eq_getElem_cons hk, List.drop_eq_getElem_cons hkz, hxe, List.getElem_set_self, List.drop_set_of_lt (by omega)]
  simp only [val]
  rw [h.eq]
  grind
theorem WordSt.fin {xs zs : List Nat} {v l : Nat} (h : WordSt xs zs v 0 l) : val B64 zs = val B64 xs / v ∧ val B64 xs % v = l := by
  have e := h.eq
  simp only [List.drop_zero] at e
  have hl := h.lt
  rw [e, Nat.mul_add_div (by omega), Nat.div_eq_of_lt hl, Nat.mul_add_mod, Nat.mod_eq_of_lt hl]
  simp

def DivWPost (w : World) (q r : Nat) (e : Ending) (w' : World) : Prop := ∃ v, e = .returned (.tuple #[v, .int .u64 (r : Int)]) ∧ OwnW w.heap.size w' v q ∧ Below w.heap.size w w'

set_option maxHeartbeats 2000000 in
set_option maxRecDepth 100000 in
theorem divideWord_any (A : Option Addr) (c L d : Nat) (xs : List Nat) (w : World) (hA : Nums .u64 w A xs) (hx : Low B64 xs) (hL : L = xs.length) (hl : L ≤ 100000000000) (hd0 : 0 < d) (hd : d < B64) :
    Calls Try.prog 112 #[.slice A L c, .int .u64 (d : Int)] w (DivWPost w (val B64 xs / d) (val B64 xs % d)) := by
  have hmk := make64 L (by omega) w
  have hr0 := Row.made w .u64 L 24
  have hbA : Below w.heap.size w (w.alloc (.cells (madeCells #[.int .u64 0] L) 24)) := (Below.refl _ _).alloc (Nat.le_refl _) _
  have hst0 := WordSt.start xs hd0
  rw [← hL] at hst0
  have HL := Lib.hid hL
  have HR0 := Lib.hid hr0
  clear hL hr0
  go_enter Try.func112, Try.ntmps112
  go_wp2
  go_loopw [5, 6] (fun q t wr => ∃ (k l : Nat) (zs : List Nat), k ≤ L ∧ t = .int .i64 ((k : Int) - 1) ∧ q = .int .u64 (l : Int) ∧ WordSt xs zs d k l ∧ Row .u64 24 wr w.heap.size zs ∧ Below w.heap.size w wr) (fun _ t _ => (intOf t + 1).toNat)
  case atStart => exact ⟨L, 0, _, Nat.le_refl _, rfl, rfl, hst0, HR0.out, hbA⟩
  case round =>
    clear hst0 HR0 hbA hmk
    obtain ⟨k, l, zs, hk, rfl, rfl, hst, hrow, hbl⟩ := hrel
    have hlen := hst.len
    rw [← HL.out] at hlen
    have HLEN := Lib.hid hlen
    clear hlen
    by_cases h0 : k = 0
    · subst h0
      obtain ⟨f1, f2⟩ := hst.fin
      have hn := hrow.nums0 zs.length
      rw [List.take_length] at hn
      have own := own_of_trim b64_two hrow hst.low (Nat.le_refl w.heap.size)
      rw [f1, HLEN.out] at own
      have htr := trim_any _ L L zs _ hn hst.low HLEN.out.symm (Nat.le_refl _) (by omega)
      rw [f1] at htr
      have HT := Lib.hid htr
      have F2 := Lib.hid f2
      clear htr f1 f2 hn hst hx hA
      go_wp2_with (go_at_call 78; refine HT.out.mono ?_; rintro e w9 ⟨rfl, rfl⟩)
      go_ret2
      rw [F2.out]
      exact ⟨_, rfl, own, hbl⟩
    · obtain ⟨j, rfl⟩ : ∃ j, k = j + 1 := ⟨k - 1, by omega⟩
      obtain ⟨g, off, x, rfl, hg, hxv, hcx⟩ := (hA.keep hbl).at_ (i := j) (by have := HL.out; omega)
      have hxl : x < B64 := hx x (List.mem_of_getElem? hxv)
      have hdv := fun w => div64_any l x d hst.lt hxl hd w
      have hs := Nat.div_add_mod (l * B64 + x) d
      have hr := Nat.mod_lt (l * B64 + x) hd0
      have hq : (l * B64 + x) / d < B64 := by
        refine Nat.div_lt_of_lt_mul ?_
        have := Nat.mul_le_mul_right B64 (show l + 1 ≤ d from hst.lt)
        rw [Nat.add_mul] at this; omega
      generalize (l * B64 + x) / d = q at *
      generalize (l * B64 + x) % d = r at *
      have hst' := hst.step hxv hs.symm hq hr
      obtain ⟨o, ho⟩ : ∃ o, zs[j]? = some o := ⟨zs[j]'(by have := HLEN.out; omega), List.getElem?_eq_getElem _⟩
      have hco := hrow.cell ho
      have hfo := hrow.frozen j
      have HST := Lib.hid hst'
      have HX := Lib.hid hxv
      have HO := Lib.hid ho
      have HDV := Lib.hid hdv
      clear hst' hxv ho hxl hs hq hr hst hA hx hdv
      go_wp2_with (go_at_call 131; refine (HDV.out _).mono ?_; rintro e w1 ⟨rfl, m, rfl⟩)
      go_roundw
      case rel => exact ⟨j, r, _, by omega, by first | rfl | go_num, rfl, HST.out, Row.set (Row.of_block hrow (by rfl)) j q, below_set (below_drewN hbl _) (Nat.le_refl _) _⟩
      case measure => simp [intOf]
theorem divideWord_call (a : Value) (m d : Nat) (w : World) (ha : W64 w a m) (hl : (dig B64 m).length ≤ 100000000000) (hd0 : 0 < d) (hd : d < B64) : Calls Try.prog 112 #[a, .int .u64 (d : Int)] w (DivWPost w (m / d) (m % d)) := by
  obtain ⟨A, c, rfl, _, hA⟩ := ha
  have := divideWord_any A c _ d _ w hA (low_dig b64_two m) rfl hl hd0 hd
  rw [val_dig b64_two] at this
  exact this

/-- A divisor whose highest bit is set. -/
def Normal (n : Nat) : Prop := ∃ k, 2 ≤ k ∧ B64 ^ k ≤ 2 * n ∧ n < B64 ^ k
theorem Normal.len {n : Nat} (h : Normal n) : 2 ≤ (dig B64 n).length ∧ B64 ^ (dig B64 n).length ≤ 2 * n ∧ ∀ t, (dig B64 n)[(dig B64 n).length - 1]? = some t → B64 ≤ 2 * t := by
  obtain ⟨k, h2, h1, h3⟩ := h
  have hle := dig_len_le b64_two h3
  have hge : k ≤ (dig B64 n).length := by
    rcases Nat.lt_or_ge (dig B64 n).length k with h4 | h4
    · exfalso
      have h5 := dig_len_lt b64_two (n := n)
      have h6 := Nat.pow_le_pow_right b64_pos (show (dig B64 n).length + 1 ≤ k from h4)
      rw [Nat.pow_succ] at h6
      have h7 : B64 ^ (dig B64 n).length * 2 ≤ B64 ^ (dig B64 n).length * B64 := Nat.mul_le_mul_left _ b64_two
      omega
    · exact h4
  have hk : (dig B64 n).length = k := by omega
  refine ⟨by omega, by rw [hk]; exact h1, fun t ht => ?_⟩
  rw [hk] at ht
  have e := dig_getElem? b64_two ht
  have hd : n / B64 ^ (k - 1) < B64 := by
    refine Nat.div_lt_of_lt_mul ?_
    have : B64 ^ k = B64 ^ (k - 1) * B64 := by rw [← Nat.pow_succ]; congr 1; omega
    omega
  rw [Nat.mod_eq_of_lt hd] at e
  have hp : 0 < B64 ^ (k - 1) := Nat.pow_pos b64_pos
  have h8 := Nat.lt_div_mul_add (a := n) hp
  rw [← e] at h8
  have h9 : B64 ^ k = B64 * B64 ^ (k - 1) := by rw [Nat.mul_comm, ← Nat.pow_succ]; congr 1; omega
  rcases Nat.lt_or_ge (2 * t + 1) B64 with h10 | h10
  · exfalso
    have h11 : (2 * t + 2) * B64 ^ (k - 1) ≤ B64 * B64 ^ (k - 1) := Nat.mul_le_mul_right _ h10
    have h12 : (2 * t + 2) * B64 ^ (k - 1) = 2 * (t * B64 ^ (k - 1) + B64 ^ (k - 1)) := by grind
    omega
  · unfold B64 at *; omega

theorem lenm {m n : Nat} (h : n ≤ m) : (dig B64 n).length ≤ (dig B64 m).length := dig_len_mono h

set_option maxHeartbeats 2000000 in
set_option maxRecDepth 100000 in
theorem divideNormal_lt (a b : Value) (m n : Nat) (w : World) (ha : W64 w a m) (hb : W64 w b n) (hn : (dig B64 n).length ≤ 100000000) (hm : (dig B64 m).length ≤ 100000000) (hlt : m < n) :
    Calls Try.prog 114 #[a, b] w (DivPost w (m / n) (m % n)) := by
  have hcmp := cmp64_call a b m n w ha hb (by omega) (by omega)
  rw [cmpN_lt hlt] at hcmp
  rw [Nat.div_eq_of_lt hlt, Nat.mod_eq_of_lt hlt]
  have HC := Lib.hid hcmp
  have HA := Lib.hid ha
  obtain ⟨A, c, rfl, _⟩ := ha
  obtain ⟨A', c', rfl, _⟩ := hb
  clear hcmp hlt
  generalize (dig B64 m).length = L at *
  generalize (dig B64 n).length = L' at *
  go_enter Try.func114, Try.ntmps114
  go_wp2_with (fail)
  refine HC.out.mono ?_
  rintro e w1 ⟨rfl, hb1⟩
  go_wp2
  go_ret2
  exact ⟨_, _, rfl, w64_nil _, HA.out.keep hb1, hb1⟩

set_option maxHeartbeats 2000000 in
set_option maxRecDepth 100000 in
theorem divideNormal_s (a b : Value) (m n : Nat) (w : World) (ha : W64 w a m) (hb : W64 w b n) (hn : Normal n) (hm : (dig B64 m).length ≤ 100000000) (hle : n ≤ m) (hs : (dig B64 n).length < 200) :
    Calls Try.prog 114 #[a, b] w (DivPost w (m / n) (m % n)) := by
  have hll := lenm hle
  have hcmp := cmp64_call a b m n w ha hb (by omega) (by omega)
  have hc0 : 0 ≤ cmpN m n := by
    rcases Nat.lt_or_ge n m with h | h
    · rw [cmpN_gt h]; omega
    · obtain rfl : m = n := by omega
      rw [cmpN_eq]; omega
  generalize cmpN m n = cc at *
  obtain ⟨n1, n2, n3⟩ := hn.len
  have hld : ∀ w', Below w.heap.size w w' → Calls Try.prog 132 #[a, b] w' (DivPost w' (m / n) (m % n)) := fun w' h => by
    obtain ⟨A, c, rfl, _, hA⟩ := ha.keep h
    obtain ⟨A', c', rfl, _, hB⟩ := hb.keep h
    have := longDivide_any A A' c c' _ _ _ _ w' hA hB (low_dig b64_two m) (low_dig b64_two n) (neat_dig b64_two n) rfl rfl n1 hll (by omega) n3
    rw [val_dig b64_two, val_dig b64_two] at this
    exact this
  have HC := Lib.hid hcmp
  have HLD := Lib.hid hld
  obtain ⟨A, c, rfl, _⟩ := ha
  obtain ⟨A', c', rfl, _⟩ := hb
  clear hcmp hld n2 n3 hn hle
  generalize (dig B64 m).length = L at *
  generalize (dig B64 n).length = L' at *
  have hs' : L' < 200 := hs
  go_enter Try.func114, Try.ntmps114
  go_wp2_with (fail)
  refine HC.out.mono ?_
  rintro e w1 ⟨rfl, hb1⟩
  go_wp2_with (fail)
  refine (HLD.out _ hb1).mono ?_
  rintro e w2 ⟨v, u, rfl, hv, hu, hb2⟩
  go_wp2
  go_ret2
  exact ⟨_, _, rfl, hv, hu, below_at hb1 (Nat.le_refl _) hb2⟩

set_option maxHeartbeats 2000000 in
set_option maxRecDepth 100000 in
theorem divideNormal_l (a b : Value) (m n : Nat) (w : World) (ha : W64 w a m) (hb : W64 w b n) (hn : Normal n) (hm : (dig B64 m).length ≤ 100000000) (hle : n ≤ m) (hs0 : 200 ≤ (dig B64 n).length) (hs : (dig B64 m).length < 200 + (dig B64 n).length) :
    Calls Try.prog 114 #[a, b] w (DivPost w (m / n) (m % n)) := by
  have hll := lenm hle
  have hcmp := cmp64_call a b m n w ha hb (by omega) (by omega)
  have hc0 : 0 ≤ cmpN m n := by
    rcases Nat.lt_or_ge n m with h | h
    · rw [cmpN_gt h]; omega
    · obtain rfl : m = n := by omega
      rw [cmpN_eq]; omega
  generalize cmpN m n = cc at *
  obtain ⟨n1, n2, n3⟩ := hn.len
  have hld : ∀ w', Below w.heap.size w w' → Calls Try.prog 132 #[a, b] w' (DivPost w' (m / n) (m % n)) := fun w' h => by
    obtain ⟨A, c, rfl, _, hA⟩ := ha.keep h
    obtain ⟨A', c', rfl, _, hB⟩ := hb.keep h
    have := longDivide_any A A' c c' _ _ _ _ w' hA hB (low_dig b64_two m) (low_dig b64_two n) (neat_dig b64_two n) rfl rfl n1 hll (by omega) n3
    rw [val_dig b64_two, val_dig b64_two] at this
    exact this
  have HC := Lib.hid hcmp
  have HLD := Lib.hid hld
  obtain ⟨A, c, rfl, _⟩ := ha
  obtain ⟨A', c', rfl, _⟩ := hb
  clear hcmp hld n2 n3 hn hle
  generalize (dig B64 m).length = L at *
  generalize (dig B64 n).length = L' at *
  have hs' : L < 200 + L' := hs
  have hs1 : ¬ L' < 200 := by omega
  go_enter Try.func114, Try.ntmps114
  go_wp2_with (fail)
  refine HC.out.mono ?_
  rintro e w1 ⟨rfl, hb1⟩
  go_wp2_with (fail)
  refine (HLD.out _ hb1).mono ?_
  rintro e w2 ⟨v, u, rfl, hv, hu, hb2⟩
  go_wp2
  go_ret2
  exact ⟨_, _, rfl, hv, hu, below_at hb1 (Nat.le_refl _) hb2⟩

theorem divideNormal_any (a b : Value) (m n : Nat) (w : World) (ha : W64 w a m) (hb : W64 w b n) (hn : Normal n) (hnl : (dig B64 n).length ≤ 100000000) (hm : (dig B64 m).length ≤ 100000000) (hs : (dig B64 n).length < 200 ∨ (dig B64 m).length < 200 + (dig B64 n).length) :
    Calls Try.prog 114 #[a, b] w (DivPost w (m / n) (m % n)) := by
  rcases Nat.lt_or_ge m n with h | h
  · exact divideNormal_lt a b m n w ha hb hnl hm h
  · rcases Nat.lt_or_ge (dig B64 n).length 200 with h2 | h2
    · exact divideNormal_s a b m n w ha hb hn hm h h2
    · exact divideNormal_l a b m n w ha hb hn hm h h2 (by omega)

/-- The shift that makes a divisor normal. -/
theorem normal_shift {n v : Nat} (h2 : 2 ≤ (dig B64 n).length) (hv : (dig B64 n)[(dig B64 n).length - 1]? = some v) : Normal (n * 2 ^ (64 - nbits v)) ∧ (dig B64 (n * 2 ^ (64 - nbits v))).length ≤ (dig B64 n).length ∧ v < B64 ∧ v ≠ 0 := by
  obtain ⟨L, hL⟩ : ∃ L, (dig B64 n).length = L + 1 := ⟨(dig B64 n).length - 1, by omega⟩
  rw [hL, Nat.add_sub_cancel] at hv
  have hb := nbits_words hL hv
  have hvl : v < B64 := low_dig b64_two n v (List.mem_of_getElem? hv)
  have hv64 := nbits_64 hvl
  have hv0 : v ≠ 0 := fun h => by
    have := (neat_iff _).1 (neat_dig b64_two n) (by omega)
    simp only [hL, Nat.add_sub_cancel] at this
    rw [(List.getElem?_eq_some_iff.1 hv).2] at this
    exact this h
  have hn0 : n ≠ 0 := fun h => by rw [h, dig_zero] at hL; simp at hL
  have h1 := nbits_ge hn0
  have h3 := nbits_lt n
  have hp := nbits_ne hv0
  have e : B64 ^ (L + 1) = 2 ^ (64 * L + 64) := by rw [← pow_b64]; congr 1
  have k1 : B64 ^ (L + 1) ≤ 2 * (n * 2 ^ (64 - nbits v)) := by
    have := Nat.mul_le_mul_right (2 ^ (64 - nbits v)) h1
    rw [← Nat.pow_add, show nbits n - 1 + (64 - nbits v) = 64 * L + 63 by omega] at this
    rw [e, show 64 * L + 64 = 64 * L + 63 + 1 by omega, Nat.pow_succ]
    omega
  have k2 : n * 2 ^ (64 - nbits v) < B64 ^ (L + 1) := by
    have := Nat.mul_lt_mul_of_pos_right h3 (Nat.two_pow_pos (64 - nbits v))
    rw [← Nat.pow_add, show nbits n + (64 - nbits v) = 64 * L + 64 by omega] at this
    rw [e]; exact this
  exact ⟨⟨L + 1, by omega, k1, k2⟩, by rw [hL]; exact dig_len_le b64_two k2, hvl, hv0⟩
theorem shift_len {m s : Nat} (hs : s ≤ 64) : (dig B64 (m * 2 ^ s)).length ≤ (dig B64 m).length + 1 := by
  refine dig_len_le b64_two ?_
  rw [Nat.pow_succ]
  have h1 := dig_len_lt b64_two (n := m)
  have h2 : 2 ^ s ≤ B64 := by
    have := Nat.pow_le_pow_right (show 0 < 2 by omega) hs
    have e : B64 = 2 ^ 64 := by decide
    omega
  exact Nat.lt_of_lt_of_le (Nat.mul_lt_mul_of_pos_right h1 (Nat.two_pow_pos s)) (Nat.mul_le_mul_left _ h2)

set_option maxHeartbeats 2000000 in
set_option maxRecDepth 100000 in
theorem divide_lt (a b : Value) (m n : Nat) (w : World) (ha : W64 w a m) (hb : W64 w b n) (hn : (dig B64 n).length ≤ 100000000) (hm : (dig B64 m).length ≤ 100000000) (hlt : m < n) :
    Calls Try.prog 88 #[a, b] w (DivPost w (m / n) (m % n)) := by
  have hcmp := cmp64_call a b m n w ha hb (by omega) (by omega)
  rw [cmpN_lt hlt] at hcmp
  rw [Nat.div_eq_of_lt hlt, Nat.mod_eq_of_lt hlt]
  have HC := Lib.hid hcmp
  have HA := Lib.hid ha
  obtain ⟨A, c, rfl, _⟩ := ha
  obtain ⟨A', c', rfl, _⟩ := hb
  clear hcmp hlt
  generalize (dig B64 m).length = L at *
  generalize (dig B64 n).length = L' at *
  go_enter Try.func88, Try.ntmps88
  go_wp2_with (fail)
  refine HC.out.mono ?_
  rintro e w1 ⟨rfl, hb1⟩
  go_wp2
  go_ret2
  exact ⟨_, _, rfl, w64_nil _, HA.out.keep hb1, hb1⟩

set_option maxHeartbeats 2000000 in
set_option maxRecDepth 100000 in
theorem divide_one (a b : Value) (m n : Nat) (w : World) (ha : W64 w a m) (hb : W64 w b n) (hn : (dig B64 n).length = 1) (hm : (dig B64 m).length ≤ 100000000) (hle : n ≤ m) :
    Calls Try.prog 88 #[a, b] w (DivPost w (m / n) (m % n)) := by
  have hcmp := cmp64_call a b m n w ha hb (by omega) (by omega)
  have hc0 : 0 ≤ cmpN m n := by
    rcases Nat.lt_or_ge n m with h | h
    · rw [cmpN_gt h]; omega
    · obtain rfl : m = n := by omega
      rw [cmpN_eq]; omega
  generalize cmpN m n = cc at *
  have hnl := dig_len_lt b64_two (n := n)
  rw [hn, Nat.pow_one] at hnl
  have hn0 : 0 < n := by
    rcases Nat.eq_zero_or_pos n with h | h
    · rw [h, dig_zero] at hn; simp at hn
    · exact h
  have hdw := fun w' (h : W64 w' a m) => divideWord_call a m n w' h (by omega) hn0 hnl
  have hrem : m % n < B64 := Nat.lt_of_lt_of_le (Nat.mod_lt _ hn0) (Nat.le_of_lt hnl)
  have htr := fun w' => trim_any (some ⟨w'.heap.size, 0, none⟩) 1 1 [m % n] (w'.alloc (.cells #[.int .u64 ((m % n : Nat) : Int)] 24)) (Row.nums0 (row_one w' (m % n)) 1) (Low.cons hrem (Low.nil _)) rfl (Nat.le_refl _) (by omega)
  have hown := fun w' => (own_of_trim b64_two (row_one w' (m % n)) (Low.cons hrem (Low.nil _)) (Nat.le_refl w'.heap.size)).is
  have hv1 : val B64 [m % n] = m % n := by simp [val]
  have hl1 : ([m % n] : List Nat).length = 1 := rfl
  rw [hv1] at htr
  rw [hv1, hl1] at hown
  obtain ⟨A', c', rfl, hc', hB⟩ := hb
  obtain ⟨g, off, v, rfl, hg, hv, hcv⟩ := hB.at_ (i := 0) (by omega)
  have hvn : v = n := by
    have e := dig_getElem? b64_two hv
    rw [Nat.pow_zero, Nat.div_one, Nat.mod_eq_of_lt hnl] at e
    exact e
  subst hvn
  rw [Nat.add_zero] at hcv
  rw [hn] at hcmp hc' ⊢
  have HC := Lib.hid hcmp
  have HDW := Lib.hid hdw
  have HTR := Lib.hid htr
  have HOW := Lib.hid hown
  have HA := Lib.hid ha
  obtain ⟨A, c, rfl, _⟩ := ha
  clear hcmp hdw htr hown hB hv hnl hrem hn hle hv1 hl1
  generalize (dig B64 m).length = L at *
  generalize m % v = R at *
  generalize m / v = Q at *
  go_enter Try.func88, Try.ntmps88
  go_wp2_with (fail)
  refine HC.out.mono ?_
  rintro e w1 ⟨rfl, hb1⟩
  have hcv1 := (hb1.cell (p := ⟨g, off, none⟩) hg).trans hcv
  go_wp2_with (fail)
  refine (HDW.out _ (HA.out.keep hb1)).mono ?_
  rintro e w2 ⟨q, rfl, hq, hb2⟩
  go_wp2_with (fail)
  refine (HTR.out _).mono ?_
  rintro e w3 ⟨rfl, rfl⟩
  go_wp2
  go_ret2
  exact ⟨_, _, rfl, hq.is.keep (below_new _ _), HOW.out _, (below_at hb1 (Nat.le_refl _) hb2).alloc (below_at hb1 (Nat.le_refl _) hb2).size _⟩

set_option maxHeartbeats 2000000 in
set_option maxRecDepth 100000 in
theorem divide_long (a b : Value) (m n : Nat) (w : World) (ha : W64 w a m) (hb : W64 w b n) (hn : 2 ≤ (dig B64 n).length) (hm : (dig B64 m).length ≤ 10000000) (hle : n ≤ m) (hs : (dig B64 n).length < 200 ∨ (dig B64 m).length < 199 + (dig B64 n).length) :
    Calls Try.prog 88 #[a, b] w (DivPost w (m / n) (m % n)) := by
  have hll := lenm hle
  have hcmp := cmp64_call a b m n w ha hb (by omega) (by omega)
  have hc0 : 0 ≤ cmpN m n := by
    rcases Nat.lt_or_ge n m with h | h
    · rw [cmpN_gt h]; omega
    · obtain rfl : m = n := by omega
      rw [cmpN_eq]; omega
  generalize cmpN m n = cc at *
  obtain ⟨A', c', hbe, hc', hB⟩ := id hb
  obtain ⟨g, off, v, hAe, hg, hv, hcv⟩ := hB.at_ (i := (dig B64 n).length - 1) (by omega)
  obtain ⟨hN, hnl, hvl, hv0⟩ := normal_shift hn hv
  have hnb := nbits_ne hv0
  have hlz := fun w => lz_any v hvl w
  have hs64 : 64 - nbits v ≤ 64 := by omega
  generalize 64 - nbits v = s at *
  have hml := shift_len (m := m) (s := s) hs64
  have hge : (dig B64 n).length ≤ (dig B64 (n * 2 ^ s)).length := dig_len_mono (Nat.le_mul_of_pos_right _ (Nat.two_pow_pos s))
  have hsa := fun w' (h : W64 w' a m) => shiftLeft_any a m s w' h (by omega) (by omega)
  have hsb := fun w' (h : W64 w' b n) => shiftLeft_any b n s w' h (by omega) (by omega)
  have hdn := fun x y w' (h : W64 w' x (m * 2 ^ s)) (k : W64 w' y (n * 2 ^ s)) => divideNormal_any x y _ _ w' h k hN (by omega) (by omega) (by omega)
  have e1 : m * 2 ^ s / (n * 2 ^ s) = m / n := Nat.mul_div_mul_right _ _ (Nat.two_pow_pos s)
  have e2 : m * 2 ^ s % (n * 2 ^ s) = m % n * 2 ^ s := Nat.mul_mod_mul_right _ _ _
  rw [e1, e2] at hdn
  have hrl : (dig B64 (m % n * 2 ^ s)).length ≤ 100000000 := by
    have := lenm (show m % n * 2 ^ s ≤ m * 2 ^ s from Nat.mul_le_mul_right _ (Nat.mod_le _ _))
    omega
  have hsr := fun x w' (h : W64 w' x (m % n * 2 ^ s)) => shiftRight_any x _ s w' h (by omega) (by omega)
  rw [Nat.mul_div_cancel _ (Nat.two_pow_pos s)] at hsr
  have HC := Lib.hid hcmp
  have HLZ := Lib.hid hlz
  have HSA := Lib.hid hsa
  have HSB := Lib.hid hsb
  have HDN := Lib.hid hdn
  have HSR := Lib.hid hsr
  have HA := Lib.hid ha
  have HB := Lib.hid hb
  obtain ⟨A, c, rfl, _⟩ := ha
  subst hbe hAe
  clear hcmp hlz hsa hsb hdn hsr hb hB hv hN hnl hml hge hrl e1 e2 hle hs hv0 hvl
  have hx : ((dig B64 n).length : Int) - 1 = (((dig B64 n).length - 1 : Nat) : Int) := by omega
  generalize (dig B64 m).length = L at *
  generalize hL' : (dig B64 n).length = L' at *
  obtain ⟨K, rfl⟩ : ∃ K, L' = K + 1 := ⟨L' - 1, by omega⟩
  rw [Nat.add_sub_cancel] at hcv
  clear hx hL'
  have hne : (((K : Int) + 1) == 1) = false := by simp; omega
  go_enter Try.func88, Try.ntmps88
  go_wp2_with (fail)
  refine HC.out.mono ?_
  rintro e w1 ⟨rfl, hb1⟩
  have hcv1 := (hb1.cell (p := ⟨g, off + K, none⟩) hg).trans hcv
  go_wp2_with (fail)
  refine (HLZ.out _).mono ?_
  rintro e w2 ⟨rfl, rfl⟩
  have ka := HA.out.keep hb1
  have kb := HB.out.keep hb1
  go_wp2_with (fail)
  refine (HSA.out _ ka).mono ?_
  rintro e w3 ⟨x, rfl, hx, hb3⟩
  go_wp2_with (fail)
  refine (HSB.out _ (kb.keep hb3)).mono ?_
  rintro e w4 ⟨y, rfl, hy, hb4⟩
  go_wp2_with (fail)
  refine (HDN.out _ _ _ (hx.is.keep hb4) hy.is).mono ?_
  rintro e w5 ⟨q, r, rfl, hq, hr, hb5⟩
  go_wp2_with (fail)
  refine (HSR.out _ _ hr).mono ?_
  rintro e w6 ⟨z, rfl, hz, hb6⟩
  go_wp2
  go_ret2
  exact ⟨_, _, rfl, hq.keep hb6, hz, below_at (below_at (below_at (below_at hb1 (Nat.le_refl _) hb3) (Nat.le_refl _) hb4) (Nat.le_refl _) hb5) (Nat.le_refl _) hb6⟩

/-- divide: where long division is what is done. -/
theorem divide_any (a b : Value) (m n : Nat) (w : World) (ha : W64 w a m) (hb : W64 w b n) (hn0 : 0 < n) (hn : (dig B64 n).length ≤ 10000000) (hm : (dig B64 m).length ≤ 10000000) (hs : (dig B64 n).length < 200 ∨ (dig B64 m).length < 199 + (dig B64 n).length) :
    Calls Try.prog 88 #[a, b] w (DivPost w (m / n) (m % n)) := by
  rcases Nat.lt_or_ge m n with h | h
  · exact divide_lt a b m n w ha hb (by omega) (by omega) h
  · have h1 := dig_len_pos (n := n) (by omega)
    rcases Nat.lt_or_ge (dig B64 n).length 2 with h2 | h2
    · exact divide_one a b m n w ha hb (by omega) (by omega) h
    · exact divide_long a b m n w ha hb h2 hm h hs
end Go.Proofs.Ytaegkhdkhgemmaa

namespace Go.Proofs.Ytaegkhdkhgemmaa
open Go.RowKit Num

/-- A slice at the head of a block from B on. -/
def At (B : Nat) (v : Value) : Prop := ∃ g L c, v = .slice (some ⟨g, 0, none⟩) L c ∧ B ≤ g
theorem At.mono {B B' : Nat} {v : Value} (h : At B v) (hB : B' ≤ B) : At B' v := by
  obtain ⟨g, L, c, e, h1⟩ := h
  exact ⟨g, L, c, e, Nat.le_trans hB h1⟩
theorem at_ownW {B : Nat} {w : World} {v : Value} {n : Nat} (h : OwnW B w v n) : At B v := by
  obtain ⟨g, c, zs, e, _, _, hB, _⟩ := h
  exact ⟨g, _, c, e, hB⟩
/-- Quotient and remainder; the quotient, where it isn't 0, lies in a block of the call's own. -/
def DivQPost (w : World) (q r : Nat) (e : Ending) (w' : World) : Prop := ∃ v u, e = .returned (.tuple #[v, u]) ∧ W64 w' v q ∧ W64 w' u r ∧ (0 < q → At w.heap.size v) ∧ Below w.heap.size w w'

set_option maxHeartbeats 4000000 in
set_option maxRecDepth 100000 in
theorem longDivide_q (A A' : Option Addr) (c c' L n : Nat) (us bs : List Nat) (w : World) (hA : Nums .u64 w A us) (hB : Nums .u64 w A' bs) (hu : Low B64 us) (hb : Low B64 bs) (hnb : Neat bs)
    (hL : L = us.length) (hn : n = bs.length) (h2 : 2 ≤ n) (hle : n ≤ L) (hbig : L ≤ 100000000000) (hh : ∀ t, bs[n - 1]? = some t → B64 ≤ 2 * t) :
    Calls Try.prog 132 #[.slice A L c, .slice A' n c'] w (DivQPost w (val B64 us / val B64 bs) (val B64 us % val B64 bs)) := by
  obtain ⟨K, hK⟩ : ∃ K, K + n = L + 1 := ⟨L + 1 - n, by omega⟩
  have hne : 0 < bs.length → ∀ a, A' = some a → a.block ≠ w.heap.size := nums_ne hB (Nat.le_refl _)
  have HNE := Lib.hid hne
  clear hne
  have hmk := make64 (L + 1) (by omega) w
  push_cast at hmk
  have hr0 := Row.made w .u64 (L + 1) 24
  have hbA : Below w.heap.size w (w.alloc (.cells (madeCells #[.int .u64 0] (L + 1)) 24)) := (Below.refl _ _).alloc (Nat.le_refl _) _
  have hA0 := hA.keep hbA
  have eK : (L : Int) - (n : Int) + 1 = (K : Int) := by omega
  have hmk2 := fun w => make64 K (by omega) w
  have hst0 := LongSt.start b64_two (K := K) hu hnb (by omega) (by omega)
  have HL := Lib.hid hL
  have HN := Lib.hid hn
  have HR0 := Lib.hid hr0
  have HS0 := Lib.hid hst0
  have HK := Lib.hid hK
  clear hL hn hr0 hst0 hA hK
  go_enter Try.func132, Try.ntmps132
  go_wp2_with (first
    | (refine wpList_copy_row rfl (.tmp 17) (.tmp 18) rfl _ _ _ _ _ _ rfl rfl _ 0 _ _ HR0.out hA0 HL.out (by omega) (fun _ => rfl) (by simp) ?_
       intro w1 hr1 hg1
       have hb1 : Below w.heap.size w w1 := hbA.grown hg1 hbA.size (fun k hk => by injection hk with hk; omega)))
  have hr2 := Row.made w1 .u64 K 24
  have hbB : Below w.heap.size w (w1.alloc (.cells (madeCells #[.int .u64 0] K) 24)) := hb1.alloc hb1.size _
  have hr1' := hr1.alloc (.cells (madeCells #[.int .u64 0] K) 24)
  rw [lay_end _ _ (by have := HL.out; omega)] at hr1'
  have hlt1 := hr1.lt
  obtain ⟨G, hG⟩ : ∃ G, w1.heap.size = G := ⟨_, rfl⟩
  rw [hG] at hr2 hlt1 ⊢
  have HG := Lib.hid hG
  have R1 := Lib.hid hr1'
  have R2 := Lib.hid hr2
  clear hr1' hr2 hr1 hG hA0 hmk hbA hg1
  go_loopw [7] (fun t wr => ∃ (k : Nat) (rs qs : List Nat), k ≤ K ∧ t = .int .i64 ((k : Int) - 1) ∧ LongSt B64 us bs k rs qs ∧ Row .u64 24 wr w.heap.size rs ∧ Row .u64 24 wr G qs ∧ Below w.heap.size w wr) (fun t _ => (intOf t + 1).toNat)
  case atStart => exact ⟨K, _, _, Nat.le_refl _, by congr 1; omega, HS0.out, R1.out, R2.out, hbB⟩
  case round =>
    clear R1 R2 hbB HS0 hb1 HG
    obtain ⟨k, rs, qs, hk, rfl, hst, hrow, hrow2, hbl⟩ := hrel
    have hrl := hst.rlen
    have hql := hst.qlen
    by_cases h0 : k = 0
    · subst h0
      obtain ⟨f1, f2⟩ := hst.fin
      have hq0 := hrow2.nums0 qs.length
      rw [List.take_length] at hq0
      have hqK : K = qs.length := by have := HN.out; have := HL.out; have := HK.out; omega
      have hr0 := hrow.nums0 n
      have hv0 : val B64 (rs.take n) = val B64 rs := by
        have e1 := val_take_drop B64 rs n (by have := HL.out; omega)
        have e2 := hst.top
        rw [List.drop_zero] at e2
        have e3 := val_lt B64 bs hb
        rw [← HN.out] at e3
        rcases Nat.eq_zero_or_pos (val B64 (rs.drop n)) with h0 | h0
        · rw [h0] at e1; omega
        · have := Nat.mul_le_mul_left (B64 ^ n) (show 1 ≤ val B64 (rs.drop n) from h0); omega
      have hnl : n = (rs.take n).length := by rw [List.length_take]; have := HL.out; omega
      have ht1 : ∀ (m : Nat), Calls Try.prog 78 #[.slice (some ⟨G, 0, none⟩) K K] (wr.drewN m) fun e w'' => e = .returned (.slice (some ⟨G, 0, none⟩) (dig B64 (val B64 qs)).length K) ∧ ∃ m', w'' = wr.drewN m' := fun m =>
        (trim_any _ K K qs (wr.drewN m) (hq0.keep (below_drewN (Below.refl _ _) _)) hst.qlow hqK (Nat.le_refl _) (by omega)).mono fun e w' ⟨he, hm⟩ => ⟨he, m, hm.symm⟩
      have ht2 : ∀ (m : Nat), Calls Try.prog 78 #[.slice (some ⟨w.heap.size, 0, none⟩) n (L + 1)] (wr.drewN m) fun e w'' => e = .returned (.slice (some ⟨w.heap.size, 0, none⟩) (dig B64 (val B64 (rs.take n))).length (L + 1)) ∧ ∃ m', w'' = wr.drewN m' := fun m =>
        (trim_any _ (L + 1) n (rs.take n) (wr.drewN m) (hr0.keep (below_drewN (Below.refl _ _) _)) (hst.rlow.take n) hnl (by omega) (by omega)).mono fun e w' ⟨he, hm⟩ => ⟨he, m, hm.symm⟩
      rw [hv0, f2] at ht2
      rw [f1] at ht1
      have k1 : ∀ m, W64 (wr.drewN m) (.slice (some ⟨G, 0, none⟩) (dig B64 (val B64 us / val B64 bs)).length K) (val B64 us / val B64 bs) := fun m => by
        refine ⟨_, _, rfl, ?_, ?_⟩
        · rw [← f1, hqK]; exact trim_le b64_two hst.qlow
        · have := (hq0.take (dig B64 (val B64 qs)).length).keep (below_drewN (Below.refl _ wr) m)
          rw [trim_take b64_two hst.qlow, f1] at this
          exact this
      have k2 : ∀ m, W64 (wr.drewN m) (.slice (some ⟨w.heap.size, 0, none⟩) (dig B64 (val B64 us % val B64 bs)).length (L + 1)) (val B64 us % val B64 bs) := fun m => by
        refine ⟨_, _, rfl, ?_, ?_⟩
        · rw [← f2]; exact Nat.le_trans (trim_le b64_two hst.rlow) (by have := HL.out; omega)
        · have := (hr0.take (dig B64 (val B64 (rs.take n))).length).keep (below_drewN (Below.refl _ wr) m)
          rw [trim_take b64_two (hst.rlow.take n), hv0, f2] at this
          exact this
      generalize val B64 us / val B64 bs = Q at *
      generalize val B64 us % val B64 bs = R at *
      have HT1 := Lib.hid ht1
      have HT2 := Lib.hid ht2
      have K1 := Lib.hid k1
      have K2 := Lib.hid k2
      clear ht1 ht2 k1 k2 f1 f2 hv0 hnl hqK hq0 hr0 hst hrl hql hh hB
      go_wp2_with (fail)
      go_quiet (first | (go_at_call 78; with_reducible exact HT1.out _) | (go_at_call 78; with_reducible exact HT2.out _))
      go_wp2
      go_ret2
      exact ⟨_, _, rfl, K1.out _, K2.out _, fun _ => ⟨G, _, _, rfl, Nat.le_of_lt hlt1⟩, below_drewN hbl _⟩
    · obtain ⟨j, rfl⟩ : ∃ j, k = j + 1 := ⟨k - 1, by omega⟩
      have hB1 := hB.keep hbl
      obtain ⟨gb, ob, b1, rfl, hgb, hb1, hcb1⟩ := hB1.at_ (i := n - 1) (by have := HN.out; omega)
      obtain ⟨gb', ob', b0, e0, hgb', hb0, hcb0⟩ := hB1.at_ (i := n - 2) (by have := HN.out; omega)
      injection e0 with e0
      injection e0 with e0 e0'
      subst e0 e0'
      have hjn : j + n < rs.length := by have := HL.out; have := HK.out; omega
      obtain ⟨t, ht⟩ : ∃ t, rs[j + n]? = some t := ⟨rs[j + n], List.getElem?_eq_getElem _⟩
      obtain ⟨r1, hr1⟩ : ∃ t, rs[j + n - 1]? = some t := ⟨rs[j + n - 1], List.getElem?_eq_getElem _⟩
      obtain ⟨r0, hr0⟩ : ∃ t, rs[j + n - 2]? = some t := ⟨rs[j + n - 2], List.getElem?_eq_getElem _⟩
      have ct := hrow.cell ht
      have c1 := hrow.cell hr1
      have c0 := hrow.cell hr0
      have lt1 : r1 < B64 := hst.rlow r1 (List.mem_of_getElem? hr1)
      have lt0 : r0 < B64 := hst.rlow r0 (List.mem_of_getElem? hr0)
      have lb1 : b1 < B64 := hb b1 (List.mem_of_getElem? hb1)
      have lb0 : b0 < B64 := hb b0 (List.mem_of_getElem? hb0)
      have hnorm := hh b1 hb1
      have hest : ∀ (w : World) (m : Nat), Calls Try.prog 139 #[.int .u64 (t : Int), .int .u64 (r1 : Int), .int .u64 (r0 : Int), .int .u64 (b1 : Int), .int .u64 (b0 : Int)] (w.drewN m) fun e w'' => e = .returned (.int .u64 ((estD t r1 r0 b1 b0 : Nat) : Int)) ∧ ∃ m', w'' = w.drewN m' := fun w m =>
        (estimate_fix t r1 r0 b1 b0 lt1 lt0 lb1 lb0 hnorm (w.drewN m)).mono fun e w' ⟨he, m', hm⟩ => ⟨he, m + m', by rw [hm, World.drewN_drewN]⟩
      obtain ⟨d1, d2, d3⟩ := estD_ok (a2 := t) (a0 := r0) (b0 := b0) lt1 lt0 hnorm
      generalize estD t r1 r0 b1 b0 = d at *
      have x1 : ((j : Int) + (n : Int) - 1).toNat = j + n - 1 := by omega
      have x2 : ((j : Int) + (n : Int) - 2).toNat = j + n - 2 := by omega
      have x3 : ((n : Int) - 1).toNat = n - 1 := by omega
      have x4 : ((n : Int) - 2).toNat = n - 2 := by omega
      have hjL : j + n ≤ L := by have := HL.out; omega
      have y1 : (j : Int) ≤ (L : Int) + 1 := by omega
      have y2 : ¬ L + 1 = j := by omega
      have HEST := Lib.hid hest
      have HT := Lib.hid ht
      have HR1 := Lib.hid hr1
      have HR0' := Lib.hid hr0
      have HB1 := Lib.hid hb1
      have HB0 := Lib.hid hb0
      have HD2 := Lib.hid d2
      have HD3 := Lib.hid d3
      have HST := Lib.hid hst
      have HQL := Lib.hid hql
      have HRL := Lib.hid hrl
      have hB2 : Nums .u64 wr (some ⟨gb, ob, none⟩) bs := hB1
      clear hest ht hr1 hr0 hb1 hb0 d2 d3 hst hB1 hB hh hql hrl
      go_wp2_with (fail)
      go_quiet ((go_at_call 139; exact HEST.out _ _))
      go_wp2_with (fail)
      refine (subScaled_any w.heap.size j _ _ c' n d rs bs _ _ (Row.of_block hrow (by rfl)) HST.out.rlow (hB2.keep (below_drewN (Below.refl _ _) _)) hb HNE.out HN.out (by have := HRL.out; omega) d1 (by omega) (by omega) (by omega)).mono ?_
      rintro e w2 ⟨zs1, ov, rfl, hs1, hrz, hgz⟩
      rw [← HN.out] at hs1
      have hB3 := (hB2.keep (below_drewN (Below.refl _ _) _)).grown HNE.out hgz
      have hrg1 : Row .u64 24 w2 G qs := Row.grown (Row.of_block hrow2 (by rfl)) hgz (by intro h; injection h with h; omega)
      have hb2 : Below w.heap.size w w2 := (below_drewN hbl _).grown hgz hbl.size (fun k hk => by injection hk with hk; omega)
      have hjq : j < qs.length := by have := HQL.out; have := HN.out; have := HL.out; have := HK.out; omega
      obtain ⟨es1, es2⟩ := HST.out.est (n := n - 2) (b1 := b1) (b0 := b0) (t := t) (r1 := r1) (r0 := r0) (d := d) hb (by have := HN.out; omega) (by rw [show j + (n - 2 + 2) = j + n by omega]; exact HT.out) hjq (by rw [show j + (n - 2) + 1 = j + n - 1 by omega]; exact HR1.out) (by rw [show j + (n - 2) = j + n - 2 by omega]; exact HR0'.out) (by rw [show n - 2 + 1 = n - 1 by omega]; exact HB1.out) HB0.out hnorm (by unfold B64 at *; omega) d1 HD2.out HD3.out
      have ES1 := Lib.hid es1
      have ES2 := Lib.hid es2
      clear es1 es2
      have hzl1 : zs1.length = rs.length := hs1.len
      obtain ⟨o1, hx1⟩ : ∃ o, zs1[j + n]? = some o := ⟨zs1[j + n]'(by omega), List.getElem?_eq_getElem _⟩
      have cz1 := hrz.cell hx1
      have fz1 := hrz.frozen (j + n)
      obtain ⟨oq, hq1⟩ : ∃ o, qs[j]? = some o := ⟨qs[j], List.getElem?_eq_getElem _⟩
      have hrq1 := hrg1.setOther (a := ⟨w.heap.size, j + n, none⟩) (by show G ≠ w.heap.size; omega) (.int .u64 0)
      have cq1 := hrq1.cell hq1
      have fq1 := hrq1.frozen j
      have HS1 := Lib.hid hs1
      have HX1 := Lib.hid hx1
      have HQ1 := Lib.hid hq1
      have HZL1 := Lib.hid hzl1
      clear hs1 hx1 hq1 hzl1
      by_cases hov : ov ≤ t
      · have hnew := HST.out.right b64_two hb HN.out.symm HT.out hjq HS1.out ES1.out d1 hov
        have HNEW := Lib.hid hnew
        clear hnew
        go_wp2
        go_roundw
        case rel => exact ⟨j, _, _, by omega, by first | rfl | go_num, HNEW.out, (hrz.set (j + n) 0).setOther (by show w.heap.size ≠ G; omega) _, hrq1.set j d, below_set (below_set hb2 (Nat.le_refl _) _) (by omega) _⟩
        case measure => simp [intOf]
      · have hov' : t < ov := by omega
        have hdp := subSc_pos HS1.out (by have := HN.out; have := HRL.out; omega) (by omega)
        obtain ⟨d', hd'⟩ : ∃ d', d - 1 = d' := ⟨_, rfl⟩
        have wd : IntKind.u64.wrap ((d : Int) - 1) = (d' : Int) := by unfold B64 at d1; rw [IntKind.wrap_u64]; omega
        have HD' := Lib.hid hd'
        clear hd'
        go_wp2_with (fail)
        refine (addTo_any w.heap.size j _ _ c' n zs1 bs _ _ hrz HS1.out.low (by have := HZL1.out; omega) hB3 hb HNE.out HN.out (by omega) (by omega)).mono ?_
        rintro e w3 ⟨ys, cy, rfl, ha1, hry, hgy⟩
        have hb3 : Below w.heap.size w w3 := hb2.grown hgy hb2.size (fun k hk => by injection hk with hk; omega)
        have hrg2 := hrg1.grown hgy (by intro h; injection h with h; omega)
        obtain ⟨_, hnew⟩ := HST.out.less b64_two hb HN.out.symm HT.out hjq HS1.out ha1 ES2.out d1 hov'
        rw [HD'.out] at hnew
        have hzl2 := ha1.len
        obtain ⟨o2, hx2⟩ : ∃ o, ys[j + n]? = some o := ⟨ys[j + n]'(by have := HZL1.out; omega), List.getElem?_eq_getElem _⟩
        have cz2 := hry.cell hx2
        have fz2 := hry.frozen (j + n)
        have hrq2 := hrg2.setOther (a := ⟨w.heap.size, j + n, none⟩) (by show G ≠ w.heap.size; omega) (.int .u64 0)
        have cq2 := hrq2.cell HQ1.out
        have fq2 := hrq2.frozen j
        have HNEW := Lib.hid hnew
        have HA1 := Lib.hid ha1
        have HX2 := Lib.hid hx2
        have HZL2 := Lib.hid hzl2
        clear hnew ha1 hx2 hzl2
        go_wp2
        go_roundw
        case rel => exact ⟨j, _, _, by omega, by first | rfl | go_num, HNEW.out, (hry.set (j + n) 0).setOther (by show w.heap.size ≠ G; omega) _, hrq2.set j d', below_set (below_set hb3 (Nat.le_refl _) _) (by omega) _⟩
        case measure => simp [intOf]
set_option maxHeartbeats 4000000 in
set_option maxRecDepth 100000 in
theorem divideNormal_lt_q (a b : Value) (m n : Nat) (w : World) (ha : W64 w a m) (hb : W64 w b n) (hn : (dig B64 n).length ≤ 100000000) (hm : (dig B64 m).length ≤ 100000000) (hlt : m < n) :
    Calls Try.prog 114 #[a, b] w (DivQPost w (m / n) (m % n)) := by
  have hcmp := cmp64_call a b m n w ha hb (by omega) (by omega)
  rw [cmpN_lt hlt] at hcmp
  rw [Nat.div_eq_of_lt hlt, Nat.mod_eq_of_lt hlt]
  have HC := Lib.hid hcmp
  have HA := Lib.hid ha
  obtain ⟨A, c, rfl, _⟩ := ha
  obtain ⟨A', c', rfl, _⟩ := hb
  clear hcmp hlt
  generalize (dig B64 m).length = L at *
  generalize (dig B64 n).length = L' at *
  go_enter Try.func114, Try.ntmps114
  go_wp2_with (fail)
  refine HC.out.mono ?_
  rintro e w1 ⟨rfl, hb1⟩
  go_wp2
  go_ret2
  exact ⟨_, _, rfl, w64_nil _, HA.out.keep hb1, fun h => absurd h (Nat.lt_irrefl 0), hb1⟩

set_option maxHeartbeats 4000000 in
set_option maxRecDepth 100000 in
theorem divideNormal_s_q (a b : Value) (m n : Nat) (w : World) (ha : W64 w a m) (hb : W64 w b n) (hn : Normal n) (hm : (dig B64 m).length ≤ 100000000) (hle : n ≤ m) (hs : (dig B64 n).length < 200) :
    Calls Try.prog 114 #[a, b] w (DivQPost w (m / n) (m % n)) := by
  have hll := lenm hle
  have hcmp := cmp64_call a b m n w ha hb (by omega) (by omega)
  have hc0 : 0 ≤ cmpN m n := by
    rcases Nat.lt_or_ge n m with h | h
    · rw [cmpN_gt h]; omega
    · obtain rfl : m = n := by omega
      rw [cmpN_eq]; omega
  generalize cmpN m n = cc at *
  obtain ⟨n1, n2, n3⟩ := hn.len
  have hld : ∀ w', Below w.heap.size w w' → Calls Try.prog 132 #[a, b] w' (DivQPost w' (m / n) (m % n)) := fun w' h => by
    obtain ⟨A, c, rfl, _, hA⟩ := ha.keep h
    obtain ⟨A', c', rfl, _, hB⟩ := hb.keep h
    have := longDivide_q A A' c c' _ _ _ _ w' hA hB (low_dig b64_two m) (low_dig b64_two n) (neat_dig b64_two n) rfl rfl n1 hll (by omega) n3
    rw [val_dig b64_two, val_dig b64_two] at this
    exact this
  have HC := Lib.hid hcmp
  have HLD := Lib.hid hld
  obtain ⟨A, c, rfl, _⟩ := ha
  obtain ⟨A', c', rfl, _⟩ := hb
  clear hcmp hld n2 n3 hn hle
  generalize (dig B64 m).length = L at *
  generalize (dig B64 n).length = L' at *
  have hs' : L' < 200 := hs
  go_enter Try.func114, Try.ntmps114
  go_wp2_with (fail)
  refine HC.out.mono ?_
  rintro e w1 ⟨rfl, hb1⟩
  go_wp2_with (fail)
  refine (HLD.out _ hb1).mono ?_
  rintro e w2 ⟨v, u, rfl, hv, hu, hq, hb2⟩
  go_wp2
  go_ret2
  exact ⟨_, _, rfl, hv, hu, fun h => (hq h).mono hb1.size, below_at hb1 (Nat.le_refl _) hb2⟩

set_option maxHeartbeats 4000000 in
set_option maxRecDepth 100000 in
theorem divideNormal_l_q (a b : Value) (m n : Nat) (w : World) (ha : W64 w a m) (hb : W64 w b n) (hn : Normal n) (hm : (dig B64 m).length ≤ 100000000) (hle : n ≤ m) (hs0 : 200 ≤ (dig B64 n).length) (hs : (dig B64 m).length < 200 + (dig B64 n).length) :
    Calls Try.prog 114 #[a, b] w (DivQPost w (m / n) (m % n)) := by
  have hll := lenm hle
  have hcmp := cmp64_call a b m n w ha hb (by omega) (by omega)
  have hc0 : 0 ≤ cmpN m n := by
    rcases Nat.lt_or_ge n m with h | h
    · rw [cmpN_gt h]; omega
    · obtain rfl : m = n := by omega
      rw [cmpN_eq]; omega
  generalize cmpN m n = cc at *
  obtain ⟨n1, n2, n3⟩ := hn.len
  have hld : ∀ w', Below w.heap.size w w' → Calls Try.prog 132 #[a, b] w' (DivQPost w' (m / n) (m % n)) := fun w' h => by
    obtain ⟨A, c, rfl, _, hA⟩ := ha.keep h
    obtain ⟨A', c', rfl, _, hB⟩ := hb.keep h
    have := longDivide_q A A' c c' _ _ _ _ w' hA hB (low_dig b64_two m) (low_dig b64_two n) (neat_dig b64_two n) rfl rfl n1 hll (by omega) n3
    rw [val_dig b64_two, val_dig b64_two] at this
    exact this
  have HC := Lib.hid hcmp
  have HLD := Lib.hid hld
  obtain ⟨A, c, rfl, _⟩ := ha
  obtain ⟨A', c', rfl, _⟩ := hb
  clear hcmp hld n2 n3 hn hle
  generalize (dig B64 m).length = L at *
  generalize (dig B64 n).length = L' at *
  have hs' : L < 200 + L' := hs
  have hs1 : ¬ L' < 200 := by omega
  go_enter Try.func114, Try.ntmps114
  go_wp2_with (fail)
  refine HC.out.mono ?_
  rintro e w1 ⟨rfl, hb1⟩
  go_wp2_with (fail)
  refine (HLD.out _ hb1).mono ?_
  rintro e w2 ⟨v, u, rfl, hv, hu, hq, hb2⟩
  go_wp2
  go_ret2
  exact ⟨_, _, rfl, hv, hu, fun h => (hq h).mono hb1.size, below_at hb1 (Nat.le_refl _) hb2⟩

theorem divideNormal_any_q (a b : Value) (m n : Nat) (w : World) (ha : W64 w a m) (hb : W64 w b n) (hn : Normal n) (hnl : (dig B64 n).length ≤ 100000000) (hm : (dig B64 m).length ≤ 100000000) (hs : (dig B64 n).length < 200 ∨ (dig B64 m).length < 200 + (dig B64 n).length) :
    Calls Try.prog 114 #[a, b] w (DivQPost w (m / n) (m % n)) := by
  rcases Nat.lt_or_ge m n with h | h
  · exact divideNormal_lt_q a b m n w ha hb hnl hm h
  · rcases Nat.lt_or_ge (dig B64 n).length 200 with h2 | h2
    · exact divideNormal_s_q a b m n w ha hb hn hm h h2
    · exact divideNormal_l_q a b m n w ha hb hn hm h h2 (by omega)

set_option maxHeartbeats 4000000 in
set_option maxRecDepth 100000 in
theorem divide_lt_q (a b : Value) (m n : Nat) (w : World) (ha : W64 w a m) (hb : W64 w b n) (hn : (dig B64 n).length ≤ 100000000) (hm : (dig B64 m).length ≤ 100000000) (hlt : m < n) :
    Calls Try.prog 88 #[a, b] w (DivQPost w (m / n) (m % n)) := by
  have hcmp := cmp64_call a b m n w ha hb (by omega) (by omega)
  rw [cmpN_lt hlt] at hcmp
  rw [Nat.div_eq_of_lt hlt, Nat.mod_eq_of_lt hlt]
  have HC := Lib.hid hcmp
  have HA := Lib.hid ha
  obtain ⟨A, c, rfl, _⟩ := ha
  obtain ⟨A', c', rfl, _⟩ := hb
  clear hcmp hlt
  generalize (dig B64 m).length = L at *
  generalize (dig B64 n).length = L' at *
  go_enter Try.func88, Try.ntmps88
  go_wp2_with (fail)
  refine HC.out.mono ?_
  rintro e w1 ⟨rfl, hb1⟩
  go_wp2
  go_ret2
  exact ⟨_, _, rfl, w64_nil _, HA.out.keep hb1, fun h => absurd h (Nat.lt_irrefl 0), hb1⟩

set_option maxHeartbeats 4000000 in
set_option maxRecDepth 100000 in
theorem divide_one_q (a b : Value) (m n : Nat) (w : World) (ha : W64 w a m) (hb : W64 w b n) (hn : (dig B64 n).length = 1) (hm : (dig B64 m).length ≤ 100000000) (hle : n ≤ m) :
    Calls Try.prog 88 #[a, b] w (DivQPost w (m / n) (m % n)) := by
  have hcmp := cmp64_call a b m n w ha hb (by omega) (by omega)
  have hc0 : 0 ≤ cmpN m n := by
    rcases Nat.lt_or_ge n m with h | h
    · rw [cmpN_gt h]; omega
    · obtain rfl : m = n := by omega
      rw [cmpN_eq]; omega
  generalize cmpN m n = cc at *
  have hnl := dig_len_lt b64_two (n := n)
  rw [hn, Nat.pow_one] at hnl
  have hn0 : 0 < n := by
    rcases Nat.eq_zero_or_pos n with h | h
    · rw [h, dig_zero] at hn; simp at hn
    · exact h
  have hdw := fun w' (h : W64 w' a m) => divideWord_call a m n w' h (by omega) hn0 hnl
  have hrem : m % n < B64 := Nat.lt_of_lt_of_le (Nat.mod_lt _ hn0) (Nat.le_of_lt hnl)
  have htr := fun w' => trim_any (some ⟨w'.heap.size, 0, none⟩) 1 1 [m % n] (w'.alloc (.cells #[.int .u64 ((m % n : Nat) : Int)] 24)) (Row.nums0 (row_one w' (m % n)) 1) (Low.cons hrem (Low.nil _)) rfl (Nat.le_refl _) (by omega)
  have hown := fun w' => (own_of_trim b64_two (row_one w' (m % n)) (Low.cons hrem (Low.nil _)) (Nat.le_refl w'.heap.size)).is
  have hv1 : val B64 [m % n] = m % n := by simp [val]
  have hl1 : ([m % n] : List Nat).length = 1 := rfl
  rw [hv1] at htr
  rw [hv1, hl1] at hown
  obtain ⟨A', c', rfl, hc', hB⟩ := hb
  obtain ⟨g, off, v, rfl, hg, hv, hcv⟩ := hB.at_ (i := 0) (by omega)
  have hvn : v = n := by
    have e := dig_getElem? b64_two hv
    rw [Nat.pow_zero, Nat.div_one, Nat.mod_eq_of_lt hnl] at e
    exact e
  subst hvn
  rw [Nat.add_zero] at hcv
  rw [hn] at hcmp hc' ⊢
  have HC := Lib.hid hcmp
  have HDW := Lib.hid hdw
  have HTR := Lib.hid htr
  have HOW := Lib.hid hown
  have HA := Lib.hid ha
  obtain ⟨A, c, rfl, _⟩ := ha
  clear hcmp hdw htr hown hB hv hnl hrem hn hle hv1 hl1
  generalize (dig B64 m).length = L at *
  generalize m % v = R at *
  generalize m / v = Q at *
  go_enter Try.func88, Try.ntmps88
  go_wp2_with (fail)
  refine HC.out.mono ?_
  rintro e w1 ⟨rfl, hb1⟩
  have hcv1 := (hb1.cell (p := ⟨g, off, none⟩) hg).trans hcv
  go_wp2_with (fail)
  refine (HDW.out _ (HA.out.keep hb1)).mono ?_
  rintro e w2 ⟨q, rfl, hq, hb2⟩
  go_wp2_with (fail)
  refine (HTR.out _).mono ?_
  rintro e w3 ⟨rfl, rfl⟩
  go_wp2
  go_ret2
  exact ⟨_, _, rfl, hq.is.keep (below_new _ _), HOW.out _, fun _ => (at_ownW hq).mono hb1.size, (below_at hb1 (Nat.le_refl _) hb2).alloc (below_at hb1 (Nat.le_refl _) hb2).size _⟩

set_option maxHeartbeats 4000000 in
set_option maxRecDepth 100000 in
theorem divide_long_q (a b : Value) (m n : Nat) (w : World) (ha : W64 w a m) (hb : W64 w b n) (hn : 2 ≤ (dig B64 n).length) (hm : (dig B64 m).length ≤ 10000000) (hle : n ≤ m) (hs : (dig B64 n).length < 200 ∨ (dig B64 m).length < 199 + (dig B64 n).length) :
    Calls Try.prog 88 #[a, b] w (DivQPost w (m / n) (m % n)) := by
  have hll := lenm hle
  have hcmp := cmp64_call a b m n w ha hb (by omega) (by omega)
  have hc0 : 0 ≤ cmpN m n := by
    rcases Nat.lt_or_ge n m with h | h
    · rw [cmpN_gt h]; omega
    · obtain rfl : m = n := by omega
      rw [cmpN_eq]; omega
  generalize cmpN m n = cc at *
  obtain ⟨A', c', hbe, hc', hB⟩ := id hb
  obtain ⟨g, off, v, hAe, hg, hv, hcv⟩ := hB.at_ (i := (dig B64 n).length - 1) (by omega)
  obtain ⟨hN, hnl, hvl, hv0⟩ := normal_shift hn hv
  have hnb := nbits_ne hv0
  have hlz := fun w => lz_any v hvl w
  have hs64 : 64 - nbits v ≤ 64 := by omega
  generalize 64 - nbits v = s at *
  have hml := shift_len (m := m) (s := s) hs64
  have hge : (dig B64 n).length ≤ (dig B64 (n * 2 ^ s)).length := dig_len_mono (Nat.le_mul_of_pos_right _ (Nat.two_pow_pos s))
  have hsa := fun w' (h : W64 w' a m) => shiftLeft_any a m s w' h (by omega) (by omega)
  have hsb := fun w' (h : W64 w' b n) => shiftLeft_any b n s w' h (by omega) (by omega)
  have hdn := fun x y w' (h : W64 w' x (m * 2 ^ s)) (k : W64 w' y (n * 2 ^ s)) => divideNormal_any_q x y _ _ w' h k hN (by omega) (by omega) (by omega)
  have e1 : m * 2 ^ s / (n * 2 ^ s) = m / n := Nat.mul_div_mul_right _ _ (Nat.two_pow_pos s)
  have e2 : m * 2 ^ s % (n * 2 ^ s) = m % n * 2 ^ s := Nat.mul_mod_mul_right _ _ _
  rw [e1, e2] at hdn
  have hrl : (dig B64 (m % n * 2 ^ s)).length ≤ 100000000 := by
    have := lenm (show m % n * 2 ^ s ≤ m * 2 ^ s from Nat.mul_le_mul_right _ (Nat.mod_le _ _))
    omega
  have hsr := fun x w' (h : W64 w' x (m % n * 2 ^ s)) => shiftRight_any x _ s w' h (by omega) (by omega)
  rw [Nat.mul_div_cancel _ (Nat.two_pow_pos s)] at hsr
  have HC := Lib.hid hcmp
  have HLZ := Lib.hid hlz
  have HSA := Lib.hid hsa
  have HSB := Lib.hid hsb
  have HDN := Lib.hid hdn
  have HSR := Lib.hid hsr
  have HA := Lib.hid ha
  have HB := Lib.hid hb
  obtain ⟨A, c, rfl, _⟩ := ha
  subst hbe hAe
  clear hcmp hlz hsa hsb hdn hsr hb hB hv hN hnl hml hge hrl e1 e2 hle hs hv0 hvl
  have hx : ((dig B64 n).length : Int) - 1 = (((dig B64 n).length - 1 : Nat) : Int) := by omega
  generalize (dig B64 m).length = L at *
  generalize hL' : (dig B64 n).length = L' at *
  obtain ⟨K, rfl⟩ : ∃ K, L' = K + 1 := ⟨L' - 1, by omega⟩
  rw [Nat.add_sub_cancel] at hcv
  clear hx hL'
  have hne : (((K : Int) + 1) == 1) = false := by simp; omega
  go_enter Try.func88, Try.ntmps88
  go_wp2_with (fail)
  refine HC.out.mono ?_
  rintro e w1 ⟨rfl, hb1⟩
  have hcv1 := (hb1.cell (p := ⟨g, off + K, none⟩) hg).trans hcv
  go_wp2_with (fail)
  refine (HLZ.out _).mono ?_
  rintro e w2 ⟨rfl, rfl⟩
  have ka := HA.out.keep hb1
  have kb := HB.out.keep hb1
  go_wp2_with (fail)
  refine (HSA.out _ ka).mono ?_
  rintro e w3 ⟨x, rfl, hx, hb3⟩
  go_wp2_with (fail)
  refine (HSB.out _ (kb.keep hb3)).mono ?_
  rintro e w4 ⟨y, rfl, hy, hb4⟩
  go_wp2_with (fail)
  refine (HDN.out _ _ _ (hx.is.keep hb4) hy.is).mono ?_
  rintro e w5 ⟨q, r, rfl, hq, hr, hqa, hb5⟩
  go_wp2_with (fail)
  refine (HSR.out _ _ hr).mono ?_
  rintro e w6 ⟨z, rfl, hz, hb6⟩
  go_wp2
  go_ret2
  exact ⟨_, _, rfl, hq.keep hb6, hz, fun h => (hqa h).mono (by have := hb1.size; have := hb3.size; have := hb4.size; omega), below_at (below_at (below_at (below_at hb1 (Nat.le_refl _) hb3) (Nat.le_refl _) hb4) (Nat.le_refl _) hb5) (Nat.le_refl _) hb6⟩

theorem divide_any_q (a b : Value) (m n : Nat) (w : World) (ha : W64 w a m) (hb : W64 w b n) (hn0 : 0 < n) (hn : (dig B64 n).length ≤ 10000000) (hm : (dig B64 m).length ≤ 10000000) (hs : (dig B64 n).length < 200 ∨ (dig B64 m).length < 199 + (dig B64 n).length) :
    Calls Try.prog 88 #[a, b] w (DivQPost w (m / n) (m % n)) := by
  rcases Nat.lt_or_ge m n with h | h
  · exact divide_lt_q a b m n w ha hb (by omega) (by omega) h
  · have h1 := dig_len_pos (n := n) (by omega)
    rcases Nat.lt_or_ge (dig B64 n).length 2 with h2 | h2
    · exact divide_one_q a b m n w ha hb (by omega) (by omega) h
    · exact divide_long_q a b m n w ha hb h2 hm h hs
end Go.Proofs.Ytaegkhdkhgemmaa

/- Digits with leading zeros; a number's digits out of those of its quotient and its remainder. Plain. -/
namespace Go.Proofs.Num

/-- k digits of n, leading zeros among them. -/
def padb (b : Nat) : Nat → Nat → List Nat
  | 0, _ => []
  | k + 1, n => n % b :: padb b k (n / b)

theorem padb_len (b : Nat) : ∀ k n, (padb b k n).length = k
  | 0, _ => rfl
  | k + 1, n => by simp [padb, padb_len b k]

theorem padb_add (b : Nat) : ∀ j k n, padb b (j + k) n = padb b j n ++ padb b k (n / b ^ j)
  | 0, k, n => by simp [padb]
  | j + 1, k, n => by
    rw [show j + 1 + k = (j + k) + 1 by omega]
    simp only [padb, List.cons_append]
    rw [padb_add b j k, Nat.div_div_eq_div_mul, Nat.pow_succ, Nat.mul_comm]

theorem padb_mod (b : Nat) : ∀ k n, padb b k (n % b ^ k) = padb b k n
  | 0, _ => rfl
  | k + 1, n => by
    simp only [padb]
    have h1 : n % b ^ (k + 1) % b = n % b := by
      rw [Nat.pow_succ, Nat.mul_comm]; exact Nat.mod_mul_right_mod n b (b ^ k)
    have h2 : n % b ^ (k + 1) / b = n / b % b ^ k := by
      rw [Nat.pow_succ, Nat.mul_comm]; exact Nat.mod_mul_right_div_self n b (b ^ k)
    rw [h1, h2, padb_mod b k]

theorem padb_split (b k n : Nat) : padb b (k + k) n = padb b k (n % b ^ k) ++ padb b k (n / b ^ k) := by
  rw [padb_add, padb_mod]

theorem dig_split {b : Nat} (hb : 2 ≤ b) : ∀ k n, 0 < n / b ^ k → dig b n = padb b k n ++ dig b (n / b ^ k)
  | 0, n, _ => by simp [padb]
  | k + 1, n, h => by
    have e : n / b ^ (k + 1) = n / b / b ^ k := by rw [Nat.div_div_eq_div_mul, Nat.pow_succ, Nat.mul_comm]
    rw [e] at h ⊢
    have hn : n ≠ 0 := by
      intro h0; rw [h0] at h; simp at h
    rw [dig_pos hb hn]
    simp only [padb, List.cons_append]
    rw [dig_split hb k (n / b) h]

/-- What is given out of n: all k digits if others follow, else the digits of n. -/
def outs (b k n : Nat) (follow : Bool) : List Nat := if follow then padb b k n else dig b n

theorem outs_true (b k n : Nat) : outs b k n true = padb b k n := rfl
theorem outs_false (b k n : Nat) : outs b k n false = dig b n := rfl

theorem outs_low {b : Nat} (hb : 2 ≤ b) (k n : Nat) (f : Bool) : Low b (outs b k n f) := by
  cases f with
  | false => exact low_dig hb n
  | true =>
    rw [outs_true]
    induction k generalizing n with
    | zero => exact Low.nil b
    | succ k ih => exact Low.cons (Nat.mod_lt _ (by omega)) (ih _)

theorem outs_len {b k n : Nat} (hb : 2 ≤ b) (h : n < b ^ k) (f : Bool) : (outs b k n f).length ≤ k := by
  cases f with
  | true => rw [outs_true, padb_len]; exact Nat.le_refl _
  | false => rw [outs_false]; exact dig_len_le hb h

/-- All that was one: n has no quotient and nothing follows. -/
theorem outs_low_half (b k n : Nat) (h : n / b ^ k = 0) (hb : 2 ≤ b) : outs b (k + k) n false = outs b k (n % b ^ k) false := by
  have : n < b ^ k := by
    rcases Nat.div_eq_zero_iff.1 h with h0 | h0
    · have : 0 < b ^ k := Nat.pow_pos (by omega)
      omega
    · exact h0
  rw [outs_false, outs_false, Nat.mod_eq_of_lt this]

theorem outs_halves (b k n : Nat) (f : Bool) (hb : 2 ≤ b) (h : 0 < n / b ^ k ∨ f = true) : outs b (k + k) n f = outs b k (n % b ^ k) true ++ outs b k (n / b ^ k) f := by
  cases f with
  | true => simp only [outs_true]; exact padb_split b k n
  | false =>
    rcases h with h | h
    · simp only [outs_true, outs_false, padb_mod]; exact dig_split hb k n h
    · cases h

theorem outs_end (b n : Nat) (f : Bool) (h : n = 0) : outs b 0 n f = [] := by
  subst h; cases f
  · exact dig_zero b
  · rfl
theorem outs_stop (b k : Nat) : outs b k 0 false = [] := dig_zero b
theorem outs_step (b k n : Nat) (f : Bool) (hb : 2 ≤ b) (h : n ≠ 0 ∨ f = true) : outs b (k + 1) n f = n % b :: outs b k (n / b) f := by
  cases f with
  | true => rfl
  | false =>
    rcases h with h | h
    · simp only [outs_false]; exact dig_pos hb h
    · cases h

end Go.Proofs.Num

/- What the giver of digits keeps through the rounds of a loop over it: blocks that the round may not write. -/
namespace Go.Proofs.Ytaegkhdkhgemmaa
open Go.RowKit Num

/-- R names only blocks that are there. -/
def Good (R : World → Nat → Prop) (W : World) : Prop := ∀ k, R W k → k < W.heap.size
/-- A round keeps every block of cells but those that R names; R grows by new blocks alone. -/
def KpS (R : World → Nat → Prop) (A B : World) : Prop :=
  A.heap.size ≤ B.heap.size ∧ (Good R A → (∀ k o, A.heap[k]? = some o → o.isCells = true → ¬ R A k → B.heap[k]? = some o) ∧ (∀ k, R B k → k < B.heap.size ∧ (R A k ∨ A.heap.size ≤ k)))
/-- What R names is read off blocks below n₀. -/
def RB (R : World → Nat → Prop) (n₀ : Nat) : Prop := ∀ A B k, Below n₀ A B → R B k → R A k

section
variable {R : World → Nat → Prop} {A B C : World} {n₀ : Nat}
theorem KpS.refl (A : World) : KpS R A A := ⟨Nat.le_refl _, fun g => ⟨fun _ _ h _ _ => h, fun k h => ⟨g k h, .inl h⟩⟩⟩
theorem KpS.good (h : KpS R A B) (g : Good R A) : Good R B := fun k hk => ((h.2 g).2 k hk).1
theorem kpS_t {A B C : World} (h : KpS R A B) (j : KpS R B C) : KpS R A C := by
  refine ⟨Nat.le_trans h.1 j.1, fun g => ⟨?_, ?_⟩⟩
  · intro k o hk ho hn
    have hB := (h.2 g).1 k o hk ho hn
    refine (j.2 (h.good g)).1 k o hB ho fun hR => ?_
    rcases ((h.2 g).2 k hR).2 with c | c
    · exact hn c
    · have := (Array.getElem?_eq_some_iff.1 hk).1; omega
  · intro k hk
    obtain ⟨a, b⟩ := (j.2 (h.good g)).2 k hk
    refine ⟨a, ?_⟩
    rcases b with b | b
    · exact ((h.2 g).2 k b).2
    · exact .inr (Nat.le_trans h.1 b)
/-- Steps that leave all that was there. -/
theorem KpS.of_below (hR : RB R n₀) (hn : n₀ ≤ A.heap.size) (h : Below A.heap.size A B) : KpS R A B :=
  ⟨h.size, fun g => ⟨fun k _ hk _ _ => (h.block k (Array.getElem?_eq_some_iff.1 hk).1).trans hk, fun k hk => by
    have := hR A B k (h.mono hn) hk
    exact ⟨Nat.lt_of_lt_of_le (g k this) h.size, .inl this⟩⟩⟩
theorem kpS_b {w : World} (hR : RB R n₀) (hn : n₀ ≤ w.heap.size) (W : World) (l : Nat) (o o' : Obj) (hl : w.heap.size ≤ l) (h : W.heap[l]? = some o) (hc : o.isCells = false) (hk : o.isWalk = false) : KpS R W (W.putObj l o') := by
  have hb : Below n₀ W (W.putObj l o') := belowK_b hn W l o o' hl h hc hk
  refine ⟨hb.size, fun g => ⟨fun k p hp hpc _ => ?_, fun k hk => ?_⟩⟩
  · have hne : k ≠ l := by
      rintro rfl
      rw [hp] at h
      injection h with h
      rw [h, hc] at hpc
      cases hpc
    exact (World.putObj_heap_other hne).trans hp
  · have := hR _ _ k hb hk
    exact ⟨Nat.lt_of_lt_of_le (g k this) hb.size, .inl this⟩

/-- A block that R does not name, with what it holds. -/
def Kept (R : World → Nat → Prop) (W : World) (k : Nat) (o : Obj) : Prop := W.heap[k]? = some o ∧ o.isCells = true ∧ ¬ R W k
theorem Kept.kp {k : Nat} {o : Obj} (h : Kept R A k o) (g : Good R A) (j : KpS R A B) : Kept R B k o := by
  obtain ⟨h1, h2, h3⟩ := h
  refine ⟨(j.2 g).1 k o h1 h2 h3, h2, fun hR => ?_⟩
  rcases ((j.2 g).2 k hR).2 with c | c
  · exact h3 c
  · have := (Array.getElem?_eq_some_iff.1 h1).1; omega
/-- What was laid since A is named by nothing. -/
theorem not_named (hR : RB R n₀) (g : Good R A) (hb : Below n₀ A B) {k : Nat} (hk : A.heap.size ≤ k) : ¬ R B k := fun h => by
  have := g k (hR A B k hb h); omega

/-- The slice v reads as the words of n, in a block that R does not name. -/
def KNum (R : World → Nat → Prop) (W : World) (v : Value) (n : Nat) : Prop :=
  ∃ A c, v = .slice A (dig B64 n).length c ∧ (dig B64 n).length ≤ c ∧ (0 < (dig B64 n).length → ∃ g off o, A = some ⟨g, off, none⟩ ∧ Kept R W g o ∧ ∀ (i u : Nat), (dig B64 n)[i]? = some u → W.cell? ⟨g, off + i, none⟩ = some (.int .u64 (u : Int)))
theorem KNum.w64 {v : Value} {n : Nat} (h : KNum R A v n) : W64 A v n := by
  obtain ⟨a, c, e, hc, hn⟩ := h
  refine ⟨a, c, e, hc, fun hl => ?_⟩
  obtain ⟨g, off, o, e1, hk, hcell⟩ := hn hl
  exact ⟨g, off, e1, (Array.getElem?_eq_some_iff.1 hk.1).1, hcell⟩
theorem KNum.kp {v : Value} {n : Nat} (h : KNum R A v n) (g : Good R A) (j : KpS R A B) : KNum R B v n := by
  obtain ⟨a, c, e, hc, hn⟩ := h
  refine ⟨a, c, e, hc, fun hl => ?_⟩
  obtain ⟨g', off, o, e1, hk, hcell⟩ := hn hl
  have hk' := hk.kp g j
  refine ⟨g', off, o, e1, hk', fun i u hu => ?_⟩
  rw [← hcell i u hu]
  exact World.cell?_of_block (hk'.1.trans hk.1.symm)
theorem kNum_zero (W : World) : KNum R W (.slice none 0 0) 0 := ⟨none, 0, by rw [dig_zero]; rfl, by rw [dig_zero]; exact Nat.le_refl _, fun h => by rw [dig_zero] at h; simp at h⟩
/-- A number in a block that was laid since A. -/
theorem KNum.of {v : Value} {n : Nat} (h : W64 B v n) (hb : Below n₀ A B) (hR : RB R n₀) (g : Good R A) (ha : 0 < n → At A.heap.size v) : KNum R B v n := by
  obtain ⟨a, c, e, hc, hn⟩ := h
  refine ⟨a, c, e, hc, fun hl => ?_⟩
  obtain ⟨g', off, e1, hg', hcell⟩ := hn hl
  have hn0 : 0 < n := by
    rcases Nat.eq_zero_or_pos n with h | h
    · rw [h, dig_zero] at hl; simp at hl
    · exact h
  obtain ⟨g2, L2, c2, e2, hB⟩ := ha hn0
  rw [e, e1] at e2
  injection e2 with e2 _ _
  injection e2 with e2
  injection e2 with e2 e3
  subst e2
  obtain ⟨u, hu⟩ : ∃ u, (dig B64 n)[0]? = some u := ⟨(dig B64 n)[0], List.getElem?_eq_getElem hl⟩
  have c0 := hcell 0 u hu
  obtain ⟨o, ho, hoc⟩ : ∃ o, B.heap[g']? = some o ∧ o.isCells = true := by
    unfold World.cell? at c0
    split at c0
    · rename_i cs t f heq
      exact ⟨_, heq, rfl⟩
    · cases c0
  exact ⟨g', off, o, e1, ⟨ho, hoc, not_named hR g hb hB⟩, hcell⟩
end

/-- The giver at block gb: base, how many digits a word has, its powers (K of them in block gp, the i-th U i), and the yield of loop l. -/
def Giv (R : World → Nat → Prop) (W : World) (gb b count l gp K cap : Nat) (U : Nat → Nat) : Prop :=
  Good R W ∧ Kept R W gb (.cells #[.int .u64 (b : Int), .int .i64 (count : Int), .slice (some ⟨gp, 0, none⟩) K cap, .func (.yield l) #[] #[]] 114 (0, 0)) ∧ K ≤ cap ∧
  ∃ cur, Kept R W gp (.cells cur 88 (0, 0)) ∧ ∀ i, i < K → ∃ v, cur[i]? = some v ∧ KNum R W v (U i)
section
variable {R : World → Nat → Prop} {A B : World} {gb b count l gp K cap : Nat} {U : Nat → Nat}
theorem Giv.good (h : Giv R A gb b count l gp K cap U) : Good R A := h.1
theorem Giv.kp (h : Giv R A gb b count l gp K cap U) (j : KpS R A B) : Giv R B gb b count l gp K cap U := by
  obtain ⟨g, h1, hc, cur, h2, h3⟩ := h
  refine ⟨j.good g, h1.kp g j, hc, cur, h2.kp g j, fun i hi => ?_⟩
  obtain ⟨v, e, hv⟩ := h3 i hi
  exact ⟨v, e, hv.kp g j⟩
theorem Giv.c0 (h : Giv R A gb b count l gp K cap U) : A.cell? ⟨gb, 0, none⟩ = some (.int .u64 (b : Int)) := by simp [World.cell?, h.2.1.1]
theorem Giv.c1 (h : Giv R A gb b count l gp K cap U) : A.cell? ⟨gb, 1, none⟩ = some (.int .i64 (count : Int)) := by simp [World.cell?, h.2.1.1]
theorem Giv.c2 (h : Giv R A gb b count l gp K cap U) : A.cell? ⟨gb, 2, none⟩ = some (.slice (some ⟨gp, 0, none⟩) K cap) := by simp [World.cell?, h.2.1.1]
theorem Giv.c3 (h : Giv R A gb b count l gp K cap U) : A.cell? ⟨gb, 3, none⟩ = some (.func (.yield l) #[] #[]) := by simp [World.cell?, h.2.1.1]
theorem Giv.power (h : Giv R A gb b count l gp K cap U) {i : Nat} (hi : i < K) : ∃ v, A.cell? ⟨gp, i, none⟩ = some v ∧ KNum R A v (U i) := by
  obtain ⟨_, _, _, cur, h2, h3⟩ := h
  obtain ⟨v, e, hv⟩ := h3 i hi
  exact ⟨v, by simp [World.cell?, h2.1, e], hv⟩
end
end Go.Proofs.Ytaegkhdkhgemmaa

/- A region whose first operations only read and whose last ones come in one order, inside a fence. -/
namespace Go.Proofs.Ytaegkhdkhgemmaa
open Go Go.RowKit
section
variable {F : Fence} {n : Nat} {P : Program} {ops : Array Oper} {md : Region.Mode} {w : World}

/-- What a fence must let by for this: whatever is called plainly, and any number of frames. -/
structure Free (F : Fence) (P : Program) : Prop where
  fn : ∀ f, F.fn f
  depth : F.depth = none
  calls : ∀ (n f : Nat) (args : Array Value) (w : World) (Q : Ending → World → Prop), Calls P f args w Q → CallsIn F n P f args w Q

theorem Free.room (h : Free F P) (k : Nat) : F.depth.isSome = true → 1 ≤ k := fun e => by rw [h.depth] at e; cases e
theorem free_wide : Free Fence.wide P := ⟨fun _ => trivial, rfl, fun n _ _ _ _ h => (callsIn_wide (n := n)).2 h⟩
theorem Free.inRound (h : Free F P) (l : Nat) : Free (F.inRound l) P := ⟨h.fn, h.depth, h.calls⟩

theorem stillIn_oper (hF : Free F P) {o : Oper} (hnd : ∀ c, o.op ≠ .defer c) {a : Act} {K : Act → Prop} {K' : Act → World → Prop} {Q' : Exit → Act → World → Prop} (h : ∀ a, K a → K' a w) (hh : o.still P a w K) : o.wpIn F n P a w K' Q' := by
  refine ⟨fun f _ => hF.fn f, ?_⟩
  rw [Oper.semAt_eq _ _ _ hnd]
  unfold Oper.still at hh
  generalize (execOp a.eval o).run P w = r at *
  cases r with
  | ok n w' =>
    cases n <;> simp only [Oper.stillUpon] at hh <;> simp only [Oper.uponIn]
    case enter f args =>
      obtain ⟨rfl, v, hc, hn⟩ := hh
      exact ⟨hF.room _, (hF.calls _ _ _ _ _ hc).mono fun e w'' ⟨he, hw⟩ => by subst he; subst hw; exact h _ hn⟩
    all_goals (obtain ⟨rfl, h2⟩ := hh; exact h _ h2)
  | halt x w' => simp only [Oper.stillUpon] at hh

theorem stillIn_op (hF : Free F P) (hnd : ∀ (i : Nat) (o : Oper) (c : _), ops[i]? = some o → o.op ≠ .defer c) {i : Nat} {a : Act} {K : Act → Prop} {K' : Act → World → Prop} {Q' : Exit → Act → World → Prop} (h : ∀ a, K a → K' a w) (hh : stOp P ops w i K a) : wpOpIn F n P ops Q' i K' a w := by
  unfold stOp at hh
  unfold wpOpIn
  split
  · rename_i ho; simp only [ho] at hh; exact h _ hh
  · rename_i o ho
    simp only [ho] at hh
    split
    · rename_i hw; simp only [hw, if_true] at hh; exact stillIn_oper hF (fun c => hnd i o c ho) h hh
    · rename_i hw; simp only [hw] at hh; exact ⟨fun f _ => hF.fn f, h _ hh⟩

theorem stillIn_head (hF : Free F P) (hnd : ∀ (i : Nat) (o : Oper) (c : _), ops[i]? = some o → o.op ≠ .defer c) {k g : Nat} {L : Array Bool → Act → Prop} {Q' : Exit → Act → World → Prop} (hL : ∀ listed a, L listed a → wpAnyIn F n P md ops Q' g listed a w) :
    ∀ (f : Nat) (listed : Array Bool) (a : Act), wpAnyL P md ops w k L f listed a → wpAnyIn F n P md ops Q' (f + g) listed a w
  | 0, listed, a, h => by rw [Nat.zero_add]; exact hL _ _ h
  | f + 1, listed, a, h => by
    rw [show f + 1 + g = (f + g) + 1 by omega]
    exact ⟨fun h0 => absurd h0 h.1, fun i hi => stillIn_op hF hnd (fun a' h' => stillIn_head hF hnd hL f _ a' h') (h.2 i hi).2⟩

theorem stillIn_seq {Q' : Exit → Act → World → Prop} : ∀ (l : List Oper) (k : Nat) (listed : Array Bool) (a : Act) (w : World), (∀ j, l[j]? = ops[k + j]?) →
    Region.seqB md ops l.length k listed = true → wpListIn F n P ops Q' l a w → wpAnyIn F n P md ops Q' l.length listed a w
  | [], _, _, _, _, _, hB, h => ⟨by simpa [Region.seqB] using hB, h⟩
  | o :: l, k, listed, a, w, hl, hB, h => by
    have h0 : ops[k]? = some o := by simpa using (hl 0).symm
    simp only [List.length_cons, Region.seqB, Bool.and_eq_true, decide_eq_true_eq] at hB
    refine ⟨fun h1 => (by rw [hB.1] at h1; cases h1), fun i hi => ?_⟩
    rw [hB.1] at hi
    have hik : i = k := by simpa using hi
    subst hik
    have hw : wpOpIn F n P ops Q' i (wpListIn F n P ops Q' l) a w := by unfold wpOpIn; simp only [h0]; exact h
    exact wpOpIn_mono (fun a' w' h' => stillIn_seq l (i + 1) _ a' w' (fun j => by have := hl (j + 1); simpa [Nat.add_assoc, Nat.add_comm 1 j] using this) hB.2 h') hw

def noDefer (l : List Oper) : Bool := l.all fun o => match o.op with | .defer _ => false | _ => true
theorem noDefer_spec {l : List Oper} (h : noDefer l = true) : ∀ (i : Nat) (o : Oper) (c : _), l.toArray[i]? = some o → o.op ≠ .defer c := by
  intro i o c hi he
  have hm : o ∈ l := by simpa using List.mem_of_getElem? (by simpa using hi)
  have := List.all_eq_true.1 h o hm
  rw [he] at this
  simp at this

theorem wpIn_region_still_tail {id : Nat} {Q : Exit → Act → World → Prop} {a : Act} {w : World} {l : List Oper} (k : Nat) (hF : Free F P) (hm : P.follows .mixedOrders = true) (hnd : noDefer l = true) (hB : Region.lexTailB .any l.toArray k = true)
    (h : wpStill P l.toArray { w with drawn := w.drawn + 1 } (fun a' => wpListIn F n P l.toArray Q (l.drop k) a' { w with drawn := w.drawn + 1 }) (l.take k) a) : (Code.region id l.toArray true).wpIn F n P Q a w := by
  simp only [Region.lexTailB, Bool.and_eq_true, decide_eq_true_eq] at hB
  obtain ⟨⟨⟨⟨hsel, hn⟩, hs⟩, hc⟩, hlex⟩ := hB
  have hn' : k < l.length := by simpa using hn
  have htl : (l.take k).length = k := by simp; omega
  have hdl : (l.drop k).length = l.toArray.size - k := by simp
  have inv0 : HeadInv .any l.toArray k (Array.replicate l.toArray.size false) :=
    ⟨by simp, fun j oj _ hl => (by rw [getD_replicate_false] at hl; cases hl), fun t _ ht => getD_in (by simpa using ht) (getD_replicate_false _ _)⟩
  have H := wpAnyL_lex (md := .any) (g := l.toArray.size - k) hsel hs hc hn (l.take k) 0 _ a (fun j hj => by
    have hj' : j < k := by rw [htl] at hj; exact hj
    simp [hj']) (by simpa using htl) inv0 (by rw [htl]; exact hlex) h
  refine wpIn_region_any hm ?_
  have := stillIn_head (n := n) hF (noDefer_spec hnd) (Q' := Q) (g := l.toArray.size - k) (fun listed a' hL => by
    have := stillIn_seq (F := F) (n := n) (P := P) (md := .any) (Q' := Q) (l.drop k) k listed a' { w with drawn := w.drawn + 1 } (fun j => by simp [List.getElem?_drop]) (by rw [hdl]; exact hL.1) hL.2
    rwa [hdl] at this) _ _ _ H
  rw [htl, show k + (l.toArray.size - k) = l.toArray.size by omega] at this
  exact this
end
end Go.Proofs.Ytaegkhdkhgemmaa
