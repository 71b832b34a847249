import Derived.Test.YtaegkhdkhgemmaaFrom
namespace Go.Proofs.Ytaegkhdkhgemmaa
open Go.RowKit Num

/-- A Nat of the call's own: at the head of a row of limbs in a block from B on. -/
def OwnL (B : Nat) (w : World) (v : Value) (n : Nat) : Prop := w.ownsRow B 56 1 v (dig B32 n).length (ints .u32 (dig B32 n))

theorem ints_len (k : IntKind) (zs : List Nat) : (ints k zs).length = zs.length := by simp [ints]

theorem own_reads {w : World} {B : Nat} {v : Value} {xs : List Nat} (h : w.ownsRow B 56 1 v xs.length (ints .u32 xs)) : ∃ A c, v = .slice A xs.length c ∧ xs.length ≤ c ∧ Nums .u32 w A xs := by
  rcases h.2 with ⟨rfl, h0⟩ | ⟨g, cap, cur, rfl, _, hh, hnc, _, hsz, ht⟩
  · have : xs = [] := List.eq_nil_of_length_eq_zero h0
    subst this
    exact ⟨none, 0, rfl, Nat.le_refl _, Nums.nil⟩
  · refine ⟨_, cap, rfl, hnc, fun _ => ⟨g, 0, rfl, (Array.getElem?_eq_some_iff.1 hh).1, fun i v hv => ?_⟩⟩
    have hi := (List.getElem?_eq_some_iff.1 hv).1
    have : (cur.toList.take (xs.length * 1))[i]? = some (.int .u32 (v : Int)) := by rw [ht]; simp [ints, hv]
    rw [List.getElem?_take, if_pos (by omega)] at this
    simp only [World.cell?, hh, Nat.zero_add]
    simpa using this
theorem OwnL.is {B : Nat} {w : World} {v : Value} {n : Nat} (h : OwnL B w v n) : N32 w v n := own_reads h

/-- A Nat is returned; nothing that was there has turned. -/
def NatPost (w : World) (n : Nat) (e : Ending) (w' : World) : Prop := ∃ v, e = .returned v ∧ OwnL w.heap.size w' v n ∧ Below w.heap.size w w'

theorem own_cut {w : World} {B : Nat} {g n cap : Nat} {xs : List Value} (h : w.ownsRow B 56 1 (.slice (some ⟨g, 0, none⟩) n cap) n xs) (m : Nat) (hm : m ≤ n) : w.ownsRow B 56 1 (.slice (some ⟨g, 0, none⟩) m cap) m (xs.take m) := by
  obtain ⟨h1, h2⟩ := h
  rcases h2 with ⟨h3, _⟩ | ⟨g', cap', cur, hv, hg, hh, hnc, hcm, hsz, ht⟩
  · cases h3
  · injection hv with e1 e2 e3
    injection e1 with e1
    injection e1 with e1
    subst e1 e3
    refine ⟨by simp; omega, .inr ⟨g, cap, cur, rfl, hg, hh, by omega, hcm, hsz, ?_⟩⟩
    rw [← ht, List.take_take, Nat.min_eq_left (by omega), Nat.mul_one]

set_option maxHeartbeats 1000000 in
set_option maxRecDepth 100000 in
theorem nat_any (a : Value) (n : Nat) (w : World) (ha : W64 w a n) (hl : (dig B64 n).length ≤ 10000000000) :
    Calls Try.prog 79 #[a] w (NatPost w n) := by
  obtain ⟨A, c, rfl, _, hA⟩ := ha
  obtain ⟨xs, hxs⟩ : ∃ xs, dig B64 n = xs := ⟨_, rfl⟩
  have hlow := low_dig b64_two n
  rw [hxs] at hlow hl hA ⊢
  obtain ⟨L, hL⟩ : ∃ L, xs.length = L := ⟨_, rfl⟩
  rw [hL] at hl ⊢
  have HXS := Lib.hid hxs
  have HL := Lib.hid hL
  clear hxs hL
  obtain ⟨i0, hi, hz0, hz1, hz2⟩ := info_parts info56
  go_enter Try.func79, Try.ntmps79
  go_wp2_with (at_make; refine wpList_make_own _ rfl _ _ 23 rfl w.heap.size 56 i0 (.int .u32 0) 1 Try.underlying23 hi hz0 hz1 _ _ _ (2 * L) rfl rfl (by omega) ?b2 ?b3 (Nat.le_refl _) ?_)
  case b2 => rw [hz2]; omega
  case b3 => unfold maxLen; omega
  intro w0 hown0 hgrow0
  go_wp2
  go_loopw [3, 13] (fun x t wr => ∃ (k m : Nat), k ≤ L ∧ m = 2 * k ∧ x = .slice (some ⟨w.heap.size, 0, none⟩) m (2 * L) ∧ t = .int .i64 (k : Int) ∧ wr.ownsRow w.heap.size 56 1 (.slice (some ⟨w.heap.size, 0, none⟩) m (2 * L)) m (ints .u32 (limbs (xs.take k))) ∧ Below w.heap.size w wr)
    (fun _ t _ => L - (intOf t).toNat)
  case atStart => exact ⟨0, 0, Nat.zero_le _, rfl, rfl, rfl, hown0, (Below.refl _ _).grown hgrow0 (Nat.le_refl _) (fun k h => by cases h)⟩
  case round =>
    clear hown0 hgrow0
    obtain ⟨k, m, hk, hm, rfl, rfl, hown, hbl⟩ := hrel
    have HM := Lib.hid hm
    by_cases hlt : k < L
    · obtain ⟨q, qo, v, rfl, hq, hv, hcv⟩ := (hA.keep hbl).at_ (i := k) (by have := HL.out; omega)
      have hvl : v < B64 := hlow v (List.mem_of_getElem? hv)
      have hlim := limbs_take_succ hv
      obtain ⟨lo, hlo⟩ : ∃ lo, v % 4294967296 = lo := ⟨_, rfl⟩
      obtain ⟨hi', hhi⟩ : ∃ hi', v / 4294967296 = hi' := ⟨_, rfl⟩
      rw [hlo, hhi] at hlim
      have hw1 : IntKind.u32.wrap (v : Int) = (lo : Int) := by rw [IntKind.wrap_u32']; omega
      have hw2 : IntKind.u32.wrap ((v : Int) / 4294967296) = (hi' : Int) := by rw [IntKind.wrap_u32']; unfold B64 at hvl; omega
      have HV := Lib.hid hv
      have HLIM := Lib.hid hlim
      have H1 := Lib.hid hlo
      have H2 := Lib.hid hhi
      have hm1 : m + 2 ≤ 2 * L := by omega
      have hm2 : m ≤ 100000000000 := by omega
      clear hv hlim hlo hhi hA hvl hlow hm
      go_wp2_with (at_builtin
                   refine wpList_append_fits _ rfl (.tmp 17) (.tmp 23) 23 rfl w.heap.size 56 i0 1 Try.underlying23 hi hz1 w.heap.size m (2 * L) _ rfl (hown.alloc _) ⟨wr.heap.size, 0, none⟩ 2 2 [.int .u32 (lo : Int), .int .u32 (hi' : Int)] rfl rfl ?c1 ?c2 hm1 ?_)
      case c1 =>
        intro t u ht
        match t, ht with
        | 0, ht => simp at ht; subst ht; simp [Addr.add]
        | 1, ht => simp at ht; subst ht; simp [Addr.add]
      case c2 =>
        intro u hu
        simp at hu
        rcases hu with rfl | rfl <;> rfl
      intro w1 hown1 hgrow1
      have hb1 : Below w.heap.size w w1 := (hbl.alloc hbl.size _).grown hgrow1 (Nat.le_trans hbl.size (by simp)) (by simp)
      have H3 := Lib.hid hown1
      clear hown1 hown
      go_wp2
      go_roundw
      case rel =>
        refine ⟨k + 1, m + 2, by omega, by have := HM.out; omega, rfl, by go_num, ?_, hb1⟩
        have := H3.out
        rw [HLIM.out]
        simpa [ints] using this
      case measure => simp [intOf]; omega
    · have hkL : k = L := by omega
      subst hkL
      clear hlt hA
      rw [List.take_of_length_le (by rw [HL.out]; exact Nat.le_refl _)] at hown
      have hm2 : m ≤ 100000000000 := by omega
      have hll := limbs_len xs
      rw [HL.out] at hll
      obtain ⟨ys, hys⟩ : ∃ ys, dig B32 n = ys := ⟨_, rfl⟩
      have hneat := neat_dig b32_two n
      have hor : limbs xs = ys ∨ limbs xs = ys ++ [0] := by rw [← hys, ← HXS.out]; exact limbs_dig n
      rw [hys] at hneat
      have hmk : m = 2 * k := hm
      rw [← hmk] at hown ⊢
      have hread : wr.ownsRow w.heap.size 56 1 (.slice (some ⟨w.heap.size, 0, none⟩) m m) (limbs xs).length (ints .u32 (limbs xs)) := by rw [hll, ← hm]; exact hown
      obtain ⟨A', c', hsl, hcl, hnum⟩ := own_reads hread
      have HYS := Lib.hid hys
      have HLL := Lib.hid hll
      have HOWN := Lib.hid hown
      clear hread hown hys hmk
      by_cases hm0 : m = 0
      · have hy0 : ys = [] := by
          rcases hor with h | h
          · exact List.eq_nil_of_length_eq_zero (by rw [← h, HLL.out]; omega)
          · have := congrArg List.length h
            rw [HLL.out] at this; simp at this; omega
        have HY0 := Lib.hid hy0
        have HM0 := Lib.hid hm0
        have HOR := Lib.hid hor
        have hp : ¬ 0 < m := by omega
        clear hy0 hor hsl hnum hm0 hm hll
        go_wp2
        go_ret
        refine ⟨_, rfl, ?_, hbl⟩
        have h2 := HOWN.out
        have hl0 : limbs xs = [] := List.eq_nil_of_length_eq_zero (by rw [HLL.out]; have := HM.out; have := HM0.out; omega)
        unfold OwnL
        rw [HYS.out, HY0.out]
        rw [hl0, HM0.out] at h2
        rw [HM0.out]
        exact h2
      · have hlm : m - 1 < (limbs xs).length := by rw [hll]; omega
        obtain ⟨g, off, u, hA', hg, hu, hcu⟩ := hnum.at_ hlm
        rw [hA'] at hsl
        injection hsl with e1 e2 e3
        injection e1 with e1
        injection e1 with e4 e5 e6
        subst e4 e5
        rw [Nat.zero_add] at hcu
        have hmu : (m : Int) - 1 = ((m - 1 : Nat) : Int) := by omega
        have HMU := Lib.hid hmu
        have hp : 0 < m := by omega
        by_cases hu0 : u = 0
        · have hq0 : ((u : Int) == 0) = true := by simp [hu0]
          have hys' : limbs xs = ys ++ [0] := by
            rcases hor with h | h
            · exfalso
              rw [h] at hu hlm
              have := (neat_iff ys).1 hneat (by omega)
              have hlen : ys.length = m := by rw [← h, hll]; omega
              have h3 := (List.getElem?_eq_some_iff.1 hu).2
              simp only [hlen] at this
              exact this (h3.trans hu0)
            · exact h
          have hyl : ys.length = m - 1 := by
            have := congrArg List.length hys'
            rw [hll] at this; simp at this; omega
          have HY := Lib.hid hys'
          have HYL := Lib.hid hyl
          have HU := Lib.hid hu
          have HE := Lib.hid e3
          have HU0 := Lib.hid hu0
          have HOR := Lib.hid hor
          clear hys' hyl hu e3 hu0 hor hmu hm hll e2 hA' hnum hm0
          go_wp2
          go_ret
          refine ⟨_, rfl, ?_, hbl⟩
          have h2 := own_cut HOWN.out (m - 1) (by omega)
          unfold OwnL
          rw [HYS.out, HYL.out]
          rw [HY.out] at h2
          have h3 : (ints .u32 (ys ++ [0])).take (m - 1) = ints .u32 ys := by
            simp only [ints, List.map_append]
            rw [List.take_left']
            simp [HYL.out]
          rw [h3] at h2
          exact h2
        · have hq0 : ((u : Int) == 0) = false := by simp [hu0]
          have hys' : limbs xs = ys := by
            rcases hor with h | h
            · exact h
            · exfalso
              have hlen : ys.length + 1 = m := by have := congrArg List.length h; rw [hll] at this; simp at this; omega
              rw [h, List.getElem?_append_right (by omega), show m - 1 - ys.length = 0 by omega] at hu
              simp at hu
              exact hu0 hu.symm
          have hyl : ys.length = m := by rw [← hys', hll]; omega
          have HY := Lib.hid hys'
          have HYL := Lib.hid hyl
          have HU := Lib.hid hu
          have HE := Lib.hid e3
          have HU0 := Lib.hid hu0
          have HOR := Lib.hid hor
          clear hys' hyl hu e3 hu0 hor hmu hm hll e2 hA' hnum hm0
          go_wp2
          go_ret
          refine ⟨_, rfl, ?_, hbl⟩
          have h2 := HOWN.out
          unfold OwnL
          rw [HYS.out, HYL.out]
          rw [HY.out] at h2
          exact h2
end Go.Proofs.Ytaegkhdkhgemmaa
