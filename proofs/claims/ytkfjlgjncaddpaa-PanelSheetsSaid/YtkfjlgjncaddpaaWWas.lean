/- Waste and Counts of a plan. -/
import Derived.Test.YtkfjlgjncaddpaaWWor
import Derived.Test.YtkfjlgjncaddpaaWTbl
namespace Go.Proofs.Ytkfjlgjncaddpaa
open Go.RowKit

theorem area_bd {ss : List Sh} {i j : Nat} (hi : i ≤ 64) (hj : j ≤ 64) {t : Pc} (h : PcOk ss 0 0 i j t) : 0 ≤ t.w ∧ t.w ≤ 64 ∧ 0 ≤ t.h ∧ t.h ≤ 64 ∧ 0 ≤ aOf t ∧ aOf t ≤ 4096 := by
  obtain ⟨_, h1, h2⟩ := h
  have e1 : t.w * t.h ≤ 64 * 64 := Int.mul_le_mul (by omega) (by omega) (by omega) (by omega)
  have e2 : 0 ≤ t.w * t.h := Int.mul_nonneg (by omega) (by omega)
  unfold aOf
  omega
set_option maxHeartbeats 4000000 in
set_option maxRecDepth 100000 in
theorem waste_any (W H K : Int) (A A2 : Option Addr) (cp L c2 M : Nat) (ss : List Sh) (l : List Cu) (w : World) (hA : ShAt w A ss) (hL : L = ss.length) (hLs : L ≤ 1000000) (hA2 : CuAt w A2 l) (hM : M = l.length) (hc : M ≤ c2) (hnil : A2 = none → c2 = 0) (hcm : c2 ≤ maxLen) (hMs : M ≤ 100000) :
    Calls Try.prog 30 #[.int .i64 W, .int .i64 H, .int .i64 K, .slice A L cp, .slice A2 M c2] w (RedPost (.int .i64 0) (fun ps i j => .int .i64 ((i : Int) * j - sumP aOf ps)) W H K ss l w) := by
  have hly := layout_any W H K A A2 cp L c2 M ss l w hA hL hLs hA2 hM hc hnil hcm hMs
  unfold LayPost at hly
  have HA := Lib.hid hA
  have HL := Lib.hid hL
  have HML := Lib.hid hM
  clear hA hL hA2 hM
  cases hok : okP W H K ss with
  | false =>
    have HLY : Hid (Calls Try.prog 28 #[.int .i64 W, .int .i64 H, .int .i64 K, .slice A L cp, .slice A2 M c2] w fun e w' => e = .returned (.tuple #[.slice none 0 0, .int .i64 1]) ∧ Below w.heap.size w w') := Lib.hid (hly.mono fun e w' ⟨hb, h1⟩ => by
      rcases h1 with ⟨_, h2⟩ | ⟨_, _, _, _, _, _, h2, _⟩
      · exact ⟨h2, hb⟩
      · rw [hok] at h2; cases h2)
    have HOK := Lib.hid hok
    clear hly hok
    go_enter Try.func30, Try.ntmps30
    go_wp2_with (go_at_call 28; (with_reducible refine (HLY.out).mono ?_); rintro e w1 ⟨rfl, hb1⟩)
    go_ret2
    exact ⟨hb1, .inl ⟨HOK.out, rfl⟩⟩
  | true =>
    obtain ⟨i, j, k, rfl, rfl, rfl, hi1, hi, hj1, hj, hk, hlen, hoks⟩ := okP_ok hok
    have HOK := Lib.hid hok
    cases hl : lay k ss i j l with
    | none =>
      have HLY : Hid (Calls Try.prog 28 #[.int .i64 (i : Int), .int .i64 (j : Int), .int .i64 (k : Int), .slice A L cp, .slice A2 M c2] w fun e w' => e = .returned (.tuple #[.slice none 0 0, .int .i64 2]) ∧ Below w.heap.size w w') := Lib.hid (hly.mono fun e w' ⟨hb, h1⟩ => by
        rcases h1 with ⟨h2, _⟩ | ⟨i', j', k', q1, q2, q3, _, ⟨_, h2⟩ | ⟨ps, vp, h2, _⟩⟩
        · rw [hok] at h2; cases h2
        · exact ⟨h2, hb⟩
        · obtain rfl : i = i' := by omega
          obtain rfl : j = j' := by omega
          obtain rfl : k = k' := by omega
          rw [hl] at h2; cases h2)
      have HLN := Lib.hid hl
      clear hly hok hl
      go_enter Try.func30, Try.ntmps30
      go_wp2_with (go_at_call 28; (with_reducible refine (HLY.out).mono ?_); rintro e w1 ⟨rfl, hb1⟩)
      go_ret2
      exact ⟨hb1, .inr ⟨i, j, k, rfl, rfl, rfl, HOK.out, .inl ⟨HLN.out, rfl⟩⟩⟩
    | some ps =>
      have HLY : Hid (Calls Try.prog 28 #[.int .i64 (i : Int), .int .i64 (j : Int), .int .i64 (k : Int), .slice A L cp, .slice A2 M c2] w fun e w' => ∃ A3 c3, e = .returned (.tuple #[.slice A3 ps.length c3, .int .i64 0]) ∧ PcAt w' A3 ps ∧ Below w.heap.size w w') := Lib.hid (hly.mono fun e w' ⟨hb, h1⟩ => by
        rcases h1 with ⟨h2, _⟩ | ⟨i', j', k', q1, q2, q3, _, ⟨h2, _⟩ | ⟨ps', vp, h2, h3, h4⟩⟩
        · rw [hok] at h2; cases h2
        · obtain rfl : i = i' := by omega
          obtain rfl : j = j' := by omega
          obtain rfl : k = k' := by omega
          rw [hl] at h2; cases h2
        · obtain rfl : i = i' := by omega
          obtain rfl : j = j' := by omega
          obtain rfl : k = k' := by omega
          rw [hl] at h2
          injection h2 with h2
          subst h2
          obtain ⟨A3, c3, rfl, hv⟩ := own_slice h4
          exact ⟨A3, c3, h3, hv, hb⟩)
      obtain ⟨_, hpo, hpl⟩ := lay_known hl
      have HLN := Lib.hid hl
      have HPO := Lib.hid hpo
      obtain ⟨N, hN⟩ : ∃ N, N = ps.length := ⟨_, rfl⟩
      have hN5 : N ≤ 100000 := by have := HML.out; omega
      rw [← hN] at HLY
      have HN := Lib.hid hN
      have HOKS := Lib.hid hoks
      have HLEN : Hid (ss.length ≤ 16) := Lib.hid hlen
      have HBD : Hid (∀ m, m < N → 0 ≤ (ps.getD m pc0).w ∧ (ps.getD m pc0).w ≤ 64 ∧ 0 ≤ (ps.getD m pc0).h ∧ (ps.getD m pc0).h ≤ 64 ∧ 0 ≤ aOf (ps.getD m pc0) ∧ aOf (ps.getD m pc0) ≤ 4096) := Lib.hid fun m hm => area_bd hi hj (HPO.out _ (pmem (by omega : m < ps.length)))
      have HSB : Hid (∀ m, m ≤ N → 0 ≤ sumP aOf (ps.take m) ∧ sumP aOf (ps.take m) ≤ 4096 * 100000) := Lib.hid fun m hm => by
        have hb : ∀ t ∈ ps.take m, 0 ≤ aOf t ∧ aOf t ≤ 4096 := fun t ht => (area_bd hi hj (HPO.out t (List.mem_of_mem_take ht))).2.2.2.2
        have := sumP_bound aOf hb
        have h5 : (ps.take m).length ≤ 100000 := by rw [List.length_take]; omega
        have h6 : (4096 : Int) * (ps.take m).length ≤ 4096 * 100000 := by omega
        omega
      have hij : 0 ≤ (i : Int) * j ∧ (i : Int) * j ≤ 4096 := ⟨Int.mul_nonneg (by omega) (by omega), by have : (i : Int) * j ≤ 64 * 64 := Int.mul_le_mul (by omega) (by omega) (by omega) (by omega); omega⟩
      have hwij : IntKind.i64.wrap ((i : Int) * j) = (i : Int) * j := wrapI (by omega) (by omega)
      clear hly hok hl hpo hpl hN hoks hlen
      go_enter Try.func30, Try.ntmps30
      go_upto_region 2 with (go_at_call 28; (with_reducible refine (HLY.out).mono ?_); rintro e w1 ⟨A3, c3, rfl, hpa, hb1⟩)
      have HPA := Lib.hid hpa
      have HB1 := Lib.hid hb1
      have HA1 := Lib.hid (HA.out.keep hb1)
      clear hpa hb1 HLY HA
      go_upto_region 6 with (fail)
      generalize hA0 : (i : Int) * j = a0 at *
      have HA0 := Lib.hid hA0
      clear hA0
      go_loopw [34, 14, 16] (fun t s _ wr => ∃ m : Nat, m ≤ N ∧ t = .int .i64 (m : Int) ∧ s = .int .i64 (a0 - sumP aOf (ps.take m)) ∧ Hid (Below w1.heap.size w1 wr)) (fun t _ _ _ => N - (intOf t).toNat)
      case atStart => exact ⟨0, Nat.zero_le _, rfl, by simp [sumP], Lib.hid (Below.refl _ _)⟩
      case round =>
        obtain ⟨m, hm, rfl, rfl, HB⟩ := hrel
        by_cases hlt : m < N
        · have hlt2 : (m : Int) < (N : Int) := by omega
          obtain ⟨e1, e2, e3, e4, e5, e6⟩ := HBD.out m hlt
          have hsb := HSB.out m hm
          have hnx : sumP aOf (ps.take (m + 1)) = sumP aOf (ps.take m) + aOf (ps.getD m pc0) := by rw [sumP_take _ (by have := HN.out; omega)]
          obtain ⟨g, off, eA, hg, c0, c1, c2, c3, c4⟩ := PcAt.at_ (HPA.out.keep HB.out) (i := m) (by have := HN.out; omega)
          subst eA
          unfold aOf at hnx e5 e6
          generalize (ps.getD m pc0).x = px at *
          generalize (ps.getD m pc0).y = py at *
          generalize (ps.getD m pc0).w = pw at *
          generalize (ps.getD m pc0).h = ph at *
          generalize (ps.getD m pc0).s = pq at *
          have hw1 : IntKind.i64.wrap (pw * ph) = pw * ph := wrapI (by omega) (by omega)
          change sumP aOf (ps.take (m + 1)) = sumP aOf (ps.take m) + pw * ph at hnx
          obtain ⟨S, hS⟩ : ∃ S, S = sumP aOf (ps.take m) := ⟨_, rfl⟩
          rw [← hS] at hsb hnx ⊢
          have hwr : IntKind.i64.wrap (a0 - S - pw * ph) = a0 - S - pw * ph := wrapI (by omega) (by omega)
          have HNX := Lib.hid (show a0 - sumP aOf (ps.take (m + 1)) = a0 - S - pw * ph by omega)
          have HBN := Lib.hid (below_on HB.out HB.out.size (below_new wr (.cells #[.int .i64 px, .int .i64 py, .int .i64 pw, .int .i64 ph, .int .i64 pq] 53)))
          clear hnx hS
          go_wp2_with (fail)
          go_roundw
          case rel => exact ⟨m + 1, by omega, by go_num, by rw [HNX.out], HBN⟩
          case measure => simp [intOf]; omega
        · obtain rfl : m = N := by omega
          have hlt2 : ¬ (m : Int) < (m : Int) := by omega
          go_wp2
          go_ret2
          refine ⟨below_on HB1.out HB1.out.size HB.out, .inr ⟨i, j, k, rfl, rfl, rfl, HOK.out, .inr ⟨ps, HLN.out, ?_⟩⟩⟩
          rw [HN.out, List.take_length]
          show _ = Ending.returned (Value.tuple #[.int .i64 ((i : Int) * j - sumP aOf ps), .int .i64 0])
          rw [HA0.out]
          rfl

/-- How often a shape is cut. -/
def cntN (l : List Pc) (q : Nat) : Int := sumP (fun t => if t.s = (q : Int) then 1 else 0) l
theorem cntN_le (l : List Pc) (q : Nat) : 0 ≤ cntN l q ∧ cntN l q ≤ l.length := by
  have := sumP_bound (fun t : Pc => if t.s = (q : Int) then (1 : Int) else 0) (l := l) (lo := 0) (hi := 1) (fun t _ => by split <;> omega)
  unfold cntN
  omega
theorem cntN_step {ps : List Pc} {m q : Nat} (h : m < ps.length) (e : (ps.getD m pc0).s = (q : Int)) : cntN (ps.take (m + 1)) = upd (cntN (ps.take m)) q (cntN (ps.take m) q + 1) := by
  funext r
  have h1 : cntN (ps.take (m + 1)) r = cntN (ps.take m) r + (if (ps.getD m pc0).s = (r : Int) then 1 else 0) := sumP_take _ h
  rw [h1, e]
  by_cases hr : r = q
  · subst hr
    rw [upd_at, if_pos rfl]
  · rw [upd_ne hr, if_neg (by omega)]
    omega
structure CntM (B : Nat) (w1 wr : World) (L : Nat) (f : Nat → Int) : Prop where
  bx : Blk 3 wr B (fl f L)
  bel : Below B w1 wr
  old : w1.heap.size ≤ B
theorem CntM.keep {B : Nat} {w1 wr wr' : World} {L : Nat} {f : Nat → Int} (h : CntM B w1 wr L f) (hb : Below wr.heap.size wr wr') : CntM B w1 wr' L f :=
  ⟨h.bx.keep hb, below_on h.bel (Nat.le_of_lt h.bx.lt) hb, h.old⟩
theorem CntM.set {B : Nat} {w1 wr : World} {L : Nat} {f : Nat → Int} (h : CntM B w1 wr L f) (q : Nat) (v : Int) : CntM B w1 (wr.setCell ⟨B, q, none⟩ (.int .i64 v)) L (upd f q v) :=
  ⟨h.bx.setI q v, below_set h.bel (Nat.le_refl B) _, h.old⟩
theorem cnt_start (w : World) (L : Nat) (ps : List Pc) : CntM w.heap.size w (w.alloc (.cells (Array.replicate L (.int .i64 0)) 3)) L (cntN (ps.take 0)) := by
  refine ⟨?_, below_new w _, Nat.le_refl _⟩
  have e : fl (cntN (ps.take 0)) L = List.replicate L (.int .i64 0) := by
    rw [← fl_const]
    exact fl_congr (fun y _ => by simp [cntN, sumP])
  rw [e]
  have := Blk.new w 3 (List.replicate L (.int .i64 0))
  simpa using this
def CntPost (W H K : Int) (ss : List Sh) (L : Nat) (l : List Cu) (w : World) (e : Ending) (w' : World) : Prop :=
  Below w.heap.size w w' ∧ ((okP W H K ss = false ∧ e = .returned (.tuple #[.slice none 0 0, .int .i64 1])) ∨
    ∃ i j k : Nat, W = (i : Int) ∧ H = (j : Int) ∧ K = (k : Int) ∧ okP W H K ss = true ∧
      ((lay k ss i j l = none ∧ e = .returned (.tuple #[.slice none 0 0, .int .i64 2])) ∨
        ∃ ps g, lay k ss i j l = some ps ∧ e = .returned (.tuple #[.slice (some ⟨g, 0, none⟩) L L, .int .i64 0]) ∧ w.heap.size ≤ g ∧ Blk 3 w' g (fl (cntN ps) L)))
set_option maxHeartbeats 4000000 in
set_option maxRecDepth 100000 in
theorem counts_any (W H K : Int) (A A2 : Option Addr) (cp L c2 M : Nat) (ss : List Sh) (l : List Cu) (w : World) (hA : ShAt w A ss) (hL : L = ss.length) (hLs : L ≤ 1000000) (hA2 : CuAt w A2 l) (hM : M = l.length) (hc : M ≤ c2) (hnil : A2 = none → c2 = 0) (hcm : c2 ≤ maxLen) (hMs : M ≤ 100000) :
    Calls Try.prog 29 #[.int .i64 W, .int .i64 H, .int .i64 K, .slice A L cp, .slice A2 M c2] w (CntPost W H K ss L l w) := by
  have hly := layout_any W H K A A2 cp L c2 M ss l w hA hL hLs hA2 hM hc hnil hcm hMs
  unfold LayPost at hly
  have HA := Lib.hid hA
  have HL := Lib.hid hL
  have HML := Lib.hid hM
  clear hA hL hA2 hM
  cases hok : okP W H K ss with
  | false =>
    have HLY : Hid (Calls Try.prog 28 #[.int .i64 W, .int .i64 H, .int .i64 K, .slice A L cp, .slice A2 M c2] w fun e w' => e = .returned (.tuple #[.slice none 0 0, .int .i64 1]) ∧ Below w.heap.size w w') := Lib.hid (hly.mono fun e w' ⟨hb, h1⟩ => by
      rcases h1 with ⟨_, h2⟩ | ⟨_, _, _, _, _, _, h2, _⟩
      · exact ⟨h2, hb⟩
      · rw [hok] at h2; cases h2)
    have HOK := Lib.hid hok
    clear hly hok
    go_enter Try.func29, Try.ntmps29
    go_wp2_with (go_at_call 28; (with_reducible refine (HLY.out).mono ?_); rintro e w1 ⟨rfl, hb1⟩)
    go_ret2
    exact ⟨hb1, .inl ⟨HOK.out, rfl⟩⟩
  | true =>
    obtain ⟨i, j, k, rfl, rfl, rfl, hi1, hi, hj1, hj, hk, hlen, hoks⟩ := okP_ok hok
    have HOK := Lib.hid hok
    cases hl : lay k ss i j l with
    | none =>
      have HLY : Hid (Calls Try.prog 28 #[.int .i64 (i : Int), .int .i64 (j : Int), .int .i64 (k : Int), .slice A L cp, .slice A2 M c2] w fun e w' => e = .returned (.tuple #[.slice none 0 0, .int .i64 2]) ∧ Below w.heap.size w w') := Lib.hid (hly.mono fun e w' ⟨hb, h1⟩ => by
        rcases h1 with ⟨h2, _⟩ | ⟨i', j', k', q1, q2, q3, _, ⟨_, h2⟩ | ⟨ps, vp, h2, _⟩⟩
        · rw [hok] at h2; cases h2
        · exact ⟨h2, hb⟩
        · obtain rfl : i = i' := by omega
          obtain rfl : j = j' := by omega
          obtain rfl : k = k' := by omega
          rw [hl] at h2; cases h2)
      have HLN := Lib.hid hl
      clear hly hok hl
      go_enter Try.func29, Try.ntmps29
      go_wp2_with (go_at_call 28; (with_reducible refine (HLY.out).mono ?_); rintro e w1 ⟨rfl, hb1⟩)
      go_ret2
      exact ⟨hb1, .inr ⟨i, j, k, rfl, rfl, rfl, HOK.out, .inl ⟨HLN.out, rfl⟩⟩⟩
    | some ps =>
      have HLY : Hid (Calls Try.prog 28 #[.int .i64 (i : Int), .int .i64 (j : Int), .int .i64 (k : Int), .slice A L cp, .slice A2 M c2] w fun e w' => ∃ A3 c3, e = .returned (.tuple #[.slice A3 ps.length c3, .int .i64 0]) ∧ PcAt w' A3 ps ∧ Below w.heap.size w w') := Lib.hid (hly.mono fun e w' ⟨hb, h1⟩ => by
        rcases h1 with ⟨h2, _⟩ | ⟨i', j', k', q1, q2, q3, _, ⟨h2, _⟩ | ⟨ps', vp, h2, h3, h4⟩⟩
        · rw [hok] at h2; cases h2
        · obtain rfl : i = i' := by omega
          obtain rfl : j = j' := by omega
          obtain rfl : k = k' := by omega
          rw [hl] at h2; cases h2
        · obtain rfl : i = i' := by omega
          obtain rfl : j = j' := by omega
          obtain rfl : k = k' := by omega
          rw [hl] at h2
          injection h2 with h2
          subst h2
          obtain ⟨A3, c3, rfl, hv⟩ := own_slice h4
          exact ⟨A3, c3, h3, hv, hb⟩)
      obtain ⟨_, hpo, hpl⟩ := lay_known hl
      have HLN := Lib.hid hl
      have HPO := Lib.hid hpo
      obtain ⟨N, hN⟩ : ∃ N, N = ps.length := ⟨_, rfl⟩
      have hN5 : N ≤ 100000 := by have := HML.out; omega
      rw [← hN] at HLY
      have HN := Lib.hid hN
      have HOKS := Lib.hid hoks
      have HLEN : Hid (ss.length ≤ 16) := Lib.hid hlen
      have HBD : Hid (∀ m, m < N → ∃ q : Nat, (ps.getD m pc0).s = (q : Int) ∧ q < ss.length) := Lib.hid fun m hm => by
        obtain ⟨q, h1, h2, _⟩ := (HPO.out _ (pmem (by omega : m < ps.length))).sh
        exact ⟨q, h2, h1⟩
      have HSB : Hid (∀ m q, m ≤ N → 0 ≤ cntN (ps.take m) q ∧ cntN (ps.take m) q ≤ 100000) := Lib.hid fun m q hm => by
        have := cntN_le (ps.take m) q
        have h5 : (ps.take m).length ≤ 100000 := by rw [List.length_take]; omega
        omega
      have HMK := makeRow L (by have := HL.out; omega)
      clear hly hok hl hpo hpl hN hoks hlen
      go_enter Try.func29, Try.ntmps29
      go_upto_region 2 with (go_at_call 28; (with_reducible refine (HLY.out).mono ?_); rintro e w1 ⟨A3, c3, rfl, hpa, hb1⟩)
      have HPA := Lib.hid hpa
      have HB1 := Lib.hid hb1
      have HA1 := Lib.hid (HA.out.keep hb1)
      clear hpa hb1 HLY HA
      have hq0 : Hid (CntM w1.heap.size w1 (w1.alloc (.cells (Array.replicate L (.int .i64 0)) 3)) L (cntN (ps.take 0))) := Lib.hid (cnt_start w1 L ps)
      obtain ⟨B, hBe⟩ : ∃ B, B = w1.heap.size := ⟨_, rfl⟩
      have hwB : w.heap.size ≤ B := by rw [hBe]; exact HB1.out.size
      go_upto_region 6 with (fail)
      rw [← hBe] at hq0 ⊢
      clear hBe
      generalize w1.alloc (.cells (Array.replicate L (.int .i64 0)) 3) = W2 at *
      go_loopw [34, 16] (fun t _ wr => ∃ m : Nat, m ≤ N ∧ t = .int .i64 (m : Int) ∧ Hid (CntM B w1 wr L (cntN (ps.take m)))) (fun t _ _ => N - (intOf t).toNat)
      case atStart => exact ⟨0, Nat.zero_le _, rfl, hq0⟩
      case round =>
        clear hq0
        obtain ⟨m, hm, rfl, HC⟩ := hrel
        by_cases hlt : m < N
        · have hlt2 : (m : Int) < (N : Int) := by omega
          obtain ⟨q, e1, e2⟩ := HBD.out m hlt
          have hqL : q < L := by have := HL.out; omega
          have hsb := HSB.out m q hm
          have hnx : cntN (ps.take (m + 1)) = upd (cntN (ps.take m)) q (cntN (ps.take m) q + 1) := cntN_step (by have := HN.out; omega) e1
          have hbn := below_new wr (.cells #[.int .i64 (ps.getD m pc0).x, .int .i64 (ps.getD m pc0).y, .int .i64 (ps.getD m pc0).w, .int .i64 (ps.getD m pc0).h, .int .i64 (q : Int)] 53)
          have hk := HC.out.keep hbn
          obtain ⟨g, off, eA, hg, c0, c1, c2, c3, c4⟩ := PcAt.at_ (HPA.out.keep (HC.out.bel.mono HC.out.old)) (i := m) (by have := HN.out; omega)
          subst eA
          rw [e1] at c4
          have k0 : _ = some (Value.int .i64 (cntN (ps.take m) q)) := hk.bx.int hqL
          have kf := hk.bx.frozen q
          have hlB : B < wr.heap.size := HC.out.bx.lt
          have hnB : ¬ B = wr.heap.size := Nat.ne_of_lt hlB
          have hst := (HC.out.set q (cntN (ps.take m) q + 1)).keep (below_new _ (.cells #[.int .i64 (ps.getD m pc0).x, .int .i64 (ps.getD m pc0).y, .int .i64 (ps.getD m pc0).w, .int .i64 (ps.getD m pc0).h, .int .i64 (q : Int)] 53))
          rw [← hnx] at hst
          generalize (ps.getD m pc0).x = px at *
          generalize (ps.getD m pc0).y = py at *
          generalize (ps.getD m pc0).w = pw at *
          generalize (ps.getD m pc0).h = ph at *
          have hql : (q : Int) < (L : Int) := by omega
          have HST := Lib.hid hst
          generalize cntN (ps.take m) q = cq at *
          have hwr : IntKind.i64.wrap (cq + 1) = cq + 1 := wrapI (by omega) (by omega)
          clear hnx hbn hk hst e1 HC
          go_wp2_with (fail)
          go_roundw
          case rel => exact ⟨m + 1, by omega, by go_num, HST⟩
          case measure => simp [intOf]; omega
        · obtain rfl : m = N := by omega
          have hlt2 : ¬ (m : Int) < (m : Int) := by omega
          go_wp2
          go_ret2
          have hf := HC.out
          rw [HN.out, List.take_length] at hf
          refine ⟨below_on HB1.out HB1.out.size (hf.bel.mono hf.old), .inr ⟨i, j, k, rfl, rfl, rfl, HOK.out, .inr ⟨ps, B, HLN.out, rfl, hwB, hf.bx⟩⟩⟩
end Go.Proofs.Ytkfjlgjncaddpaa
