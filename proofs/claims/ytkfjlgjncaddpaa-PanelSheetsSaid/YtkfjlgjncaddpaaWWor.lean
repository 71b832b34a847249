/- Worth, Counts and Waste of a plan. -/
import Derived.Test.YtkfjlgjncaddpaaWLay
import Derived.Test.YtkfjlgjncaddpaaRdl
namespace Go.Proofs.Ytkfjlgjncaddpaa
open Go.RowKit

theorem own_slice {B T k n : Nat} {w : World} {v : Value} {vs : List Value} (h : w.ownsRow B T k v n vs) : ∃ A3 c3, v = .slice A3 n c3 ∧ Vals w A3 vs := by
  by_cases hv : v = .slice none 0 0
  · subst hv
    obtain ⟨h1, ⟨_, h2⟩ | ⟨g, cap, cur, e, _⟩⟩ := h
    · subst h2
      have : vs = [] := List.eq_nil_of_length_eq_zero (by omega)
      subst this
      exact ⟨_, _, rfl, Vals.nil⟩
    · injection e with e; cases e
  · obtain ⟨g, cap, e, _, _, _, hv⟩ := (own_hd h hv).vals
    exact ⟨_, _, e, hv⟩
abbrev PcAt (w : World) (A : Option Addr) (l : List Pc) : Prop := Vals w A (pcs l)
theorem PcAt.at_ {w : World} {A : Option Addr} {l : List Pc} (h : PcAt w A l) {i : Nat} (hi : i < l.length) :
    ∃ g off, A = some ⟨g, off, none⟩ ∧ g < w.heap.size ∧ w.cell? ⟨g, off + i * 5, none⟩ = some (.int .i64 (l.getD i pc0).x) ∧ w.cell? ⟨g, off + i * 5 + 1, none⟩ = some (.int .i64 (l.getD i pc0).y) ∧ w.cell? ⟨g, off + i * 5 + 2, none⟩ = some (.int .i64 (l.getD i pc0).w) ∧ w.cell? ⟨g, off + i * 5 + 3, none⟩ = some (.int .i64 (l.getD i pc0).h) ∧ w.cell? ⟨g, off + i * 5 + 4, none⟩ = some (.int .i64 (l.getD i pc0).s) := by
  have ht : l[i]? = some (l.getD i pc0) := by rw [List.getD_eq_getElem?_getD, List.getElem?_eq_getElem hi]; rfl
  obtain ⟨g, off, e, hg, hc⟩ := h (by rw [pcs_len]; omega)
  have hc2 : ∀ (a b : Nat) (v : Value), (pcs l)[a + b]? = some v → w.cell? ⟨g, off + a + b, none⟩ = some v := fun a b v hv => by rw [Nat.add_assoc off]; exact hc _ _ hv
  refine ⟨g, off, e, hg, hc _ _ ?_, hc2 _ _ _ ?_, hc2 _ _ _ ?_, hc2 _ _ _ ?_, hc2 _ _ _ ?_⟩
  · have := flat_at pcC_len ht (j := 0) (by omega); simpa [pcs, pcC] using this
  · have := flat_at pcC_len ht (j := 1) (by omega); simpa [pcs, pcC] using this
  · have := flat_at pcC_len ht (j := 2) (by omega); simpa [pcs, pcC] using this
  · have := flat_at pcC_len ht (j := 3) (by omega); simpa [pcs, pcC] using this
  · have := flat_at pcC_len ht (j := 4) (by omega); simpa [pcs, pcC] using this
theorem pmem {l : List Pc} {m : Nat} (h : m < l.length) : l.getD m pc0 ∈ l := by
  rw [List.getD_eq_getElem?_getD, List.getElem?_eq_getElem h]
  exact List.getElem_mem h
/-- What is known of the pieces of a plan. -/
theorem lay_known {k : Nat} {ss : List Sh} {i j : Nat} {l : List Cu} {ps : List Pc} (h : lay k ss i j l = some ps) : (∃ u, rdF k ss (i + j) 0 0 i j l = some u ∧ u.1 = ps) ∧ (∀ t ∈ ps, PcOk ss 0 0 i j t) ∧ ps.length ≤ l.length := by
  unfold lay at h
  obtain ⟨u, hu, h⟩ := Option.bind_eq_some_iff.1 h
  split at h
  · simp only [Option.some.injEq] at h
    subst h
    have := rdF_len _ _ _ _ _ _ _ hu
    exact ⟨⟨u, hu, rfl⟩, rd_pcs (by omega) _ _ _ _ _ _ _ hu, by omega⟩
  · cases h
/-- A plan's value by a function of its pieces, or its error. -/
def RedPost (z : Value) (F : List Pc → Nat → Nat → Value) (W H K : Int) (ss : List Sh) (l : List Cu) (w : World) (e : Ending) (w' : World) : Prop :=
  Below w.heap.size w w' ∧ ((okP W H K ss = false ∧ e = .returned (.tuple #[z, .int .i64 1])) ∨
    ∃ i j k : Nat, W = (i : Int) ∧ H = (j : Int) ∧ K = (k : Int) ∧ okP W H K ss = true ∧
      ((lay k ss i j l = none ∧ e = .returned (.tuple #[z, .int .i64 2])) ∨
        ∃ ps, lay k ss i j l = some ps ∧ e = .returned (.tuple #[F ps i j, .int .i64 0])))
def vOf (ss : List Sh) (t : Pc) : Int := (ss.getD t.s.toNat sh0).v
def aOf (t : Pc) : Int := t.w * t.h
set_option maxHeartbeats 4000000 in
set_option maxRecDepth 100000 in
theorem worth_any (W H K : Int) (A A2 : Option Addr) (cp L c2 M : Nat) (ss : List Sh) (l : List Cu) (w : World) (hA : ShAt w A ss) (hL : L = ss.length) (hLs : L ≤ 1000000) (hA2 : CuAt w A2 l) (hM : M = l.length) (hc : M ≤ c2) (hnil : A2 = none → c2 = 0) (hcm : c2 ≤ maxLen) (hMs : M ≤ 100000) :
    Calls Try.prog 27 #[.int .i64 W, .int .i64 H, .int .i64 K, .slice A L cp, .slice A2 M c2] w (RedPost (.int .i64 0) (fun ps _ _ => .int .i64 (sumP (vOf ss) ps)) W H K ss l w) := by
  have hly := layout_any W H K A A2 cp L c2 M ss l w hA hL hLs hA2 hM hc hnil hcm hMs
  unfold LayPost at hly
  have HA := Lib.hid hA
  have HL := Lib.hid hL
  have HML := Lib.hid hM
  clear hA hL hA2 hM
  cases hok : okP W H K ss with
  | false =>
    have HLY : Hid (Calls Try.prog 28 #[.int .i64 W, .int .i64 H, .int .i64 K, .slice A L cp, .slice A2 M c2] w fun e w' => e = .returned (.tuple #[.slice none 0 0, .int .i64 1]) ∧ Below w.heap.size w w') := Lib.hid (hly.mono fun e w' ⟨hb, h1⟩ => by
      rcases h1 with ⟨_, h2⟩ | ⟨_, _, _, _, _, _, h2, _⟩
      · exact ⟨h2, hb⟩
      · rw [hok] at h2; cases h2)
    have HOK := Lib.hid hok
    clear hly hok
    go_enter Try.func27, Try.ntmps27
    go_wp2_with (go_at_call 28; (with_reducible refine (HLY.out).mono ?_); rintro e w1 ⟨rfl, hb1⟩)
    go_ret2
    exact ⟨hb1, .inl ⟨HOK.out, rfl⟩⟩
  | true =>
    obtain ⟨i, j, k, rfl, rfl, rfl, hi1, hi, hj1, hj, hk, hlen, hoks⟩ := okP_ok hok
    have HOK := Lib.hid hok
    cases hl : lay k ss i j l with
    | none =>
      have HLY : Hid (Calls Try.prog 28 #[.int .i64 (i : Int), .int .i64 (j : Int), .int .i64 (k : Int), .slice A L cp, .slice A2 M c2] w fun e w' => e = .returned (.tuple #[.slice none 0 0, .int .i64 2]) ∧ Below w.heap.size w w') := Lib.hid (hly.mono fun e w' ⟨hb, h1⟩ => by
        rcases h1 with ⟨h2, _⟩ | ⟨i', j', k', q1, q2, q3, _, ⟨_, h2⟩ | ⟨ps, vp, h2, _⟩⟩
        · rw [hok] at h2; cases h2
        · exact ⟨h2, hb⟩
        · obtain rfl : i = i' := by omega
          obtain rfl : j = j' := by omega
          obtain rfl : k = k' := by omega
          rw [hl] at h2; cases h2)
      have HLN := Lib.hid hl
      clear hly hok hl
      go_enter Try.func27, Try.ntmps27
      go_wp2_with (go_at_call 28; (with_reducible refine (HLY.out).mono ?_); rintro e w1 ⟨rfl, hb1⟩)
      go_ret2
      exact ⟨hb1, .inr ⟨i, j, k, rfl, rfl, rfl, HOK.out, .inl ⟨HLN.out, rfl⟩⟩⟩
    | some ps =>
      have HLY : Hid (Calls Try.prog 28 #[.int .i64 (i : Int), .int .i64 (j : Int), .int .i64 (k : Int), .slice A L cp, .slice A2 M c2] w fun e w' => ∃ A3 c3, e = .returned (.tuple #[.slice A3 ps.length c3, .int .i64 0]) ∧ PcAt w' A3 ps ∧ Below w.heap.size w w') := Lib.hid (hly.mono fun e w' ⟨hb, h1⟩ => by
        rcases h1 with ⟨h2, _⟩ | ⟨i', j', k', q1, q2, q3, _, ⟨h2, _⟩ | ⟨ps', vp, h2, h3, h4⟩⟩
        · rw [hok] at h2; cases h2
        · obtain rfl : i = i' := by omega
          obtain rfl : j = j' := by omega
          obtain rfl : k = k' := by omega
          rw [hl] at h2; cases h2
        · obtain rfl : i = i' := by omega
          obtain rfl : j = j' := by omega
          obtain rfl : k = k' := by omega
          rw [hl] at h2
          injection h2 with h2
          subst h2
          obtain ⟨A3, c3, rfl, hv⟩ := own_slice h4
          exact ⟨A3, c3, h3, hv, hb⟩)
      obtain ⟨_, hpo, hpl⟩ := lay_known hl
      have HLN := Lib.hid hl
      have HPO := Lib.hid hpo
      obtain ⟨N, hN⟩ : ∃ N, N = ps.length := ⟨_, rfl⟩
      have hN5 : N ≤ 100000 := by have := HML.out; omega
      rw [← hN] at HLY
      have HN := Lib.hid hN
      have HOKS := Lib.hid hoks
      have HLEN : Hid (ss.length ≤ 16) := Lib.hid hlen
      have HBD : Hid (∀ m, m < N → ∃ q : Nat, (ps.getD m pc0).s = (q : Int) ∧ q < ss.length ∧ 0 ≤ (ss.getD q sh0).v ∧ (ss.getD q sh0).v ≤ 1000000 ∧ vOf ss (ps.getD m pc0) = (ss.getD q sh0).v) := Lib.hid fun m hm => by
        obtain ⟨q, h1, h2, _⟩ := (HPO.out _ (pmem (by omega : m < ps.length))).sh
        obtain ⟨_, _, _, _, h3, h4⟩ := hoks _ (getD_mem h1)
        exact ⟨q, h2, h1, h3, h4, by unfold vOf; rw [h2, Int.toNat_natCast]⟩
      have HSB : Hid (∀ m, m ≤ N → 0 ≤ sumP (vOf ss) (ps.take m) ∧ sumP (vOf ss) (ps.take m) ≤ 1000000 * 100000) := Lib.hid fun m hm => by
        have hb : ∀ t ∈ ps.take m, 0 ≤ vOf ss t ∧ vOf ss t ≤ 1000000 := fun t ht => by
          obtain ⟨q, h1, h2, _⟩ := (HPO.out t (List.mem_of_mem_take ht)).sh
          obtain ⟨_, _, _, _, h3, h4⟩ := hoks _ (getD_mem h1)
          unfold vOf
          rw [h2, Int.toNat_natCast]
          exact ⟨h3, h4⟩
        have := sumP_bound (vOf ss) hb
        have h5 : (ps.take m).length ≤ 100000 := by rw [List.length_take]; omega
        have h6 : (1000000 : Int) * (ps.take m).length ≤ 1000000 * 100000 := by omega
        omega
      clear hly hok hl hpo hpl hN hoks hlen
      go_enter Try.func27, Try.ntmps27
      go_upto_region 2 with (go_at_call 28; (with_reducible refine (HLY.out).mono ?_); rintro e w1 ⟨A3, c3, rfl, hpa, hb1⟩)
      have HPA := Lib.hid hpa
      have HB1 := Lib.hid hb1
      have HA1 := Lib.hid (HA.out.keep hb1)
      clear hpa hb1 HLY HA
      go_upto_region 6 with (fail)
      go_loopw [31, 14, 16] (fun t s _ wr => ∃ m : Nat, m ≤ N ∧ t = .int .i64 (m : Int) ∧ s = .int .i64 (sumP (vOf ss) (ps.take m)) ∧ Hid (Below w1.heap.size w1 wr)) (fun t _ _ _ => N - (intOf t).toNat)
      case atStart => exact ⟨0, Nat.zero_le _, rfl, rfl, Lib.hid (Below.refl _ _)⟩
      case round =>
        obtain ⟨m, hm, rfl, rfl, HB⟩ := hrel
        by_cases hlt : m < N
        · have hlt2 : (m : Int) < (N : Int) := by omega
          obtain ⟨q, e1, e2, e3, e4, e5⟩ := HBD.out m hlt
          have hsb := HSB.out m hm
          have hnx : sumP (vOf ss) (ps.take (m + 1)) = sumP (vOf ss) (ps.take m) + (ss.getD q sh0).v := by rw [sumP_take _ (by have := HN.out; omega), e5]
          obtain ⟨g, off, eA, hg, c0, c1, c2, c3, c4⟩ := PcAt.at_ (HPA.out.keep HB.out) (i := m) (by have := HN.out; omega)
          obtain ⟨g2, off2, eA2, hg2, d0, d1, d2, d3⟩ := ShAt.at_ (HA1.out.keep HB.out) e2
          subst eA eA2
          rw [e1] at c4
          have HNX := Lib.hid hnx
          have hq : (q : Int) < (L : Int) := by have := HL.out; omega
          generalize (ps.getD m pc0).x = px at *
          generalize (ps.getD m pc0).y = py at *
          generalize (ps.getD m pc0).w = pw at *
          generalize (ps.getD m pc0).h = ph at *
          generalize (ss.getD q sh0).v = sv at *
          generalize sumP (vOf ss) (ps.take m) = S at *
          have hwr : IntKind.i64.wrap (S + sv) = S + sv := wrapI (by omega) (by omega)
          have hbn := below_new wr (.cells #[.int .i64 px, .int .i64 py, .int .i64 pw, .int .i64 ph, .int .i64 (q : Int)] 53)
          have d2' := (hbn.cell (p := ⟨g2, off2 + q * 4 + 2, none⟩) hg2).trans d2
          have HBN := Lib.hid (below_on HB.out HB.out.size hbn)
          clear d0 d1 d3 e1 e5 hnx hbn
          go_wp2_with (fail)
          go_roundw
          case rel => exact ⟨m + 1, by omega, by go_num, by rw [HNX.out], HBN⟩
          case measure => simp [intOf]; omega
        · obtain rfl : m = N := by omega
          have hlt2 : ¬ (m : Int) < (m : Int) := by omega
          go_wp2
          go_ret2
          refine ⟨below_on HB1.out HB1.out.size HB.out, .inr ⟨i, j, k, rfl, rfl, rfl, HOK.out, .inr ⟨ps, HLN.out, ?_⟩⟩⟩
          rw [HN.out, List.take_length]
          rfl
end Go.Proofs.Ytkfjlgjncaddpaa
