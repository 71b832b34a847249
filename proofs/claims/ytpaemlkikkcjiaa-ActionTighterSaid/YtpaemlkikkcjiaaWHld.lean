/- The reference's At and Holds. -/
import Derived.Test.YtpaemlkikkcjiaaWFew
namespace Go.Proofs.Ytpaemlkikkcjiaa
open Go.RowKit

theorem fl_vals {w : World} {A : Option Addr} {f : Nat → Int} {n : Nat} (h : Vals w A (fl f n)) {i : Nat} (hi : i < n) : ∃ g off, A = some ⟨g, off, none⟩ ∧ g < w.heap.size ∧ w.cell? ⟨g, off + i, none⟩ = some (.int .i64 (f i)) := by
  obtain ⟨g, off, e, hg, hc⟩ := h (by rw [fl_len]; omega)
  exact ⟨g, off, e, hg, hc i _ (fl_at hi)⟩
theorem at_any (A : Option Addr) (c n : Nat) (f : Nat → Int) (a : Int) (w : World) (h : Vals w A (fl f n)) (ha : -1 ≤ a) (ha2 : a ≤ (n : Int) - 1) :
    Calls Try.prog 35 #[.slice A n c, .int .i64 a] w fun e w' => e = .returned (.int .i64 (atX f a)) ∧ w = w' := by
  by_cases h0 : a < 0
  · have e : atX f a = 0 := by unfold atX; rw [if_pos h0]
    rw [e]
    clear h e
    go_enter Try.func35, Try.ntmps35
    go_wp2
    go_ret
    exact ⟨rfl, rfl⟩
  · obtain ⟨k, rfl⟩ : ∃ k : Nat, a = (k : Int) := ⟨a.toNat, by omega⟩
    obtain ⟨g, off, rfl, hg, hc⟩ := fl_vals h (i := k) (by omega)
    have e : atX f (k : Int) = f k := by unfold atX; rw [if_neg h0]; simp
    have hkn : (k : Int) < (n : Int) := by omega
    have hkn2 : k < n := by omega
    rw [e]
    clear h e
    go_enter Try.func35, Try.ntmps35
    go_wp2
    go_ret
    exact ⟨rfl, rfl⟩
theorem vals_heap {w W : World} {A : Option Addr} {vs : List Value} (h : Vals w A vs) (e : W.heap = w.heap) : Vals W A vs := by
  intro hl
  obtain ⟨g, off, ea, hg, hc⟩ := h hl
  refine ⟨g, off, ea, by rw [e]; exact hg, fun i v hv => ?_⟩
  rw [← hc i v hv]
  simp only [World.cell?, e]
def nonB (f : Nat → Int) (n : Nat) : Bool := (List.range n).all fun i => decide (0 ≤ f i)
def tieB (f : Nat → Int) (t : T3) : Bool := decide (t.l ≤ atX f t.b - atX f t.a)
def holdB (n : Nat) (ts : List T3) (f : Nat → Int) : Bool := nonB f n && ts.all (tieB f)
theorem holdB_iff (n : Nat) (ts : List T3) (f : Nat → Int) : holdB n ts f = true ↔ Sol n ts f := by
  unfold holdB nonB Sol Ties tieB
  simp only [Bool.and_eq_true, List.all_eq_true, decide_eq_true_eq, List.mem_range]
theorem nonB_bad {f : Nat → Int} {n i : Nat} (hi : i < n) (h : f i < 0) : nonB f n = false := by
  cases hb : nonB f n
  · rfl
  · have := List.all_eq_true.1 hb i (List.mem_range.2 hi)
    simp at this; omega
theorem nonB_ok {f : Nat → Int} {n : Nat} (h : ∀ i, i < n → 0 ≤ f i) : nonB f n = true := by
  unfold nonB
  rw [List.all_eq_true]
  intro i hi
  simpa using h i (List.mem_range.1 hi)
theorem atX_pos {f : Nat → Int} {n : Nat} {a : Int} (h : ∀ i, i < n → 0 ≤ f i) (h2 : ∀ i, i < n → f i ≤ 9223372036854775807) (h1 : -1 ≤ a) (ha : a ≤ (n : Int) - 1) : 0 ≤ atX f a ∧ atX f a ≤ 9223372036854775807 := by
  unfold atX
  split
  · omega
  · exact ⟨h _ (by omega), h2 _ (by omega)⟩
set_option maxHeartbeats 2000000 in
set_option maxRecDepth 100000 in
theorem holds_any (A A' : Option Addr) (c c' L n : Nat) (ts : List T3) (f : Nat → Int) (w : World) (hA : TiesAt w A ts) (hL : L = ts.length) (hA' : Vals w A' (fl f n)) (hf : ∀ i, i < n → f i ≤ 9223372036854775807) (hn : n ≤ 1000) (hLs : L ≤ 1000)
    (hT : ∀ t, t ∈ ts → -1 ≤ t.a ∧ t.a ≤ (n : Int) - 1 ∧ -1 ≤ t.b ∧ t.b ≤ (n : Int) - 1) :
    Calls Try.prog 50 #[.slice A L c, .slice A' n c'] w fun e w' => e = .returned (.bool (holdB n ts f)) ∧ Below w.heap.size w w' := by
  have HA := Lib.hid hA
  have HA' := Lib.hid hA'
  have HL := Lib.hid hL
  have HF := Lib.hid hf
  have HT := Lib.hid hT
  clear hA hA' hL hf hT
  go_enter Try.func50, Try.ntmps50
  go_wp2_with (fail)
  go_loop [5] (fun t => ∃ i : Nat, i ≤ n ∧ t = .int .i64 (i : Int) ∧ Hid (∀ j, j < i → 0 ≤ f j)) (fun t => n - (intOf t).toNat)
  case atStart => exact ⟨0, Nat.zero_le _, rfl, Lib.hid (fun j hj => by omega)⟩
  case round =>
    obtain ⟨i, hi, rfl, HE⟩ := hrel
    by_cases hlt : i < n
    · obtain ⟨g, off, rfl, hg, hc⟩ := fl_vals HA'.out hlt
      have hlt2 : (i : Int) < (n : Int) := by omega
      by_cases hx : f i < 0
      · have he : holdB n ts f = false := by unfold holdB; rw [nonB_bad hlt hx]; rfl
        have HE2 := Lib.hid he
        clear he
        go_wp2
        go_ret
        exact ⟨by rw [HE2.out]; rfl, Below.refl _ _⟩
      · have HN : Hid (∀ j, j < i + 1 → 0 ≤ f j) := Lib.hid (fun j hj => by
          by_cases e : j = i
          · rw [e]; omega
          · exact HE.out j (by omega))
        go_wp2
        go_round
        case rel => exact ⟨i + 1, by omega, by go_num, HN⟩
        case measure => simp [intOf]; omega
    · obtain rfl : i = n := by omega
      have hnon := nonB_ok HE.out
      have heq : holdB i ts f = ts.all (tieB f) := by unfold holdB; rw [hnon]; rfl
      have HEQ := Lib.hid heq
      clear hnon heq
      go_wp2_with (fail)
      go_loopw [6] (fun t wr => ∃ k z : Nat, k ≤ L ∧ t = .int .i64 (k : Int) ∧ Hid ((ts.take k).all (tieB f) = true) ∧ wr = w.drewN z) (fun t _ => L - (intOf t).toNat)
      case atStart => exact ⟨0, 0, Nat.zero_le _, rfl, Lib.hid (by simp), rfl⟩
      case round =>
        obtain ⟨k, z, hk, rfl, HAL, rfl⟩ := hrel
        by_cases hlt : k < L
        · obtain ⟨t, ht⟩ : ∃ t, ts[k]? = some t := ⟨ts[k]'(by have := HL.out; omega), List.getElem?_eq_getElem _⟩
          obtain ⟨b1, b2, b3, b4⟩ := HT.out t (List.mem_of_getElem? ht)
          obtain ⟨g, off, rfl, hg, c0, c1, c2⟩ := (HA.out).at_ ht
          have hlt2 : (k : Int) < (L : Int) := by omega
          have pa := atX_pos HE.out HF.out b1 b2
          have pb := atX_pos HE.out HF.out b3 b4
          have ca := fun (k : Nat) => at_any A' c' i f t.a (w.drewN k) (Vals.drewN HA'.out k) b1 b2
          have cb := fun (k : Nat) => at_any A' c' i f t.b (w.drewN k) (Vals.drewN HA'.out k) b3 b4
          have htb : tieB f t = decide (t.l ≤ atX f t.b - atX f t.a) := rfl
          have HTK := Lib.hid ht
          have HTB := Lib.hid htb
          have hbad : tieB f t = false → holdB i ts f = false := fun h => by rw [HEQ.out]; exact all_bad HTK.out h
          have hgood : tieB f t = true → (ts.take (k + 1)).all (tieB f) = true := fun h => all_take_succ HAL.out HTK.out h
          have HBD := Lib.hid hbad
          have HGD := Lib.hid hgood
          obtain ⟨ta, tb, tl⟩ := t
          simp only at c0 c1 c2 pa pb ca cb b1 b2 b3 b4 HTB
          generalize atX f ta = xa at *
          generalize atX f tb = xb at *
          have hw : IntKind.i64.wrap (xb - xa) = xb - xa := wrapI (by omega) (by omega)
          have HCA := Lib.hid ca
          have HCB := Lib.hid cb
          clear htb hbad hgood ht ca cb b1 b2 b3 b4 pa pb
          by_cases hcmp : xb - xa < tl
          · have hd : decide (xb - xa < tl) = true := by simpa using hcmp
            have he := HBD.out (by rw [HTB.out]; simp; omega)
            have HE2 := Lib.hid he
            clear he hcmp
            go_wp2_with (fail)
            go_quiet (first
              | (go_at_call 35; (with_reducible refine (HCB.out _).mono ?_); exact fun _ _ ⟨he, hm⟩ => ⟨he, _, hm.symm⟩)
              | (go_at_call 35; (with_reducible refine (HCA.out _).mono ?_); exact fun _ _ ⟨he, hm⟩ => ⟨he, _, hm.symm⟩))
            go_wp2
            go_ret
            exact ⟨by rw [HE2.out]; rfl, by first | exact below_drewN (Below.refl _ _) _ | exact below_drewN (below_drewN (Below.refl _ _) _) _⟩
          · have hd : decide (xb - xa < tl) = false := by simpa using hcmp
            have HN := Lib.hid (HGD.out (by rw [HTB.out]; simp; omega))
            clear hcmp
            go_wp2_with (fail)
            go_quiet (first
              | (go_at_call 35; (with_reducible refine (HCB.out _).mono ?_); exact fun _ _ ⟨he, hm⟩ => ⟨he, _, hm.symm⟩)
              | (go_at_call 35; (with_reducible refine (HCA.out _).mono ?_); exact fun _ _ ⟨he, hm⟩ => ⟨he, _, hm.symm⟩))
            go_wp2_with (fail)
            go_roundw
            case rel => exact ⟨k + 1, _, by omega, by go_num, HN, rfl⟩
            case measure => simp [intOf]; omega
        · obtain rfl : k = L := by omega
          have he : holdB i ts f = true := by
            have h3 := HAL.out
            rw [HL.out, List.take_length] at h3
            rw [HEQ.out]; exact h3
          have HE2 := Lib.hid he
          clear he
          go_wp2
          go_ret
          exact ⟨by rw [HE2.out]; rfl, below_drewN (Below.refl _ _) _⟩
end Go.Proofs.Ytpaemlkikkcjiaa
