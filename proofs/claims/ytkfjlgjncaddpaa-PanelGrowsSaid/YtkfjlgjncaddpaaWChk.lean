/- Which panels are valid. -/
import Derived.Test.YtkfjlgjncaddpaaWSm
namespace Go.Proofs.Ytkfjlgjncaddpaa
open Go.RowKit

def okB (s : Sh) : Bool := inB s.w 1 64 && (inB s.h 1 64 && inB s.v 0 1000000)
def okP (W H K : Int) (ss : List Sh) : Bool := inB W 1 64 && (inB H 1 64 && (inB K 0 8 && (decide (ss.length ≤ 16) && ss.all okB)))
def ckE (W H K : Int) (ss : List Sh) : Int := if okP W H K ss = true then 0 else 1
theorem all_take_succ {α : Type} {f : α → Bool} {l : List α} {k : Nat} {x : α} (h : (l.take k).all f = true) (hx : l[k]? = some x) (hf : f x = true) : (l.take (k + 1)).all f = true := by
  have : l.take (k + 1) = l.take k ++ [x] := by rw [List.take_add_one, hx]; rfl
  rw [this, List.all_append, h]
  simp [hf]
theorem all_bad {α : Type} {f : α → Bool} {l : List α} {k : Nat} {x : α} (hx : l[k]? = some x) (hf : f x = false) : l.all f = false := by
  cases h : l.all f
  · rfl
  · have := List.all_eq_true.1 h x (List.mem_of_getElem? hx)
    rw [hf] at this; cases this
theorem okP_ok {W H K : Int} {ss : List Sh} (h : okP W H K ss = true) : ∃ w h' k : Nat, W = (w : Int) ∧ H = (h' : Int) ∧ K = (k : Int) ∧ 1 ≤ w ∧ w ≤ 64 ∧ 1 ≤ h' ∧ h' ≤ 64 ∧ k ≤ 8 ∧ ss.length ≤ 16 ∧ OkS ss := by
  unfold okP at h
  simp only [Bool.and_eq_true, decide_eq_true_eq] at h
  obtain ⟨h1, h2, h3, h4, h5⟩ := h
  have h1 := inB_t h1
  have h2 := inB_t h2
  have h3 := inB_t h3
  refine ⟨W.toNat, H.toNat, K.toNat, by omega, by omega, by omega, by omega, by omega, by omega, by omega, by omega, h4, fun s hs => ?_⟩
  have := List.all_eq_true.1 h5 s hs
  unfold okB at this
  simp only [Bool.and_eq_true] at this
  obtain ⟨a1, a2, a3⟩ := this
  have a1 := inB_t a1
  have a2 := inB_t a2
  have a3 := inB_t a3
  omega
theorem okP_of {w h' k : Nat} {ss : List Sh} (h1 : 1 ≤ w) (h2 : w ≤ 64) (h3 : 1 ≤ h') (h4 : h' ≤ 64) (h5 : k ≤ 8) (h6 : ss.length ≤ 16) (h7 : OkS ss) : okP w h' k ss = true := by
  unfold okP inB okB
  simp only [Bool.and_eq_true, decide_eq_true_eq, List.all_eq_true]
  refine ⟨by omega, by omega, by omega, h6, fun s hs => ?_⟩
  have := h7 s hs
  unfold inB
  simp only [Bool.and_eq_true, decide_eq_true_eq]
  omega

set_option maxHeartbeats 2000000 in
set_option maxRecDepth 100000 in
theorem check_any (W H K : Int) (A : Option Addr) (c L : Nat) (ss : List Sh) (w : World) (hA : ShAt w A ss) (hL : L = ss.length) (hLs : L ≤ 1000000) :
    Calls Try.prog 19 #[.int .i64 W, .int .i64 H, .int .i64 K, .slice A L c] w fun e w' => e = .returned (.int .i64 (ckE W H K ss)) ∧ Below w.heap.size w w' := by
  have HL := Lib.hid hL
  have HA := Lib.hid hA
  clear hL hA
  have HCE : Hid (ckE W H K ss = if okP W H K ss = true then 0 else 1) := Lib.hid rfl
  have HCP : Hid (okP W H K ss = (inB W 1 64 && (inB H 1 64 && (inB K 0 8 && (decide (ss.length ≤ 16) && ss.all okB))))) := Lib.hid rfl
  generalize ckE W H K ss = ce at *
  generalize okP W H K ss = cp at *
  cases f1 : inB W 1 64 with
  | false =>
    have he : ce = 1 := by rw [HCE.out, HCP.out, f1]; rfl
    have HE := Lib.hid he
    clear he
    go_enter Try.func19, Try.ntmps19
    go_wp2_with (first | (go_at_call 41; refine (side_any _ _).mono ?_; rintro e w1 ⟨rfl, rfl⟩) | (go_at_call 42; refine (within_any _ _ _ _).mono ?_; rintro e w1 ⟨rfl, rfl⟩))
    go_ret
    exact ⟨by rw [HE.out]; rfl, Below.refl _ _⟩
  | true =>
    cases f2 : inB H 1 64 with
    | false =>
      have he : ce = 1 := by rw [HCE.out, HCP.out, f1, f2]; rfl
      have HE := Lib.hid he
      clear he
      go_enter Try.func19, Try.ntmps19
      go_wp2_with (first | (go_at_call 41; refine (side_any _ _).mono ?_; rintro e w1 ⟨rfl, rfl⟩) | (go_at_call 42; refine (within_any _ _ _ _).mono ?_; rintro e w1 ⟨rfl, rfl⟩))
      go_ret
      exact ⟨by rw [HE.out]; rfl, Below.refl _ _⟩
    | true =>
      cases f3 : inB K 0 8 with
      | false =>
        have he : ce = 1 := by rw [HCE.out, HCP.out, f1, f2, f3]; rfl
        have HE := Lib.hid he
        clear he
        go_enter Try.func19, Try.ntmps19
        go_wp2_with (first | (go_at_call 41; refine (side_any _ _).mono ?_; rintro e w1 ⟨rfl, rfl⟩) | (go_at_call 42; refine (within_any _ _ _ _).mono ?_; rintro e w1 ⟨rfl, rfl⟩))
        go_ret
        exact ⟨by rw [HE.out]; rfl, Below.refl _ _⟩
      | true =>
        by_cases h2 : 16 < L
        · have he : ce = 1 := by
            have e : decide (ss.length ≤ 16) = false := by simp; have := HL.out; omega
            rw [HCE.out, HCP.out, f1, f2, f3, e]; rfl
          have hd : decide (16 < L) = true := by simpa using h2
          have hd2 : decide ((16 : Int) < (L : Int)) = true := by simp; omega
          have HE := Lib.hid he
          clear he h2
          go_enter Try.func19, Try.ntmps19
          go_wp2_with (first | (go_at_call 41; refine (side_any _ _).mono ?_; rintro e w1 ⟨rfl, rfl⟩) | (go_at_call 42; refine (within_any _ _ _ _).mono ?_; rintro e w1 ⟨rfl, rfl⟩))
          go_ret
          exact ⟨by rw [HE.out]; rfl, Below.refl _ _⟩
        · have heq : cp = ss.all okB := by
            have e : decide (ss.length ≤ 16) = true := by simp; have := HL.out; omega
            rw [HCP.out, f1, f2, f3, e]; rfl
          have hd : decide (16 < L) = false := by simpa using h2
          have hd2 : decide ((16 : Int) < (L : Int)) = false := by simp; omega
          have HQ := Lib.hid heq
          clear heq h2
          have HB0 := Lib.hid (Below.refl w.heap.size w)
          obtain ⟨B, hB⟩ : ∃ B, B = w.heap.size := ⟨_, rfl⟩
          have HB := Lib.hid hB
          go_enter Try.func19, Try.ntmps19
          go_wp2_with (first | (go_at_call 41; refine (side_any _ _).mono ?_; rintro e w1 ⟨rfl, rfl⟩) | (go_at_call 42; refine (within_any _ _ _ _).mono ?_; rintro e w1 ⟨rfl, rfl⟩))
          clear f1 f2 f3 hd hd2 hB
          go_loopw [31, 10] (fun t _ wr => ∃ i : Nat, i ≤ L ∧ t = .int .i64 (i : Int) ∧ Hid ((ss.take i).all okB = true) ∧ Below w.heap.size w wr) (fun t _ _ => L - (intOf t).toNat)
          case atStart => exact ⟨0, Nat.zero_le _, rfl, Lib.hid (by simp), HB0.out⟩
          case round =>
            obtain ⟨i, hi, rfl, HAL, hbel⟩ := hrel
            by_cases hlt : i < L
            · obtain ⟨g, off, rfl, hg, c0, c1, c2, c3⟩ := ShAt.at_ (HA.out.keep hbel) (i := i) (by have := HL.out; omega)
              have ht : ss[i]? = some (ss.getD i sh0) := by rw [List.getD_eq_getElem?_getD, List.getElem?_eq_getElem (by have := HL.out; omega)]; rfl
              generalize ss.getD i sh0 = s at *
              obtain ⟨sw, sh, sv, st⟩ := s
              simp only at c0 c1 c2 c3
              have HT := Lib.hid ht
              have hlt2 : (i : Int) < (L : Int) := by omega
              clear ht
              have hb2 := hbel.alloc hbel.size (.cells #[.int .i64 sw, .int .i64 sh, .int .i64 sv, .bool st] 65)
              have hbad : okB ⟨sw, sh, sv, st⟩ = false → ce = 1 := fun h => by rw [HCE.out, HQ.out, all_bad HT.out h]; rfl
              have hgood : okB ⟨sw, sh, sv, st⟩ = true → (ss.take (i + 1)).all okB = true := fun h => all_take_succ HAL.out HT.out h
              have hok : okB ⟨sw, sh, sv, st⟩ = (inB sw 1 64 && (inB sh 1 64 && inB sv 0 1000000)) := rfl
              have HBD := Lib.hid hbad
              have HGD := Lib.hid hgood
              have HOK := Lib.hid hok
              have HB2 := Lib.hid hb2
              clear hbad hgood hok hb2 hbel
              cases f1 : inB sw 1 64 with
              | false =>
                have HE2 := Lib.hid (HBD.out (by rw [HOK.out, f1]; rfl))
                go_wp2_with (first | (go_at_call 41; refine (side_any _ _).mono ?_; rintro e w1 ⟨rfl, rfl⟩) | (go_at_call 42; refine (within_any _ _ _ _).mono ?_; rintro e w1 ⟨rfl, rfl⟩))
                go_ret
                exact ⟨by rw [HE2.out]; rfl, HB2.out⟩
              | true =>
                cases f2 : inB sh 1 64 with
                | false =>
                  have HE2 := Lib.hid (HBD.out (by rw [HOK.out, f1, f2]; rfl))
                  go_wp2_with (first | (go_at_call 41; refine (side_any _ _).mono ?_; rintro e w1 ⟨rfl, rfl⟩) | (go_at_call 42; refine (within_any _ _ _ _).mono ?_; rintro e w1 ⟨rfl, rfl⟩))
                  go_ret
                  exact ⟨by rw [HE2.out]; rfl, HB2.out⟩
                | true =>
                  cases f3 : inB sv 0 1000000 with
                  | false =>
                    have HE2 := Lib.hid (HBD.out (by rw [HOK.out, f1, f2, f3]; rfl))
                    go_wp2_with (first | (go_at_call 41; refine (side_any _ _).mono ?_; rintro e w1 ⟨rfl, rfl⟩) | (go_at_call 42; refine (within_any _ _ _ _).mono ?_; rintro e w1 ⟨rfl, rfl⟩))
                    go_ret
                    exact ⟨by rw [HE2.out]; rfl, HB2.out⟩
                  | true =>
                    have HN := Lib.hid (HGD.out (by rw [HOK.out, f1, f2, f3]; rfl))
                    go_wp2_with (first | (go_at_call 41; refine (side_any _ _).mono ?_; rintro e w1 ⟨rfl, rfl⟩) | (go_at_call 42; refine (within_any _ _ _ _).mono ?_; rintro e w1 ⟨rfl, rfl⟩))
                    go_roundw
                    case rel => exact ⟨i + 1, by omega, by go_num, HN, HB2.out⟩
                    case measure => simp [intOf]; omega
            · obtain rfl : i = L := by omega
              have he : ce = 0 := by
                have h3 := HAL.out
                rw [HL.out, List.take_length] at h3
                rw [HCE.out, HQ.out, h3]; rfl
              have HE2 := Lib.hid he
              clear he
              go_wp2
              go_ret
              exact ⟨by rw [HE2.out]; rfl, hbel⟩
end Go.Proofs.Ytkfjlgjncaddpaa
