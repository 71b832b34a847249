/- Which tables are valid: Check of the program and of the reference. -/
import Derived.Test.YtncmfjncdhhjoaaTabM
import Derived.Test.YtncmfjncdhhjoaaWit
namespace Go.Proofs.Ytncmfjncdhhjoaa
open Go.RowKit

theorem within_any (v lo hi : Int) (w : World) : Calls Try.prog 50 #[.int .i64 v, .int .i64 lo, .int .i64 hi] w fun e w' => e = .returned (.bool (inB v lo hi)) ∧ w = w' := by
  unfold inB
  by_cases h : lo ≤ v
  · have hd : decide (lo ≤ v) = true := by simpa using h
    go_enter Try.func50, Try.ntmps50
    go_wp2
    go_ret
    exact ⟨by simp [h], rfl⟩
  · have hd : decide (lo ≤ v) = false := by simpa using h
    go_enter Try.func50, Try.ntmps50
    go_wp2
    go_ret
    exact ⟨by simp, rfl⟩
theorem in_any (v lo hi : Int) (w : World) : Calls Try.prog 47 #[.int .i64 v, .int .i64 lo, .int .i64 hi] w fun e w' => e = .returned (.bool (inB v lo hi)) ∧ w = w' := by
  unfold inB
  by_cases h : lo ≤ v
  · have hd : decide (lo ≤ v) = true := by simpa using h
    go_enter Try.func47, Try.ntmps47
    go_wp2
    go_ret
    exact ⟨by simp [h], rfl⟩
  · have hd : decide (lo ≤ v) = false := by simpa using h
    go_enter Try.func47, Try.ntmps47
    go_wp2
    go_ret
    exact ⟨by simp, rfl⟩

def costB (x : Int) : Bool := inB x (-1) 1000000000
def rowB (m : Nat) (l : List Int) : Bool := decide (l.length = m) && l.all costB
/-- Is a table valid. -/
def chkT (ls : List (List Int)) : Bool :=
  inB (ls.length : Int) 1 64 && (inB ((ls.getD 0 []).length : Int) (ls.length : Int) 64 && ls.all (rowB (ls.getD 0 []).length))
def ckE (ls : List (List Int)) : Int := if chkT ls = true then 0 else 1

theorem all_take_succ {α : Type} {f : α → Bool} {l : List α} {k : Nat} {x : α} (h : (l.take k).all f = true) (hx : l[k]? = some x) (hf : f x = true) : (l.take (k + 1)).all f = true := by
  have : l.take (k + 1) = l.take k ++ [x] := by rw [List.take_add_one, hx]; rfl
  rw [this, List.all_append, h]
  simp [hf]
theorem all_bad {α : Type} {f : α → Bool} {l : List α} {k : Nat} {x : α} (hx : l[k]? = some x) (hf : f x = false) : l.all f = false := by
  cases h : l.all f
  · rfl
  · have := List.all_eq_true.1 h x (List.mem_of_getElem? hx)
    rw [hf] at this; cases this

theorem chkT_good {ls : List (List Int)} (h : chkT ls = true) : ∃ n m, ls.length = n ∧ (ls.getD 0 []).length = m ∧ 1 ≤ n ∧ n ≤ m ∧ m ≤ 64 ∧ Good n m ls := by
  unfold chkT at h
  simp only [Bool.and_eq_true] at h
  obtain ⟨h1, h2, h3⟩ := h
  have h1 := inB_t h1
  have h2 := inB_t h2
  refine ⟨_, _, rfl, rfl, by omega, by omega, by omega, ⟨rfl, fun i l hl => ?_, fun i k hi hk => ?_⟩⟩
  · have := List.all_eq_true.1 h3 l (List.mem_of_getElem? hl)
    unfold rowB at this
    simp only [Bool.and_eq_true, decide_eq_true_eq] at this
    exact this.1
  · have hl := List.getElem?_eq_getElem hi
    have := List.all_eq_true.1 h3 _ (List.mem_of_getElem? hl)
    unfold rowB at this
    simp only [Bool.and_eq_true, decide_eq_true_eq] at this
    rw [cst_of hl]
    have h5 : k < (ls[i]).length := by omega
    have h6 := List.all_eq_true.1 this.2 ((ls[i]).getD k 0) (by
      rw [List.getD_eq_getElem?_getD, List.getElem?_eq_getElem h5]; exact List.getElem_mem _)
    exact inB_t h6

set_option maxHeartbeats 1000000 in
set_option maxRecDepth 100000 in
theorem check_any (B : Nat) (A : Option Addr) (c L : Nat) (ls : List (List Int)) (w : World) (T : Tab B w A ls) (hL : L = ls.length) :
    Calls Try.prog 25 #[.slice A L c] w fun e w' => e = .returned (.int .i64 (ckE ls)) ∧ w = w' := by
  cases h1 : inB (L : Int) 1 64 with
  | false =>
    have he : ckE ls = 1 := by unfold ckE chkT; rw [← hL, h1]; rfl
    rw [he]
    clear hL he T
    go_enter Try.func25, Try.ntmps25
    go_wp2_with (go_at_call 50; refine (within_any _ _ _ _).mono ?_; rintro e w1 ⟨rfl, rfl⟩)
    go_ret
    exact ⟨rfl, rfl⟩
  | true =>
    have hn := inB_t h1
    have h0 : 0 < L := by omega
    obtain ⟨l0, hl0⟩ : ∃ l0, ls[0]? = some l0 := ⟨ls[0]'(by omega), List.getElem?_eq_getElem (by omega)⟩
    have hg0 : ls.getD 0 [] = l0 := by rw [List.getD_eq_getElem?_getD, hl0]; rfl
    obtain ⟨g, off, A0, c0, rfl, hg, hc0, _⟩ := T.row hl0
    have hc0' : w.cell? ⟨g, off, none⟩ = some (.slice A0 l0.length c0) := hc0
    obtain ⟨M, hM⟩ : ∃ M, M = l0.length := ⟨_, rfl⟩
    rw [← hM] at hc0 hc0'
    cases h2 : inB (M : Int) (L : Int) 64 with
    | false =>
      have he : ckE ls = 1 := by unfold ckE chkT; rw [← hL, h1, hg0, ← hM, h2]; rfl
      rw [he]
      clear hL he T hM hl0 hg0
      go_enter Try.func25, Try.ntmps25
      go_wp2_with (go_at_call 50; refine (within_any _ _ _ _).mono ?_; rintro e w1 ⟨rfl, rfl⟩)
      go_ret
      exact ⟨rfl, rfl⟩
    | true =>
      have hm := inB_t h2
      have heq : ckE ls = if ls.all (rowB M) = true then 0 else 1 := by unfold ckE chkT; rw [← hL, h1, hg0, ← hM, h2]; rfl
      have HE := Lib.hid heq
      have HL := Lib.hid hL
      have HM := Lib.hid hM
      have HT := Lib.hid T
      clear heq hL hM hg0 hl0 T
      go_enter Try.func25, Try.ntmps25
      go_wp2_with (go_at_call 50; refine (within_any _ _ _ _).mono ?_; rintro e w1 ⟨rfl, rfl⟩)
      clear h1 h2
      go_loop [4, 6, 23, 34, 35, 36] (fun _ _ t _ _ _ => ∃ i : Nat, i ≤ L ∧ t = .int .i64 (i : Int) ∧ Hid ((ls.take i).all (rowB M) = true)) (fun _ _ t _ _ _ => L - (intOf t).toNat)
      case atStart => exact ⟨0, Nat.zero_le _, rfl, Lib.hid (by simp)⟩
      case round =>
        obtain ⟨i, hi, rfl, HAL⟩ := hrel
        by_cases hlt : i < L
        · obtain ⟨l, hl⟩ : ∃ l, ls[i]? = some l := ⟨ls[i]'(by have := HL.out; omega), List.getElem?_eq_getElem _⟩
          obtain ⟨g', off', Ai, ci, eA, hgi, hci, hv⟩ := HT.out.row hl
          injection eA with eA
          injection eA with e1 e2
          subst e1 e2
          obtain ⟨K, hK⟩ : ∃ K, K = l.length := ⟨_, rfl⟩
          rw [← hK] at hci
          have HLI := Lib.hid hl
          have HK := Lib.hid hK
          have HV := Lib.hid hv
          clear hl hK hv
          by_cases hKM : K = M
          · have hne : ((K : Int) != (M : Int)) = false := by simp; omega
            have HKM := Lib.hid hKM
            have hK64 : K ≤ 64 := by omega
            clear hKM
            go_wp2_with (fail)
            go_loop [6, 36] (fun _ t => ∃ j : Nat, j ≤ K ∧ t = .int .i64 (j : Int) ∧ Hid ((l.take j).all costB = true)) (fun _ t => K - (intOf t).toNat)
            case atStart => exact ⟨0, Nat.zero_le _, rfl, Lib.hid (by simp)⟩
            case round =>
              obtain ⟨j, hj, rfl, HAJ⟩ := hrel
              by_cases hlj : j < K
              · obtain ⟨x, hx⟩ : ∃ x, l[j]? = some x := ⟨l[j]'(by have := HK.out; omega), List.getElem?_eq_getElem _⟩
                obtain ⟨g2, off2, rfl, hg2, hcx⟩ := HV.out.at_ (is_at hx)
                have HX := Lib.hid hx
                clear hx
                have hw := fun W => within_any x (-1) 1000000000 W
                have hcx1 := hcx
                cases hf : costB x with
                | false =>
                  have hf2 : inB x (-1) 1000000000 = false := hf
                  have he : ckE ls = 1 := by
                    rw [HE.out, if_neg]
                    rw [all_bad HLI.out (by unfold rowB; rw [all_bad HX.out hf]; simp)]
                    simp
                  have HE2 := Lib.hid he
                  clear hf he
                  go_wp2_with (go_at_call 50; refine (within_any _ _ _ _).mono ?_; rintro e w1 ⟨rfl, rfl⟩)
                  go_ret
                  exact ⟨by rw [HE2.out]; rfl, rfl⟩
                | true =>
                  have hf2 : inB x (-1) 1000000000 = true := hf
                  have HN := Lib.hid (all_take_succ HAJ.out HX.out hf)
                  clear hf
                  go_wp2_with (go_at_call 50; refine (within_any _ _ _ _).mono ?_; rintro e w1 ⟨rfl, rfl⟩)
                  go_round
                  case rel => exact ⟨j + 1, by omega, by go_num, HN⟩
                  case measure => simp [intOf]; omega
              · obtain rfl : j = K := by omega
                have hall : rowB M l = true := by
                  have h3 := HAJ.out
                  rw [HK.out, List.take_length] at h3
                  unfold rowB; rw [h3, ← HK.out, HKM.out]; simp
                have HN := Lib.hid (all_take_succ HAL.out HLI.out hall)
                clear hall
                go_wp2
                go_round
                case rel => exact ⟨i + 1, by omega, by go_num, HN⟩
                case measure => simp [intOf]; omega
          · have hne : ((K : Int) != (M : Int)) = true := by simp; omega
            have he : ckE ls = 1 := by
              rw [HE.out, if_neg]
              rw [all_bad HLI.out (by unfold rowB; rw [← HK.out]; simp [hKM])]
              simp
            have HE2 := Lib.hid he
            clear he
            go_wp2
            go_ret
            exact ⟨by rw [HE2.out]; rfl, rfl⟩
        · obtain rfl : i = L := by omega
          have he : ckE ls = 0 := by
            have h3 := HAL.out
            rw [HL.out, List.take_length] at h3
            rw [HE.out, if_pos h3]
          have HE2 := Lib.hid he
          clear he
          go_wp2
          go_ret
          exact ⟨by rw [HE2.out]; rfl, rfl⟩

set_option maxHeartbeats 1000000 in
set_option maxRecDepth 100000 in
theorem refCheck_any (B : Nat) (A : Option Addr) (c L : Nat) (ls : List (List Int)) (w : World) (T : Tab B w A ls) (hL : L = ls.length) :
    Calls Try.prog 23 #[.slice A L c] w fun e w' => e = .returned (.int .i64 (ckE ls)) ∧ Below w.heap.size w w' := by
  cases h1 : inB (L : Int) 1 64 with
  | false =>
    have he : ckE ls = 1 := by unfold ckE chkT; rw [← hL, h1]; rfl
    rw [he]
    clear hL he T
    go_enter Try.func23, Try.ntmps23
    go_wp2_with (go_at_call 47; refine (in_any _ _ _ _).mono ?_; rintro e w1 ⟨rfl, rfl⟩)
    go_ret
    exact ⟨rfl, Below.refl _ _⟩
  | true =>
    have hn := inB_t h1
    have h0 : 0 < L := by omega
    obtain ⟨l0, hl0⟩ : ∃ l0, ls[0]? = some l0 := ⟨ls[0]'(by omega), List.getElem?_eq_getElem (by omega)⟩
    have hg0 : ls.getD 0 [] = l0 := by rw [List.getD_eq_getElem?_getD, hl0]; rfl
    obtain ⟨g, off, A0, c0, rfl, hg, hc0, _⟩ := T.row hl0
    have hc0' : w.cell? ⟨g, off, none⟩ = some (.slice A0 l0.length c0) := hc0
    obtain ⟨M, hM⟩ : ∃ M, M = l0.length := ⟨_, rfl⟩
    rw [← hM] at hc0 hc0'
    cases h2 : inB (M : Int) (L : Int) 64 with
    | false =>
      have he : ckE ls = 1 := by unfold ckE chkT; rw [← hL, h1, hg0, ← hM, h2]; rfl
      rw [he]
      clear hL he T hM hl0 hg0
      go_enter Try.func23, Try.ntmps23
      go_wp2_with (go_at_call 47; refine (in_any _ _ _ _).mono ?_; rintro e w1 ⟨rfl, rfl⟩)
      go_ret
      exact ⟨rfl, Below.refl _ _⟩
    | true =>
      have hm := inB_t h2
      have heq : ckE ls = if ls.all (rowB M) = true then 0 else 1 := by unfold ckE chkT; rw [← hL, h1, hg0, ← hM, h2]; rfl
      have HE := Lib.hid heq
      have HL := Lib.hid hL
      have HM := Lib.hid hM
      have HT := Lib.hid T
      clear heq hL hM hg0 hl0 T
      go_enter Try.func23, Try.ntmps23
      go_wp2_with (go_at_call 47; refine (in_any _ _ _ _).mono ?_; rintro e w1 ⟨rfl, rfl⟩)
      clear h1 h2
      go_loopw [3, 4] (fun t _ wr => ∃ i z : Nat, i ≤ L ∧ t = .int .i64 (i : Int) ∧ Hid ((ls.take i).all (rowB M) = true) ∧ wr = w.drewN z) (fun t _ _ => L - (intOf t).toNat)
      case atStart => exact ⟨0, 0, Nat.zero_le _, rfl, Lib.hid (by simp), rfl⟩
      case round =>
        obtain ⟨i, z, hi, rfl, HAL, rfl⟩ := hrel
        by_cases hlt : i < L
        · obtain ⟨l, hl⟩ : ∃ l, ls[i]? = some l := ⟨ls[i]'(by have := HL.out; omega), List.getElem?_eq_getElem _⟩
          obtain ⟨g', off', Ai, ci, eA, hgi, hci, hv⟩ := HT.out.row hl
          injection eA with eA
          injection eA with e1 e2
          subst e1 e2
          obtain ⟨K, hK⟩ : ∃ K, K = l.length := ⟨_, rfl⟩
          rw [← hK] at hci
          have HLI := Lib.hid hl
          have HK := Lib.hid hK
          have HV := Lib.hid hv
          clear hl hK hv
          by_cases hKM : K = M
          · have hne : ((K : Int) != (M : Int)) = false := by simp; omega
            have HKM := Lib.hid hKM
            have hK64 : K ≤ 64 := by omega
            clear hKM
            go_wp2_with (fail)
            go_quiet (fail)
            go_wp2_with (fail)
            go_loopw [4] (fun t wr => ∃ j y : Nat, j ≤ K ∧ t = .int .i64 (j : Int) ∧ Hid ((l.take j).all costB = true) ∧ wr = w.drewN y) (fun t _ => K - (intOf t).toNat)
            case atStart => exact ⟨0, z + nq, Nat.zero_le _, rfl, Lib.hid (by simp), by simp⟩
            case round =>
              obtain ⟨j, y, hj, rfl, HAJ, rfl⟩ := hrel
              by_cases hlj : j < K
              · obtain ⟨x, hx⟩ : ∃ x, l[j]? = some x := ⟨l[j]'(by have := HK.out; omega), List.getElem?_eq_getElem _⟩
                obtain ⟨g2, off2, rfl, hg2, hcx⟩ := HV.out.at_ (is_at hx)
                have HX := Lib.hid hx
                clear hx
                have hw := fun W => in_any x (-1) 1000000000 W
                have hcx1 := hcx
                cases hf : costB x with
                | false =>
                  have hf2 : inB x (-1) 1000000000 = false := hf
                  have he : ckE ls = 1 := by
                    rw [HE.out, if_neg]
                    rw [all_bad HLI.out (by unfold rowB; rw [all_bad HX.out hf]; simp)]
                    simp
                  have HE2 := Lib.hid he
                  clear hf he
                  go_wp2_with (go_at_call 47; refine (in_any _ _ _ _).mono ?_; rintro e w1 ⟨rfl, rfl⟩)
                  go_ret
                  exact ⟨by rw [HE2.out]; rfl, by first | exact below_drewN (Below.refl _ _) _ | exact below_drewN (below_drewN (Below.refl _ _) _) _⟩
                | true =>
                  have hf2 : inB x (-1) 1000000000 = true := hf
                  have HN := Lib.hid (all_take_succ HAJ.out HX.out hf)
                  clear hf
                  go_wp2_with (go_at_call 47; refine (in_any _ _ _ _).mono ?_; rintro e w1 ⟨rfl, rfl⟩)
                  go_roundw
                  case rel => exact ⟨j + 1, _, by omega, by go_num, HN, rfl⟩
                  case measure => simp [intOf]; omega
              · obtain rfl : j = K := by omega
                have hall : rowB M l = true := by
                  have h3 := HAJ.out
                  rw [HK.out, List.take_length] at h3
                  unfold rowB; rw [h3, ← HK.out, HKM.out]; simp
                have HN := Lib.hid (all_take_succ HAL.out HLI.out hall)
                clear hall
                go_wp2
                go_roundw
                case rel => exact ⟨i + 1, _, by omega, by go_num, HN, rfl⟩
                case measure => simp [intOf]; omega
          · have hne : ((K : Int) != (M : Int)) = true := by simp; omega
            have he : ckE ls = 1 := by
              rw [HE.out, if_neg]
              rw [all_bad HLI.out (by unfold rowB; rw [← HK.out]; simp [hKM])]
              simp
            have HE2 := Lib.hid he
            clear he
            go_wp2_with (fail)
            go_quiet (fail)
            go_wp2
            go_ret
            exact ⟨by rw [HE2.out]; rfl, by first | exact below_drewN (Below.refl _ _) _ | exact below_drewN (below_drewN (Below.refl _ _) _) _⟩
        · obtain rfl : i = L := by omega
          have he : ckE ls = 0 := by
            have h3 := HAL.out
            rw [HL.out, List.take_length] at h3
            rw [HE.out, if_pos h3]
          have HE2 := Lib.hid he
          clear he
          go_wp2
          go_ret
          exact ⟨by rw [HE2.out]; rfl, by first | exact below_drewN (Below.refl _ _) _ | exact below_drewN (below_drewN (Below.refl _ _) _) _⟩

end Go.Proofs.Ytncmfjncdhhjoaa
