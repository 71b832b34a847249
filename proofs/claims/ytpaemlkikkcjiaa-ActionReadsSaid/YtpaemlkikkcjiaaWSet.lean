/- settle; heights. -/
import Derived.Test.YtpaemlkikkcjiaaWRnd
import Derived.Test.YtpaemlkikkcjiaaWFlo
namespace Go.Proofs.Ytpaemlkikkcjiaa
open Go.RowKit

theorem encR_none {s : Option Nat} (h : s = none) : encR s = -2 := by rw [h]; rfl
theorem encR_some {s : Option Nat} (h : s ≠ none) : (encR s == -2) = false ∧ (encR s != -2) = true := by
  cases s with
  | none => exact absurd rfl h
  | some p => simp only [encR]; constructor <;> simp <;> omega
theorem rnds_succ (ts : List T3) (k : Nat) : rnds (teL ts) (k + 1) = runT (teL ts) ts.length ⟨(rnds (teL ts) k).h, (rnds (teL ts) k).by_, none⟩ := by
  show runT (teL ts) (teL ts).length (clr (rnds (teL ts) k)) = _
  rw [teL_len]; rfl
/-- The number of rounds after which it stops. -/
def SetPost (B : Nat) (w : World) (p gt ct gh gb n : Nat) (ts : List T3) (e : Ending) (w' : World) : Prop :=
  Below B w w' ∧ ∃ k, k ≤ n ∧ e = .returned (.int .i64 (encR (rnds (teL ts) (k + 1)).r)) ∧ RaM B w' p gt ct gh gb n ts (rnds (teL ts) (k + 1)).h (rnds (teL ts) (k + 1)).by_ ∧ ((rnds (teL ts) (k + 1)).r = none ∨ k = n)

set_option maxHeartbeats 2000000 in
set_option maxRecDepth 100000 in
theorem settle_any (B : Nat) (w : World) (p gt ct gh gb n : Nat) (ts : List T3) (M : Int)
    (m : RaM B w p gt ct gh gb n ts (fun _ => 0) (fun _ => 0)) (hB : B ≤ w.heap.size) (ho : OkL n M ts) (hM : 0 ≤ M) (hn : n ≤ 64) (hM2 : M ≤ 2000000) (hLs : ts.length ≤ 1000) :
    Calls Try.prog 57 #[.pointer (some ⟨p, 0, none⟩)] w (SetPost B w p gt ct gh gb n ts) := by
  have hK0 : 0 ≤ (ts.length : Int) * M := Int.mul_nonneg (by omega) hM
  have hK1 : (ts.length : Int) * M ≤ 2000000000 := by
    have h1 : (ts.length : Int) * M ≤ (ts.length : Int) * 2000000 := Int.mul_le_mul_of_nonneg_left hM2 (by omega)
    omega
  have hrd : ∀ (k : Nat) (W : World), k ≤ n → RaM B W p gt ct gh gb n ts (rnds (teL ts) k).h (rnds (teL ts) k).by_ → B ≤ W.heap.size →
      Calls Try.prog 77 #[.pointer (some ⟨p, 0, none⟩)] W (RndPost B W p gt ct gh gb n ts (rnds (teL ts) (k + 1))) := by
    intro k W hk mk hW
    rw [rnds_succ]
    have hkk : (k : Int) * ((ts.length : Int) * M) ≤ 64 * 2000000000 := by
      have h1 : (k : Int) * ((ts.length : Int) * M) ≤ (k : Int) * 2000000000 := Int.mul_le_mul_of_nonneg_left hK1 (by omega)
      omega
    refine round_any B W p gt ct gh gb n ts.length ts _ _ ((k : Int) * ((ts.length : Int) * M)) M mk hW rfl ho hM (rnds_up _ k) ?_ hn (by omega) (by omega) (by omega)
    have := rnds_cap hM (te_bounds ho).2.2 k
    rwa [teL_len] at this
  have z1 := m.cells.2.1
  have HM := Lib.hid m
  have HR := Lib.hid hrd
  clear m hrd ho hK0 hK1
  go_enter Try.func57, Try.ntmps57
  go_wp2_with (fail)
  go_loopw [3, 9] (fun r t wr => ∃ i : Nat, i ≤ n + 1 ∧ t = .int .i64 (i : Int) ∧ r = .int .i64 (encR (rnds (teL ts) i).r) ∧
    RaM B wr p gt ct gh gb n ts (rnds (teL ts) i).h (rnds (teL ts) i).by_ ∧ Below B w wr) (fun _ t _ => n + 1 - (intOf t).toNat)
  case atStart => exact ⟨0, Nat.zero_le _, rfl, rfl, HM.out, Below.refl _ _⟩
  case round =>
    clear z1 HM
    obtain ⟨i, hi, rfl, rfl, m, hb⟩ := hrel
    by_cases hlt : i < n + 1
    · have hcall := HR.out i wr (by omega) m (by have := hb.size; omega)
      have hlt2 : (i : Int) < (n : Int) + 1 := by omega
      have HCL := Lib.hid hcall
      clear hcall m
      by_cases hr : (rnds (teL ts) (i + 1)).r = none
      · have he := encR_none hr
        have HE := Lib.hid he
        have HRN := Lib.hid hr
        clear he hr
        go_wp2_with (go_at_call 77; refine (HCL.out).mono ?_; rintro e w2 ⟨rfl, hm, hb2⟩; rw [HE.out])
        go_ret
        exact ⟨hb.trans hb2, i, by omega, by rw [HE.out]; rfl, hm, .inl HRN.out⟩
      · have he := (encR_some hr).1
        have HRN := Lib.hid hr
        clear hr
        obtain ⟨x, hx⟩ : ∃ x, x = encR (rnds (teL ts) (i + 1)).r := ⟨_, rfl⟩
        rw [← hx] at he
        have HX := Lib.hid hx
        clear hx
        go_wp2_with (go_at_call 77; refine (HCL.out).mono ?_; rintro e w2 ⟨rfl, hm, hb2⟩; rw [← HX.out])
        by_cases hin : i = n
        · go_roundw
          case rel => exact ⟨i + 1, by omega, by go_num, by rw [HX.out], hm, hb.trans hb2⟩
          case measure => simp [intOf]; omega
        · go_roundw
          case rel => exact ⟨i + 1, by omega, by go_num, by rw [HX.out], hm, hb.trans hb2⟩
          case measure => simp [intOf]; omega
    · obtain rfl : i = n + 1 := by omega
      have hlt2 : ¬ ((n : Int) + 1 < (n : Int) + 1) := by omega
      go_wp2
      go_ret
      exact ⟨hb, n, Nat.le_refl _, rfl, m, .inr rfl⟩

theorem fl_drop (h : Nat → Int) (n : Nat) : (fl h (n + 1)).drop 1 = fl (fun i => h (i + 1)) n := by
  apply List.ext_getElem?
  intro i
  rw [List.getElem?_drop]
  by_cases hi : i < n
  · rw [fl_at (by omega), fl_at hi, Nat.add_comm]
  · rw [List.getElem?_eq_none (by rw [fl_len]; omega), List.getElem?_eq_none (by rw [fl_len]; omega)]
set_option maxHeartbeats 1000000 in
set_option maxRecDepth 100000 in
theorem heights_any (B : Nat) (w : World) (p gt ct gh gb n : Nat) (ts : List T3) (h : Nat → Int) (by_ : Nat → Nat) (m : RaM B w p gt ct gh gb n ts h by_) (hn : n ≤ 64) (hn1 : 1 ≤ n) :
    Calls Try.prog 58 #[.pointer (some ⟨p, 0, none⟩)] w fun e w' => ∃ v, e = .returned v ∧ OwnR w.heap.size 3 1 w' v n (fl (fun i => h (i + 1)) n) ∧ Below w.heap.size w w' := by
  have z1 := m.cells.2.1
  have hv : Vals w (some ⟨gh, 1, none⟩) (fl (fun i => h (i + 1)) n) := by
    have := (m.hs.vals0).drop 1
    rwa [fl_drop] at this
  have hcl := cloneI_any ⟨gh, 1, none⟩ n n _ w hv (by rw [fl_len]; omega) (fl_one _ _) (by omega)
  have HCL := Lib.hid hcl
  clear hcl hv m
  have q1 : (1 : Int) ≤ (n : Int) + 1 := by omega
  have q3 : ¬ n = 0 := by omega
  have q2 : ¬ ((n : Int) + 1 < 1) := by omega
  go_enter Try.func58, Try.ntmps58
  go_wp2_with (go_at_call 78; refine (HCL.out).mono ?_; rintro e w1 ⟨v, rfl, hO, hb⟩)
  go_ret
  exact ⟨_, rfl, hO, hb⟩
end Go.Proofs.Ytpaemlkikkcjiaa
