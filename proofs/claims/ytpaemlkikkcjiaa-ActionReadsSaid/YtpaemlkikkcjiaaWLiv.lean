/- lives. -/
import Derived.Test.YtpaemlkikkcjiaaWPly
import Derived.Test.YtpaemlkikkcjiaaWReg
import Derived.Test.YtpaemlkikkcjiaaWSame
namespace Go.Proofs.Ytpaemlkikkcjiaa
open Go.RowKit

def lvT : List T3 := [⟨-1, 0, 3⟩, ⟨0, 1, 2⟩]
def lvX (i : Nat) : Int := if i = 0 then 3 else 5
theorem lv_sol : Sol 2 lvT lvX := by
  refine ⟨fun i _ => by unfold lvX; split <;> omega, fun t ht => ?_⟩
  simp only [lvT, List.mem_cons, List.not_mem_nil, or_false] at ht
  rcases ht with rfl | rfl <;> simp [atX, lvX]
theorem lv_x {x : Nat → Int} (h : Least 2 lvT x) : fl x 2 = is [3, 5] := by
  have h1 := h.low lvX lv_sol
  have a0 := h1 0 (by omega)
  have a1 := h1 1 (by omega)
  have t0 := h.sol.2 ⟨-1, 0, 3⟩ (by simp [lvT])
  have t1 := h.sol.2 ⟨0, 1, 2⟩ (by simp [lvT])
  simp [atX, lvX] at a0 a1 t0 t1
  have e0 : x 0 = 3 := by omega
  have e1 : x 1 = 5 := by omega
  simp [fl, is, List.range_succ, e0, e1]
def lvR : List Rg := [⟨15, 12, 5, true⟩]
def lvA : List Ac := [⟨1, 0, 20, 0⟩, ⟨2, 0, 2, 0⟩]
theorem lv_new : newB ((1 : Nat) : Int) 10 lvR = true := by decide
theorem lv_good : ∀ a, a ∈ lvA → GoodA (mkOf 1 10 lvR) a := by
  intro a ha
  simp only [lvA, List.mem_cons, List.not_mem_nil, or_false] at ha
  rcases ha with rfl | rfl
  · exact .inl ⟨rfl, by decide, by decide, by decide, by decide⟩
  · exact .inr ⟨rfl, by decide, by decide⟩
theorem lv_one : ∀ (i j : Nat), i < lvA.length → (lvA.getD i ac0).kind = 2 → (j : Int) < (lvA.getD i ac0).depth → (tickF (mkOf 1 10 lvR) (runF (mkOf 1 10 lvR) j (actsG (mkOf 1 10 lvR) (msOf lvR) lvA i).1).1).2.length ≤ 1 := by
  intro i j hi hk hj
  match i, hi with
  | 0, _ => simp [lvA] at hk
  | 1, _ =>
    simp [lvA] at hj
    match j, hj with
    | 0, _ => decide
    | 1, _ => decide
    | j + 2, hj => omega
  | i + 2, hi => simp [lvA] at hi; omega
theorem lv_ev : evL (actsG (mkOf 1 10 lvR) (msOf lvR) lvA lvA.length).2 = [.int .i64 2, .int .i64 1, .int .i64 0, .int .i64 0] ∧ (actsG (mkOf 1 10 lvR) (msOf lvR) lvA lvA.length).2.length = 1 := by
  constructor
  · rfl
  · rfl
theorem reg_lives (ad : Addr) (w : World) (h : TiesAt w (some ad) lvT) : Calls Try.prog 24 #[.int .i64 2, .slice (some ad) 2 2] w fun e w' =>
    ∃ g cap, e = .returned (.tuple #[.slice (some ⟨g, 0, none⟩) 2 cap, .int .i64 0]) ∧ Ints w' (some ⟨g, 0, none⟩) [3, 5] ∧ Below w.heap.size w w' := by
  refine (regulate_any 2 ad 2 2 lvT w h rfl (by omega) (by omega)).mono ?_
  rintro e w' ⟨hb, ⟨hf, _⟩ | ⟨k, hk, _, _, _, ⟨x, v, hle, _, rfl, hv⟩ | ⟨hno, _⟩⟩⟩
  · exact absurd hf (by decide)
  · have hk2 : k = 2 := by omega
    subst hk2
    obtain ⟨g, cap, rfl, _, _, _, hvv⟩ := hv.vals
    rw [lv_x hle] at hvv
    exact ⟨g, cap, rfl, hvv, hb⟩
  · have hk2 : k = 2 := by omega
    subst hk2
    exact absurd lv_sol (hno lvX)
def lvM : Mo := ⟨2, 1, 0, 0, 5, 10⟩
theorem play_lives (ad : Addr) (A' : Option Addr) (w : World) (hA : Vals w (some ad) (rgL lvR)) (hA' : Vals w A' (acL lvA)) :
    Calls Try.prog 44 #[.int .i64 1, .int .i64 10, .slice (some ad) 1 1, .slice A' 2 2] w fun e w' => ∃ A c, e = .returned (.tuple #[.slice A 1 c, .int .i64 0]) ∧ Vals w' A (evL [lvM]) ∧ Below w.heap.size w w' := by
  refine (play_good 1 (order_of 1 (by omega) stabK_one) 1 1 1 2 2 10 ad A' lvR lvA w hA rfl hA' rfl (by omega) lv_new lv_good lv_one).mono ?_
  rintro e w' ⟨v, rfl, hv, hb⟩
  rw [lv_ev.1, lv_ev.2] at hv
  obtain ⟨A, c, rfl, _, hvv, _⟩ := own_shape hv
  exact ⟨A, c, rfl, hvv, hb⟩
theorem same_lives : evsEq [lvM] [lvM] = true := by unfold evsEq; simp
set_option maxHeartbeats 4000000 in
set_option maxRecDepth 100000 in
theorem lives_any (w : World) : Calls Try.prog 26 #[] w fun e w' => e = .returned (.bool true) ∧ Below w.heap.size w w' := by
  have hb1 := below_new w (.cells #[.int .i64 (-1), .int .i64 0, .int .i64 3, .int .i64 0, .int .i64 1, .int .i64 2] 39)
  have hq1 : TiesAt (w.alloc (.cells #[.int .i64 (-1), .int .i64 0, .int .i64 3, .int .i64 0, .int .i64 1, .int .i64 2] 39)) (some ⟨w.heap.size, 0, none⟩) lvT := (Blk.new w 39 (tc lvT)).vals0
  have hreg := reg_lives ⟨w.heap.size, 0, none⟩ _ hq1
  have HREG := Lib.hid hreg
  clear hq1 hreg
  go_enter Try.func26, Try.ntmps26
  go_upto_region 2 with (go_at_call 24; refine (HREG.out).mono ?_; rintro e w1 ⟨g, cap, rfl, hI, hb2⟩)
  have hbw := below_on hb1 hb1.size hb2
  clear hb1 hb2 HREG
  go_wp2_with (go_at_call 60; refine (one_any _).mono ?_; rintro e w2 ⟨rfl, hb3⟩)
  have hI2 := Vals.keep hI hb3
  have hbw2 := below_on hbw hbw.size hb3
  have k1 : Vals (w2.alloc (.cells #[.int .i64 15, .int .i64 12, .int .i64 5, .bool true] 84)) (some ⟨w2.heap.size, 0, none⟩) (rgL lvR) := (Blk.new w2 84 (rgL lvR)).vals0
  have n1 := below_new w2 (.cells #[.int .i64 15, .int .i64 12, .int .i64 5, .bool true] 84)
  have s1 : (w2.alloc (.cells #[.int .i64 15, .int .i64 12, .int .i64 5, .bool true] 84)).heap.size = w2.heap.size + 1 := by simp
  have hI3 := Vals.keep hI2 n1
  have hbw3 := below_on hbw2 hbw2.size n1
  clear hI hI2 hbw hbw2 n1
  rw [← s1]
  generalize w2.alloc (.cells #[.int .i64 15, .int .i64 12, .int .i64 5, .bool true] 84) = w3 at *
  have k2 : Vals (w3.alloc (.cells #[.int .i64 1, .int .i64 0, .int .i64 20, .int .i64 0, .int .i64 2, .int .i64 0, .int .i64 2, .int .i64 0] 59)) (some ⟨w3.heap.size, 0, none⟩) (acL lvA) := (Blk.new w3 59 (acL lvA)).vals0
  have n2 := below_new w3 (.cells #[.int .i64 1, .int .i64 0, .int .i64 20, .int .i64 0, .int .i64 2, .int .i64 0, .int .i64 2, .int .i64 0] 59)
  have k1' := k1.keep n2
  have hI4 := Vals.keep hI3 n2
  have hbw4 := below_on hbw3 hbw3.size n2
  refine (play_lives _ _ _ k1' k2).mono ?_
  rintro e w5 ⟨A5, c5, rfl, hv5, hb5⟩
  have hI5 := Vals.keep hI4 hb5
  have hbw5 := below_on hbw4 hbw4.size hb5
  clear hI3 hI4 hbw3 hbw4 k1 k1' k2 n2 hb5 s1
  generalize w3.alloc (.cells #[.int .i64 1, .int .i64 0, .int .i64 20, .int .i64 0, .int .i64 2, .int .i64 0, .int .i64 2, .int .i64 0] 59) = w4 at *
  have k3 : Ints (w5.alloc (.cells #[.int .i64 3, .int .i64 5] 3)) (some ⟨w5.heap.size, 0, none⟩) [3, 5] := (Blk.new w5 3 (is [3, 5])).vals0
  have n3 := below_new w5 (.cells #[.int .i64 3, .int .i64 5] 3)
  have hI6 := Vals.keep hI5 n3
  have hsm := same_any (some ⟨g, 0, none⟩) (some ⟨w5.heap.size, 0, none⟩) cap 2 2 2 [3, 5] [3, 5] _ hI6 k3 rfl rfl (by omega) (by omega)
  rw [decide_eq_true rfl] at hsm
  have HSM := Lib.hid hsm
  have HV5 := Lib.hid (hv5.keep n3)
  have hbw6 := below_on hbw5 hbw5.size n3
  clear hsm hI5 hI6 k3 n3 hv5 hbw5
  go_wp2_with (first
    | (go_at_call 28
       refine (HSM.out).mono ?_
       rintro e w7 ⟨rfl, hb7⟩
       have hbw7 := below_on hbw6 hbw6.size hb7
       have k8 : Vals (w7.alloc (.cells #[.int .i64 2, .int .i64 1, .int .i64 0, .int .i64 0] 67)) (some ⟨w7.heap.size, 0, none⟩) (evL [lvM]) := (Blk.new w7 67 (evL [lvM])).vals0
       have n8 := below_new w7 (.cells #[.int .i64 2, .int .i64 1, .int .i64 0, .int .i64 0] 67)
       have hse := sameEv_any A5 (some ⟨w7.heap.size, 0, none⟩) c5 1 1 1 [lvM] [lvM] _ ((HV5.out.keep hb7).keep n8) k8 rfl rfl (by omega)
       rw [same_lives] at hse
       have HSE := Lib.hid hse
       have hbw8 := below_on hbw7 hbw7.size n8
       clear hse k8 n8)
    | (go_at_call 43
       refine (HSE.out).mono ?_
       rintro e w9 ⟨rfl, hb9⟩))
  go_ret
  exact ⟨rfl, below_on hbw8 hbw8.size hb9⟩
end Go.Proofs.Ytpaemlkikkcjiaa
