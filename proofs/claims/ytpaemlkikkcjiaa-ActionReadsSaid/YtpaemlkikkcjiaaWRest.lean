/- isAtRest. -/
import Derived.Test.YtpaemlkikkcjiaaTkS
import Derived.Laws.EntriesVeiled
namespace Go.Proofs.Ytpaemlkikkcjiaa
open Go.RowKit

def moveB (S : Ms) (k : Nat) : Bool := S.ht k != S.tg k
/-- Every key is where it goes to. -/
def restB (m : Mk) (S : Ms) : Bool := (List.range m.K).all fun k => !moveB S k
theorem rest_of {m : Mk} {S : Ms} (h : ∀ k, k < m.K → moveB S k = false) : restB m S = true := by
  unfold restB
  rw [List.all_eq_true]
  intro k hk
  rw [h k (List.mem_range.1 hk)]; rfl
theorem not_rest {m : Mk} {S : Ms} {k : Nat} (hk : k < m.K) (h : moveB S k = true) : restB m S = false := by
  cases hr : restB m S
  · rfl
  · have := List.all_eq_true.1 hr k (List.mem_range.2 hk)
    rw [h] at this; cases this
set_option maxHeartbeats 1000000 in
set_option maxRecDepth 100000 in
theorem move_any (S : Ms) (k : Nat) (w : World) : Calls Try.prog 87 #[.agg (levC S k).toArray] w fun e w' => e = .returned (.bool (moveB S k)) ∧ Below w.heap.size w w' := by
  unfold moveB levC jkC
  have hb := below_new w (.cells #[.int .i64 (S.ht k), .int .i64 (S.tg k), .bool (S.jk k 0).ab, .bool (S.jk k 0).so, .int .i64 (S.jk k 0).si, .bool (S.jk k 1).ab, .bool (S.jk k 1).so, .int .i64 (S.jk k 1).si, .bool (S.jk k 2).ab, .bool (S.jk k 2).so, .int .i64 (S.jk k 2).si, .bool (S.jk k 3).ab, .bool (S.jk k 3).so, .int .i64 (S.jk k 3).si] 112)
  simp only [List.cons_append, List.nil_append, List.append_assoc]
  generalize S.ht k = h at *
  generalize S.tg k = t at *
  go_enter Try.func87, Try.ntmps87
  go_wp2
  go_ret
  exact ⟨rfl, hb⟩
set_option maxHeartbeats 2000000 in
set_option maxRecDepth 100000 in
theorem rest_idx (w : World) (p gl cl gr cr : Nat) (m : Mk) (S : Ms) (hM : MacM w p gl cl gr cr m S) (hk2 : m.K ≤ 1000) :
    Calls Try.prog 93 #[.slice (some ⟨gl, 0, none⟩) m.K cl, .func (.func 87) #[] #[]] w fun e w' => (∃ x : Int, e = .returned (.int .i64 x) ∧ decide (0 ≤ x) = !restB m S) ∧ Below w.heap.size w w' := by
  have HM := Lib.hid hM
  clear hM
  go_enter Try.func93, Try.ntmps93
  go_wp2_with (fail)
  go_loopw [5, 8] (fun _ t wr => ∃ k : Nat, k ≤ m.K ∧ t = .int .i64 (k : Int) ∧ Hid (∀ j, j < k → moveB S j = false) ∧ Below w.heap.size w wr) (fun _ t _ => m.K - (intOf t).toNat)
  case atStart => exact ⟨0, Nat.zero_le _, rfl, Lib.hid (fun j hj => by omega), Below.refl _ _⟩
  case round =>
    obtain ⟨k, hk, rfl, HA, hb⟩ := hrel
    by_cases hlt : k < m.K
    · have hM1 := HM.out.keep hb
      have hc : ∀ (j : Nat) (v : Value), j < 14 → (levC S k)[j]? = some v → wr.cell? ⟨gl, k * 14 + j, none⟩ = some v := fun j v hj hv => hM1.lev.cell (by rw [levL_at hlt hj]; exact hv)
      have c0 : wr.cell? ⟨gl, k * 14, none⟩ = some (.int .i64 (S.ht k)) := hc 0 _ (by omega) rfl
      have c1 := hc 1 _ (by omega) rfl
      have c2 := hc 2 _ (by omega) rfl
      have c3 := hc 3 _ (by omega) rfl
      have c4 := hc 4 _ (by omega) rfl
      have c5 := hc 5 _ (by omega) rfl
      have c6 := hc 6 _ (by omega) rfl
      have c7 := hc 7 _ (by omega) rfl
      have c8 := hc 8 _ (by omega) rfl
      have c9 := hc 9 _ (by omega) rfl
      have c10 := hc 10 _ (by omega) rfl
      have c11 := hc 11 _ (by omega) rfl
      have c12 := hc 12 _ (by omega) rfl
      have c13 := hc 13 _ (by omega) rfl
      have hlt2 : (k : Int) < (m.K : Int) := by omega
      have hmv := move_any S k wr
      clear hc hM1
      cases hmb : moveB S k with
      | true =>
        rw [hmb] at hmv
        have HMV := Lib.hid hmv
        have hr : restB m S = false := not_rest hlt hmb
        have HR := Lib.hid hr
        clear hmv hr hmb
        go_wp2_with (go_at_call 87; refine (HMV.out).mono ?_; rintro e w1 ⟨rfl, hb1⟩)
        go_ret
        refine ⟨⟨(k : Int), rfl, ?_⟩, hb.trans (hb1.mono hb.size)⟩
        rw [HR.out]; simp
      | false =>
        rw [hmb] at hmv
        have HMV := Lib.hid hmv
        have HN := Lib.hid (show ∀ j, j < k + 1 → moveB S j = false from fun j hj => by
          by_cases e : j = k
          · rw [e]; exact hmb
          · exact HA.out j (by omega))
        clear hmv hmb
        go_wp2_with (go_at_call 87; refine (HMV.out).mono ?_; rintro e w1 ⟨rfl, hb1⟩)
        go_roundw
        case rel => exact ⟨k + 1, by omega, by go_num, HN, hb.trans (hb1.mono hb.size)⟩
        case measure => simp [intOf]; omega
    · obtain rfl : k = m.K := by omega
      have hr : restB m S = true := rest_of HA.out
      have HR := Lib.hid hr
      clear hr
      go_wp2
      go_ret
      refine ⟨⟨-1, rfl, ?_⟩, hb⟩
      rw [HR.out]; simp
theorem rest_any (w : World) (p gl cl gr cr : Nat) (m : Mk) (S : Ms) (hM : MacM w p gl cl gr cr m S) (hk2 : m.K ≤ 1000) :
    Calls Try.prog 82 #[.pointer (some ⟨p, 0, none⟩)] w fun e w' => e = .returned (.bool (restB m S)) ∧ Below w.heap.size w w' := by
  have b2 := hM.b2
  have hi := rest_idx w p gl cl gr cr m S hM hk2
  have H := Lib.hid hi
  clear hM hi
  have hc : Calls Try.prog 86 #[.slice (some ⟨gl, 0, none⟩) m.K cl, .func (.func 87) #[] #[]] w fun e w' => e = .returned (.bool (!restB m S)) ∧ Below w.heap.size w w' := by
    clear b2
    go_enter Try.func86, Try.ntmps86
    go_wp2_with (go_at_call 93; refine (H.out).mono ?_; rintro e w1 ⟨⟨x, rfl, hx⟩, hb⟩)
    go_ret
    exact ⟨by rw [← hx]; rfl, hb⟩
  have HC := Lib.hid hc
  clear hc H
  go_enter Try.func82, Try.ntmps82
  go_wp2_with (go_at_call 86; refine (HC.out).mono ?_; rintro e w1 ⟨rfl, hb⟩)
  go_ret
  exact ⟨by cases restB m S <;> rfl, hb⟩
end Go.Proofs.Ytpaemlkikkcjiaa
