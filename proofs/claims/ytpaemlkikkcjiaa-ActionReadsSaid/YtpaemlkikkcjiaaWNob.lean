/- A machine that is nil, or that New did not return. -/
import Derived.Test.YtpaemlkikkcjiaaWDo
import Derived.Test.YtpaemlkikkcjiaaWLiv
import Derived.Laws.ResultCell
namespace Go.Proofs.Ytpaemlkikkcjiaa
open Go.RowKit

/-- No machine: nil, or one without levers. -/
def NoM (w : World) (v : Option Addr) : Prop := v = none ∨ ∃ p, v = some ⟨p, 0, none⟩ ∧ w.cell? ⟨p, 2, none⟩ = some (.slice none 0 0)
theorem made_no (w : World) (v : Option Addr) (h : NoM w v) : Calls Try.prog 68 #[.pointer v] w fun e w' => e = .returned (.bool false) ∧ w = w' := by
  rcases h with rfl | ⟨p, rfl, b2⟩
  · go_enter Try.func68, Try.ntmps68
    go_wp2
    go_ret
    exact ⟨rfl, rfl⟩
  · go_enter Try.func68, Try.ntmps68
    go_wp2
    go_ret
    exact ⟨rfl, rfl⟩
theorem key_no (w : World) (v : Option Addr) (k : Int) (h : NoM w v) : Calls Try.prog 47 #[.pointer v, .int .i64 k] w fun e w' => e = .returned (.tuple #[.int .i64 0, .int .i64 0, .int .i64 8]) ∧ w = w' := by
  have HM := Lib.hid (made_no w v h)
  clear h
  go_enter Try.func47, Try.ntmps47
  go_wp2_with (go_at_call 68; refine (HM.out).mono ?_; rintro e w1 ⟨rfl, rfl⟩)
  go_ret3
  exact ⟨rfl, rfl⟩
theorem on_no (w : World) (v : Option Addr) (k : Int) (h : NoM w v) : Calls Try.prog 49 #[.pointer v, .int .i64 k] w fun e w' => e = .returned (.tuple #[.bool false, .int .i64 8]) ∧ w = w' := by
  have HM := Lib.hid (made_no w v h)
  clear h
  go_enter Try.func49, Try.ntmps49
  go_wp2_with (go_at_call 68; refine (HM.out).mono ?_; rintro e w1 ⟨rfl, rfl⟩)
  go_ret2
  exact ⟨rfl, rfl⟩
theorem now_no (w : World) (v : Option Addr) (h : NoM w v) : Calls Try.prog 53 #[.pointer v] w fun e w' => e = .returned (.int .i64 0) ∧ w = w' := by
  have HM := Lib.hid (made_no w v h)
  clear h
  go_enter Try.func53, Try.ntmps53
  go_wp2_with (go_at_call 68; refine (HM.out).mono ?_; rintro e w1 ⟨rfl, rfl⟩)
  go_ret
  exact ⟨rfl, rfl⟩
theorem clone_no (w : World) (v : Option Addr) (h : NoM w v) : Calls Try.prog 52 #[.pointer v] w fun e w' => e = .returned (.pointer none) ∧ w = w' := by
  have HM := Lib.hid (made_no w v h)
  clear h
  go_enter Try.func52, Try.ntmps52
  go_wp2_with (go_at_call 68; refine (HM.out).mono ?_; rintro e w1 ⟨rfl, rfl⟩)
  go_ret
  exact ⟨rfl, rfl⟩
theorem NoM.keep {w w' : World} {v : Option Addr} (h : NoM w v) (hb : Below w.heap.size w w') : NoM w' v := by
  rcases h with rfl | ⟨p, rfl, b2⟩
  · exact .inl rfl
  · exact .inr ⟨p, rfl, (hb.cell (World.block_lt_of_cell? _ _ b2)).trans b2⟩
theorem do_no (w : World) (v : Option Addr) (a b c d : Int) (h : NoM w v) : Calls Try.prog 41 #[.pointer v, .agg #[.int .i64 a, .int .i64 b, .int .i64 c, .int .i64 d]] w fun e w' => e = .returned (.tuple #[.slice none 0 0, .int .i64 8]) ∧ Below w.heap.size w w' := by
  have hb := below_new w (.cells #[.int .i64 a, .int .i64 b, .int .i64 c, .int .i64 d] 59)
  have HM := Lib.hid (made_no _ v (h.keep hb))
  clear h
  go_enter Try.func41, Try.ntmps41
  go_wp2_with (go_at_call 68; refine (HM.out).mono ?_; rintro e w1 ⟨rfl, rfl⟩)
  go_ret2
  exact ⟨rfl, hb⟩
theorem jack_no (w : World) (v : Option Addr) (k r : Int) (h : NoM w v) : Calls Try.prog 48 #[.pointer v, .int .i64 k, .int .i64 r] w fun e w' => e = .returned (.tuple #[.agg #[.bool false, .bool false, .int .i64 0], .int .i64 8]) ∧ Below w.heap.size w w' := by
  have hb := below_new w (.cells #[.bool false, .bool false, .int .i64 0] 74)
  have HM := Lib.hid (made_no _ v (h.keep hb))
  clear h
  go_enter Try.func48, Try.ntmps48
  go_wp2_with (go_at_call 68; refine (HM.out).mono ?_; rintro e w1 ⟨rfl, rfl⟩)
  (try simp only [Exit.inBlock, Exit.then])
  refine bodyPost_ret (v := .tuple #[.agg #[.bool false, .bool false, .int .i64 0], .int .i64 8]) ?_ rfl ⟨rfl, ?_⟩
  · rw [results_cell_tmp rfl]
    go_simp
  · exact hb
end Go.Proofs.Ytpaemlkikkcjiaa
