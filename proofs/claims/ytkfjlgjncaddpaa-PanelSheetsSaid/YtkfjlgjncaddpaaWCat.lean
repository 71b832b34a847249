/- What Layout's deferred function does: a panic of the reader becomes the error of the plan. -/
import Derived.Test.YtkfjlgjncaddpaaRdf
import Derived.Recover
import Derived.Tactics2
import Derived.Laws.Pointers
namespace Go.Proofs.Ytkfjlgjncaddpaa
open Go.RowKit

theorem catch_idle (rp ep : Addr) (w : World) :
    CallsD Try.prog 46 #[.pointer (some rp), .pointer (some ep)] .returning w fun e u' w' => e = .returned (.tuple #[]) ∧ u' = .returning ∧ w' = w := by
  refine callsD_of_wpS Try.func46 rfl fun c₀ cs hu => ?_
  apply wpS_seq
  apply wpS_region
  simp [wpOpsS, go_sem, recoverD, hu, Try.ntmps46, Exit.thenS]
  rw [show (#[Value.pointer (some rp), Value.pointer (some ep)] ++ (Array.replicate 9 undef).setIfInBounds 3 Value.nilIface) = #[Value.pointer (some rp), Value.pointer (some ep), undef, undef, undef, Value.nilIface, undef, undef, undef, undef, undef] from rfl]
  refine wpS_of_wp ?_
  go_wp2
  cases c₀
  simp_all [bodyPostS, results, Try.results46]
theorem assert_pnc (w : World) : (Instr.typeAssert (Value.iface 92 (Value.agg #[])) 20 92 true).run Try.prog w = .ok (.tuple #[.agg #[], .bool true]) w := by kernel_rfl
set_option maxHeartbeats 1000000 in
set_option maxRecDepth 100000 in
theorem catch_panicking (b1 b2 : Nat) (older : List PanicEntry) (w : World) (v1 v2 : Value) (h1 : Blk 45 w b1 [v1]) (h2 : Blk 26 w b2 [v2]) (hne : b1 ≠ b2) :
    CallsD Try.prog 46 #[.pointer (some ⟨b1, 0, none⟩), .pointer (some ⟨b2, 0, none⟩)] (.panicking ({ v := .iface 92 (.agg #[]), recovered := false } :: older)) w fun e u' w' =>
      e = .returned (.tuple #[]) ∧ u' = .panicking ({ v := .iface 92 (.agg #[]), recovered := true } :: older) ∧ Blk 45 w' b1 [.slice none 0 0] ∧ Blk 26 w' b2 [.int .i64 2] ∧ ∀ B, B ≤ b1 → B ≤ b2 → Below B w w' := by
  have hta := assert_pnc
  have c1 := h1.cell 0
  have c2 := h2.cell 0
  have f1 := h1.frozen 0
  have f2 := h2.frozen 0
  have m1 := h1.set 0 (.slice none 0 0)
  have m2 := (h2.setOther (a := ⟨b1, 0, none⟩) (fun e => hne e.symm) (.slice none 0 0)).set 0 (.int .i64 2)
  have m3 := m1.setOther (a := ⟨b2, 0, none⟩) hne (.int .i64 2)
  have hn1 : ¬ b1 = b2 := hne
  have hn2 : ¬ b2 = b1 := fun e => hne e.symm
  have hl1 := h1.lt
  have hl2 := h2.lt
  have hn3 : ¬ b1 = w.heap.size := Nat.ne_of_lt hl1
  have hn4 : ¬ b2 = w.heap.size := Nat.ne_of_lt hl2
  simp only [List.getElem?_cons_zero] at c1 c2
  simp only [List.set_cons_zero] at m1 m2 m3
  have HM2 := Lib.hid (m2.alloc (.cells #[] 92))
  have HM3 := Lib.hid (m3.alloc (.cells #[] 92))
  have HBE : Hid (∀ B, B ≤ b1 → B ≤ b2 → Below B w (((w.setCell ⟨b1, 0, none⟩ (.slice none 0 0)).setCell ⟨b2, 0, none⟩ (.int .i64 2)).alloc (.cells #[] 92))) := Lib.hid fun B g1 g2 => (below_set (below_set (Below.refl B w) g1 _) g2 _).alloc (by simp; omega) _
  clear h1 h2 m1 m2 m3
  refine callsD_of_wpS Try.func46 rfl fun c₀ cs hu => ?_
  apply wpS_seq
  apply wpS_region
  simp [wpOpsS, go_sem, recoverD, hu, Try.ntmps46, Exit.thenS]
  rw [show (#[Value.pointer (some ⟨b1, 0, none⟩), Value.pointer (some ⟨b2, 0, none⟩)] ++ (Array.replicate 9 undef).setIfInBounds 3 (Value.iface 92 (Value.agg #[]))) = #[Value.pointer (some ⟨b1, 0, none⟩), Value.pointer (some ⟨b2, 0, none⟩), undef, undef, undef, (Value.iface 92 (Value.agg #[])), undef, undef, undef, undef, undef] from rfl]
  refine wpS_of_wp ?_
  go_wp2
  refine ⟨rfl, _, rfl, .tuple #[], by simp [results, Try.results46], rfl, rfl, HM3.out, HM2.out, HBE.out⟩
end Go.Proofs.Ytkfjlgjncaddpaa
