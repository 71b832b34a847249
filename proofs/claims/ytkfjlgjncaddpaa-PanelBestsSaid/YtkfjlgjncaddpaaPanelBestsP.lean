/- For every panel Best returns the plan that the document names, and its value, as the reference finds them, or the error that the document names. No condition. -/
import Derived.Test.YtkfjlgjncaddpaaRows
import Derived.Test.YtkfjlgjncaddpaaShlP
import Derived.Test.YtkfjlgjncaddpaaWLx
import Derived.WalkKit
import Derived.ProofKit
import Derived.OpenShut
import Derived.ShutString
import Derived.ChangeOld
import Derived.Below
namespace Go.Proofs.Ytkfjlgjncaddpaa.panelBests
open Go.ChangeShapes Go.WideShapes Go.ChangeAt Go.RowKit
open Go.ChangeMaps (open_string shut_string)

theorem own : ownKnob Try.prog.godebug = none := by kernel_rfl
theorem laidOut : laidOutB Try.prog = true := by kernel_rfl

theorem walk (x0 y0 k0 : Int) (a0 : Option Addr) (len0 cap0 : Nat) (z0 : List Sh) (w : World) (w0 : ShArg w a0 len0 cap0 z0) (fx0 : (Lit.int .i64 x0).wf = true) (fy0 : (Lit.int .i64 y0).wf = true) (fk0 : (Lit.int .i64 k0).wf = true) :
    Calls Try.prog 4 #[.agg #[.int .i64 x0, .int .i64 y0, .int .i64 k0, .slice a0 len0 cap0]] w fun e w' => e = .returned (.bool true) ∧ Below w.heap.size w w' := by
  exact bests_law x0 y0 k0 a0 cap0 len0 z0 w w0.1 w0.2.1 w0.2.2.1 w0.2.2.2.1 (wf_i64 fx0) (wf_i64 fy0)

set_option maxRecDepth 100000 in
theorem lifted (os : Os) (started : os.Started) (H : Type) (enc : TypeId × Value → H) :
    ReturnsInHanded {} Try.checked os 4 .any (Rows.panelBestsSpec.pre6 enc Try.prog Try.f4 Rows.panelBestsRow.domain false) (Rows.panelBestsSpec.post enc Try.prog Try.f4 false true false false) := by
  refine returnsInHanded_of_change (C := Try.checked) own started (by kernel_rfl) Try.func4
    (ChangeSpec.witness6 (enc := enc) (C := Try.checked) false ⟨#[], #[.agg #[.int .i64 0, .int .i64 0, .int .i64 0, .slice none 0 0]], []⟩ 8 (by kernel_rfl) (by kernel_rfl) (by kernel_rfl) (by kernel_rfl)) ?_
  intro W base args ds gs before hval0 hW hcnd _
  have hval : ∀ (j : Nat) t v, Try.f4.params[j]? = some t → args[j]? = some v → Value.okWide Try.prog W .any base t v := hval0
  have hW' := hW
  obtain ⟨p, q, hA0, hV, rfl, hfz, hnd⟩ := hW
  have hA : DataW.TrodAll enc Try.prog W 0 (fun _ => true) true Try.f4.params.toList args.toList ds p := hA0
  rw [Try.params4] at hA hval
  obtain ⟨v0, vs0, d0, ds0, p0, q0, hargs, rfl, rfl, h0, r0⟩ := trodAll_cons hA
  obtain ⟨rfl, rfl, rfl⟩ := trodAll_nil r0
  obtain rfl : args = #[v0] := by cases args; simp_all
  obtain ⟨rfl, rfl⟩ := trodVars_none hV
  have k0' := h0
  have lt0 : ∀ x ∈ p0, x.block < W.heap.size := by obtain ⟨m, hm⟩ := k0'; exact DataW.trod_lt m _ _ _ hm
  obtain ⟨x0, y0, k0, a0, len0, cap0, z0, rfl, w0, fx0, fy0, fk0⟩ := open_panel (hval 0 24 v0 rfl rfl) h0
  clear hA0 hval0
  refine (walk x0 y0 k0 a0 len0 cap0 z0 W w0 fx0 fy0 fk0).mono fun e W' ⟨he, bel⟩ => ?_
  subst he
  exact ⟨_, rfl, _, _, _, [], _, [], hW', trodAll_mk1 (shut_bool Try.underlying4 _), (trodAll_cons_mk (Below.trod laidOut (by kernel_rfl) (of_decide_eq_true (by kernel_rfl)) k0' bel lt0) trodAll_mk0), rfl, bel.frame _, fun h => by cases h⟩

set_option maxHeartbeats 40000000 in
set_option maxRecDepth 100000 in
theorem closed : joinedFacts Try.prog 4 Try.f4 Rows.panelBestsSpec Rows.panelBestsRow = true := by
  unfold joinedFacts
  repeat' (with_reducible refine and_t ?_ ?_)
  all_goals (as_aux_lemma => kernel_rfl)

theorem over : Rows.panelBestsRow.holds Try.pinned (OpenSpec.ofChange Rows.panelBestsSpec) :=
  OpenClaim.holds_of_wide 4 Try.f4 rfl rfl rfl rfl rfl rfl rfl ⟨rfl, rfl, rfl, rfl, rfl⟩ rfl rfl rfl rfl rfl (by kernel_rfl) Try.func4 closed
    (of_decide_eq_true (by kernel_rfl)) (by unfold Func.isWrapper; rw [if_neg (of_decide_eq_false (by kernel_rfl))]; exact ⟨rfl, rfl⟩)
    (fun os started H enc _ => lifted os started H enc)

end Go.Proofs.Ytkfjlgjncaddpaa.panelBests
namespace Go.Proofs.Ytkfjlgjncaddpaa
/-- For every panel Best returns the plan that the document names, and its value, as the reference finds them, or the error that the document names. No condition. -/
theorem panelBests_holds : Rows.PanelBestsSaid := panelBests.over
end Go.Proofs.Ytkfjlgjncaddpaa
