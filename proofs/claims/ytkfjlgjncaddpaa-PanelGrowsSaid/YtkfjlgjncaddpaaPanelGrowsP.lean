/- For every panel and every three numbers the law returns true. -/
import Derived.Test.YtkfjlgjncaddpaaRows
import Derived.Test.YtkfjlgjncaddpaaShlG
import Derived.Test.YtkfjlgjncaddpaaWLg
import Derived.WalkKit
import Derived.ProofKit
import Derived.OpenShut
import Derived.ShutString
import Derived.ChangeOld
import Derived.Below
namespace Go.Proofs.Ytkfjlgjncaddpaa.panelGrows
open Go.ChangeShapes Go.WideShapes Go.ChangeAt Go.RowKit
open Go.ChangeMaps (open_string shut_string)

theorem own : ownKnob Try.prog.godebug = none := by kernel_rfl
theorem laidOut : laidOutB Try.prog = true := by kernel_rfl

theorem walk (x0 y0 k0 : Int) (a0 : Option Addr) (len0 cap0 : Nat) (z0 : List Sh) (s10 s11 s12 : Int) (w : World) (w0 : ShArg w a0 len0 cap0 z0) (fx0 : (Lit.int .i64 x0).wf = true) (fy0 : (Lit.int .i64 y0).wf = true) (fk0 : (Lit.int .i64 k0).wf = true) :
    Calls Try.prog 8 #[.agg #[.int .i64 x0, .int .i64 y0, .int .i64 k0, .slice a0 len0 cap0], .agg #[.int .i64 s10, .int .i64 s11, .int .i64 s12]] w fun e w' => e = .returned (.bool true) ∧ Below w.heap.size w w' := by
  exact grows_law x0 y0 k0 a0 cap0 len0 z0 s10 s11 s12 w w0.1 w0.2.1 w0.2.2.1 w0.2.2.2.1 (wf_i64 fx0) (wf_i64 fy0)

set_option maxRecDepth 100000 in
theorem lifted (os : Os) (started : os.Started) (H : Type) (enc : TypeId × Value → H) :
    ReturnsInHanded {} Try.checked os 8 .any (Rows.panelGrowsSpec.pre6 enc Try.prog Try.f8 Rows.panelGrowsRow.domain false) (Rows.panelGrowsSpec.post enc Try.prog Try.f8 false true false false) := by
  refine returnsInHanded_of_change (C := Try.checked) own started (by kernel_rfl) Try.func8
    (ChangeSpec.witness6 (enc := enc) (C := Try.checked) false ⟨#[], #[.agg #[.int .i64 0, .int .i64 0, .int .i64 0, .slice none 0 0], .agg #[.int .i64 0, .int .i64 0, .int .i64 0]], []⟩ 8 (by kernel_rfl) (by kernel_rfl) (by kernel_rfl) (by kernel_rfl)) ?_
  intro W base args ds gs before hval0 hW hcnd _
  have hval : ∀ (j : Nat) t v, Try.f8.params[j]? = some t → args[j]? = some v → Value.okWide Try.prog W .any base t v := hval0
  have hW' := hW
  obtain ⟨p, q, hA0, hV, rfl, hfz, hnd⟩ := hW
  have hA : DataW.TrodAll enc Try.prog W 0 (fun _ => true) true Try.f8.params.toList args.toList ds p := hA0
  rw [Try.params8] at hA hval
  obtain ⟨v0, vs0, d0, ds0, p0, q0, hargs, rfl, rfl, h0, r0⟩ := trodAll_cons hA
  obtain ⟨v1, vs1, d1, ds1, p1, q1, rfl, rfl, rfl, h1, r1⟩ := trodAll_cons r0
  obtain ⟨rfl, rfl, rfl⟩ := trodAll_nil r1
  obtain rfl : args = #[v0, v1] := by cases args; simp_all
  obtain ⟨rfl, rfl⟩ := trodVars_none hV
  have k0' := h0
  have lt0 : ∀ x ∈ p0, x.block < W.heap.size := by obtain ⟨m, hm⟩ := k0'; exact DataW.trod_lt m _ _ _ hm
  obtain ⟨x0, y0, k0, a0, len0, cap0, z0, rfl, w0, fx0, fy0, fk0⟩ := open_panel (hval 0 24 v0 rfl rfl) h0
  have k1 := h1
  have lt1 : ∀ x ∈ p1, x.block < W.heap.size := by obtain ⟨m, hm⟩ := k1; exact DataW.trod_lt m _ _ _ hm
  obtain ⟨s10, s11, s12, rfl⟩ := open_a3 (hval 1 63 v1 rfl rfl) h1
  clear hA0 hval0
  refine (walk x0 y0 k0 a0 len0 cap0 z0 s10 s11 s12 W w0 fx0 fy0 fk0).mono fun e W' ⟨he, bel⟩ => ?_
  subst he
  exact ⟨_, rfl, _, _, _, [], _, [], hW', trodAll_mk1 (shut_bool Try.underlying4 _), (trodAll_cons_mk (Below.trod laidOut (by kernel_rfl) (of_decide_eq_true (by kernel_rfl)) k0' bel lt0) (trodAll_cons_mk (Below.trod laidOut (by kernel_rfl) (of_decide_eq_true (by kernel_rfl)) k1 bel lt1) trodAll_mk0)), rfl, bel.frame _, fun h => by cases h⟩

set_option maxHeartbeats 40000000 in
set_option maxRecDepth 100000 in
theorem closed : joinedFacts Try.prog 8 Try.f8 Rows.panelGrowsSpec Rows.panelGrowsRow = true := by
  unfold joinedFacts
  repeat' (with_reducible refine and_t ?_ ?_)
  all_goals (as_aux_lemma => kernel_rfl)

theorem over : Rows.panelGrowsRow.holds Try.pinned (OpenSpec.ofChange Rows.panelGrowsSpec) :=
  OpenClaim.holds_of_wide 8 Try.f8 rfl rfl rfl rfl rfl rfl rfl ⟨rfl, rfl, rfl, rfl, rfl⟩ rfl rfl rfl rfl rfl (by kernel_rfl) Try.func8 closed
    (of_decide_eq_true (by kernel_rfl)) (by unfold Func.isWrapper; rw [if_neg (of_decide_eq_false (by kernel_rfl))]; exact ⟨rfl, rfl⟩)
    (fun os started H enc _ => lifted os started H enc)

end Go.Proofs.Ytkfjlgjncaddpaa.panelGrows
namespace Go.Proofs.Ytkfjlgjncaddpaa
/-- In the table no rectangle is worth less than a smaller one in its row or column, than a shape of its size, or than both parts of a cut of it, for all panels and places. No condition. -/
theorem panelGrows_holds : Rows.PanelGrowsSaid := panelGrows.over
end Go.Proofs.Ytkfjlgjncaddpaa
