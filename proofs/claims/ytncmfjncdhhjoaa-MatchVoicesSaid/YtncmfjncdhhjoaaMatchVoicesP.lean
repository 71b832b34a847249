/- For every shop: Voice gives what the reference's Table and Best give, or the same error, and cuts off what the lengths ask. No condition. -/
import Derived.Test.YtncmfjncdhhjoaaRows
import Derived.Test.YtncmfjncdhhjoaaShl4
import Derived.Test.YtncmfjncdhhjoaaWVcL
import Derived.WalkKit
import Derived.ProofKit
import Derived.OpenShut
import Derived.ShutString
import Derived.ChangeOld
import Derived.Below
namespace Go.Proofs.Ytncmfjncdhhjoaa.matchVoices
open Go.ChangeShapes Go.WideShapes Go.ChangeAt Go.RowKit
open Go.ChangeMaps (open_string shut_string)

theorem own : ownKnob Try.prog.godebug = none := by kernel_rfl
theorem laidOut : laidOutB Try.prog = true := by kernel_rfl

theorem walk (a0 : Option Addr) (len0 cap0 : Nat) (z0 : List J2) (b0 : Option Addr) (lem0 caq0 : Nat) (y0 : List J2) (s0 t0 : Int) (w : World) (w0 : JArg w a0 len0 cap0 z0) (x0 : JArg w b0 lem0 caq0 y0) (_f0 : (Lit.int .i64 s0).wf = true) (_g0 : (Lit.int .i64 t0).wf = true) :
    Calls Try.prog 10 #[.agg #[.slice a0 len0 cap0, .slice b0 lem0 caq0, .int .i64 s0, .int .i64 t0]] w fun e w' => e = .returned (.bool true) ∧ Below w.heap.size w w' := by
  exact matchVoices_any a0 b0 cap0 caq0 len0 lem0 z0 y0 s0 t0 w w0.1 x0.1 w0.2.1 x0.2.1 w0.2.2.1 x0.2.2.1 w0.2.2.2.1 x0.2.2.2.1

set_option maxRecDepth 100000 in
theorem lifted (os : Os) (started : os.Started) (H : Type) (enc : TypeId × Value → H) :
    ReturnsInHanded {} Try.checked os 10 .any (Rows.matchVoicesSpec.pre6 enc Try.prog Try.f10 Rows.matchVoicesRow.domain false) (Rows.matchVoicesSpec.post enc Try.prog Try.f10 false true false false) := by
  refine returnsInHanded_of_change (C := Try.checked) own started (by kernel_rfl) Try.func10
    (ChangeSpec.witness6 (enc := enc) (C := Try.checked) false ⟨#[], #[.agg #[.slice none 0 0, .slice none 0 0, .int .i64 0, .int .i64 0]], []⟩ 8 (by kernel_rfl) (by kernel_rfl) (by kernel_rfl) (by kernel_rfl)) ?_
  intro W base args ds gs before hval0 hW hcnd _
  have hval : ∀ (j : Nat) t v, Try.f10.params[j]? = some t → args[j]? = some v → Value.okWide Try.prog W .any base t v := hval0
  have hW' := hW
  obtain ⟨p, q, hA0, hV, rfl, hfz, hnd⟩ := hW
  have hA : DataW.TrodAll enc Try.prog W 0 (fun _ => true) true Try.f10.params.toList args.toList ds p := hA0
  rw [Try.params10] at hA hval
  obtain ⟨v0, vs0, d0, ds0, p0, q0, hargs, rfl, rfl, h0, r0⟩ := trodAll_cons hA
  obtain ⟨rfl, rfl, rfl⟩ := trodAll_nil r0
  obtain rfl : args = #[v0] := by cases args; simp_all
  obtain ⟨rfl, rfl⟩ := trodVars_none hV
  have k0' := h0
  have lt0 : ∀ x ∈ p0, x.block < W.heap.size := by obtain ⟨m, hm⟩ := k0'; exact DataW.trod_lt m _ _ _ hm
  obtain ⟨a0, len0, cap0, z0, b0, lem0, caq0, y0, s0, t0, rfl, w0, x0, f0, g0⟩ := open_shop (hval 0 57 v0 rfl rfl) h0
  clear hA0 hval0
  refine (walk a0 len0 cap0 z0 b0 lem0 caq0 y0 s0 t0 W w0 x0 f0 g0).mono fun e W' ⟨he, bel⟩ => ?_
  subst he
  exact ⟨_, rfl, _, _, _, [], _, [], hW', trodAll_mk1 (shut_bool Try.underlying4 _), (trodAll_cons_mk (Below.trod laidOut (by kernel_rfl) (of_decide_eq_true (by kernel_rfl)) k0' bel lt0) trodAll_mk0), rfl, bel.frame _, fun h => by cases h⟩

set_option maxHeartbeats 40000000 in
set_option maxRecDepth 100000 in
theorem closed : joinedFacts Try.prog 10 Try.f10 Rows.matchVoicesSpec Rows.matchVoicesRow = true := by
  unfold joinedFacts
  repeat' (with_reducible refine and_t ?_ ?_)
  all_goals (as_aux_lemma => kernel_rfl)

theorem over : Rows.matchVoicesRow.holds Try.pinned (OpenSpec.ofChange Rows.matchVoicesSpec) :=
  OpenClaim.holds_of_wide 10 Try.f10 rfl rfl rfl rfl rfl rfl rfl ⟨rfl, rfl, rfl, rfl, rfl⟩ rfl rfl rfl rfl rfl (by kernel_rfl) Try.func10 closed
    (of_decide_eq_true (by kernel_rfl)) (by unfold Func.isWrapper; rw [if_neg (of_decide_eq_false (by kernel_rfl))]; exact ⟨rfl, rfl⟩)
    (fun os started H enc _ => lifted os started H enc)

end Go.Proofs.Ytncmfjncdhhjoaa.matchVoices
namespace Go.Proofs.Ytncmfjncdhhjoaa
/-- For every shop: Voice gives what the reference's Table and Best give, or the same error, and cuts off what the lengths ask. No condition. -/
theorem matchVoices_holds : Rows.MatchVoicesSaid := matchVoices.over
end Go.Proofs.Ytncmfjncdhhjoaa
