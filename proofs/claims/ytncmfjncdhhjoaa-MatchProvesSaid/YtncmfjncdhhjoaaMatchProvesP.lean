/- For every table and every matching: Proves reports whether its prices prove it, or returns the error that the document names. No condition. -/
import Derived.Test.YtncmfjncdhhjoaaRows
import Derived.Test.YtncmfjncdhhjoaaShl4
import Derived.Test.YtncmfjncdhhjoaaWPvL
import Derived.WalkKit
import Derived.ProofKit
import Derived.OpenShut
import Derived.ShutString
import Derived.ChangeOld
import Derived.Below
namespace Go.Proofs.Ytncmfjncdhhjoaa.matchProves
open Go.ChangeShapes Go.WideShapes Go.ChangeAt Go.RowKit
open Go.ChangeMaps (open_string shut_string)

theorem own : ownKnob Try.prog.godebug = none := by kernel_rfl
theorem laidOut : laidOutB Try.prog = true := by kernel_rfl

theorem walk (a0 : Option Addr) (len0 cap0 : Nat) (a1 : Option Addr) (len1 cap1 : Nat) (z1 : List Int) (b1 : Option Addr) (lem1 caq1 : Nat) (y1 : List Int) (c1 : Option Addr) (leo1 caw1 : Nat) (x1 : List Int) (s1 : Int) (w : World) (w0 : IsRows w a0 len0 cap0) (w1 : IsRow w a1 len1 cap1 z1) (w1' : IsRow w b1 lem1 caq1 y1) (w1'' : IsRow w c1 leo1 caw1 x1) (f1 : (Lit.int .i64 s1).wf = true) :
    Calls Try.prog 5 #[.slice a0 len0 cap0, .agg #[.slice a1 len1 cap1, .slice b1 lem1 caq1, .slice c1 leo1 caw1, .int .i64 s1]] w fun e w' => e = .returned (.bool true) ∧ Below w.heap.size w w' := by
  obtain ⟨ls, T, hL⟩ := rows_tab w0
  obtain ⟨l0, p0, p1, p2, p3, _⟩ := rows_ints w1
  obtain ⟨l1, q0, q1, q2, q3, _⟩ := rows_ints w1'
  obtain ⟨l2, r0, r1, r2, r3, _⟩ := rows_ints w1''
  exact matchProves_any a0 a1 b1 c1 cap0 len0 cap1 len1 caq1 lem1 caw1 leo1 ls l0 l1 l2 s1 w T hL p0 p1 p2 p3 q0 q1 q2 q3 r0 r1 r2 r3

set_option maxRecDepth 100000 in
theorem lifted (os : Os) (started : os.Started) (H : Type) (enc : TypeId × Value → H) :
    ReturnsInHanded {} Try.checked os 5 .any (Rows.matchProvesSpec.pre6 enc Try.prog Try.f5 Rows.matchProvesRow.domain false) (Rows.matchProvesSpec.post enc Try.prog Try.f5 false true false false) := by
  refine returnsInHanded_of_change (C := Try.checked) own started (by kernel_rfl) Try.func5
    (ChangeSpec.witness6 (enc := enc) (C := Try.checked) false ⟨#[], #[.slice none 0 0, .agg #[.slice none 0 0, .slice none 0 0, .slice none 0 0, .int .i64 0]], []⟩ 8 (by kernel_rfl) (by kernel_rfl) (by kernel_rfl) (by kernel_rfl)) ?_
  intro W base args ds gs before hval0 hW hcnd _
  have hval : ∀ (j : Nat) t v, Try.f5.params[j]? = some t → args[j]? = some v → Value.okWide Try.prog W .any base t v := hval0
  have hW' := hW
  obtain ⟨p, q, hA0, hV, rfl, hfz, hnd⟩ := hW
  have hA : DataW.TrodAll enc Try.prog W 0 (fun _ => true) true Try.f5.params.toList args.toList ds p := hA0
  rw [Try.params5] at hA hval
  obtain ⟨v0, vs0, d0, ds0, p0, q0, hargs, rfl, rfl, h0, r0⟩ := trodAll_cons hA
  obtain ⟨v1, vs1, d1, ds1, p1, q1, rfl, rfl, rfl, h1, r1⟩ := trodAll_cons r0
  obtain ⟨rfl, rfl, rfl⟩ := trodAll_nil r1
  obtain rfl : args = #[v0, v1] := by cases args; simp_all
  obtain ⟨rfl, rfl⟩ := trodVars_none hV
  obtain ⟨a0, len0, cap0, rfl⟩ := okWide_slice Try.underlying22 (hval 0 22 v0 rfl rfl)
  have k0 := h0
  have lt0 : ∀ x ∈ p0, x.block < W.heap.size := by obtain ⟨m, hm⟩ := k0; exact DataW.trod_lt m _ _ _ hm
  have w0 : IsRows W a0 len0 cap0 := by
    obtain ⟨fuel, hf⟩ := h0
    rcases Go.Deep.open_int_rows Try.underlying22 Try.underlying23 Try.underlying3 (by kernel_rfl) (by kernel_rfl) hf with ⟨hcs, _⟩ | ⟨x, l, c, Ar, Lr, Cr, Zr, hcs, _, hl, hm, _, hall⟩
    · simp [Value.cells] at hcs
      obtain ⟨rfl, rfl, rfl⟩ := hcs
      exact .inl ⟨rfl, rfl, rfl⟩
    · simp [Value.cells] at hcs
      obtain ⟨rfl, rfl, rfl⟩ := hcs
      exact .inr ⟨_, Ar, Lr, Cr, Zr, rfl, hl, hm, fun r hr => by
        obtain ⟨q1, q2, _, q4, _, q6, q7⟩ := hall r hr
        exact ⟨q1, q2, q4, q6, fun a' ha c hc => (q7 a' ha).2 c hc⟩⟩
  have k1' := h1
  have lt1 : ∀ x ∈ p1, x.block < W.heap.size := by obtain ⟨m, hm⟩ := k1'; exact DataW.trod_lt m _ _ _ hm
  obtain ⟨a1, len1, cap1, z1, b1, lem1, caq1, y1, c1, leo1, caw1, x1, s1, rfl, w1, w1', w1'', f1⟩ := open_matching (hval 1 35 v1 rfl rfl) h1
  clear hA0 hval0
  refine (walk a0 len0 cap0 a1 len1 cap1 z1 b1 lem1 caq1 y1 c1 leo1 caw1 x1 s1 W w0 w1 w1' w1'' f1).mono fun e W' ⟨he, bel⟩ => ?_
  subst he
  exact ⟨_, rfl, _, _, _, [], _, [], hW', trodAll_mk1 (shut_bool Try.underlying4 _), (trodAll_cons_mk (Below.trod laidOut (by kernel_rfl) (of_decide_eq_true (by kernel_rfl)) k0 bel lt0) (trodAll_cons_mk (Below.trod laidOut (by kernel_rfl) (of_decide_eq_true (by kernel_rfl)) k1' bel lt1) trodAll_mk0)), rfl, bel.frame _, fun h => by cases h⟩

set_option maxHeartbeats 40000000 in
set_option maxRecDepth 100000 in
theorem closed : joinedFacts Try.prog 5 Try.f5 Rows.matchProvesSpec Rows.matchProvesRow = true := by
  unfold joinedFacts
  repeat' (with_reducible refine and_t ?_ ?_)
  all_goals (as_aux_lemma => kernel_rfl)

theorem over : Rows.matchProvesRow.holds Try.pinned (OpenSpec.ofChange Rows.matchProvesSpec) :=
  OpenClaim.holds_of_wide 5 Try.f5 rfl rfl rfl rfl rfl rfl rfl ⟨rfl, rfl, rfl, rfl, rfl⟩ rfl rfl rfl rfl rfl (by kernel_rfl) Try.func5 closed
    (of_decide_eq_true (by kernel_rfl)) (by unfold Func.isWrapper; rw [if_neg (of_decide_eq_false (by kernel_rfl))]; exact ⟨rfl, rfl⟩)
    (fun os started H enc _ => lifted os started H enc)

end Go.Proofs.Ytncmfjncdhhjoaa.matchProves
namespace Go.Proofs.Ytncmfjncdhhjoaa
/-- For every table and every matching: Proves reports whether its prices prove it, or returns the error that the document names. No condition. -/
theorem matchProves_holds : Rows.MatchProvesSaid := matchProves.over
end Go.Proofs.Ytncmfjncdhhjoaa
