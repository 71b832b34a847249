/- A rectangle is cut across, and down. -/
import Derived.Test.YtkfjlgjncaddpaaWSm
import Derived.BigRegion
namespace Go.Proofs.Ytkfjlgjncaddpaa
open Go.RowKit

theorem results_cells2 {P : Program} {fn : Func} {p q : Tmp} {ty : TypeId} (h : fn.results = #[.cell p ty, .cell q ty]) (tmps : Array Value) (w : World) (g g' : Nat) (t t' : TypeId) (cs cs' : List Value) (d : TypeDesc)
    (hp : tmps.getD p undef = .pointer (some ⟨g, 0, none⟩)) (hq : tmps.getD q undef = .pointer (some ⟨g', 0, none⟩)) (hg : Blk t w g cs) (hg' : Blk t' w g' cs')
    (hu : P.underlying ty = some d) (hd : (match d with | .struct _ | .array _ _ => true | _ => false) = true) (hi : (P.info? ty).map (·.size) = some cs.length) (hi' : (P.info? ty).map (·.size) = some cs'.length) :
    (results fn tmps).run P w = .ok (.tuple #[.agg cs.toArray, .agg cs'.toArray]) w := by
  have hp' : tmps[p]?.getD undef = .pointer (some ⟨g, 0, none⟩) := by simpa using hp
  have hq' : tmps[q]?.getD undef = .pointer (some ⟨g', 0, none⟩) := by simpa using hq
  have h1 := run_loadVar_row (P := P) w g t ty cs.toArray (0, 0) d hg hu hd (by simpa using hi)
  have h2 := run_loadVar_row (P := P) w g' t' ty cs'.toArray (0, 0) d hg' hu hd (by simpa using hi')
  simp [results, h, hp', hq', asAddr, h1, h2, Sem.run_bind, Result.andThen]
theorem und89 : (Try.prog.underlying 89).map (fun d => match d with | .struct _ | .array _ _ => true | _ => false) = some true := by kernel_rfl
theorem size89 : (Try.prog.info? 89).map (·.size) = some 4 := by kernel_rfl

set_option maxHeartbeats 1000000 in
set_option maxRecDepth 100000 in
theorem across_any (x y a b at_ kerf : Int) (w : World) (h1 : -1000000 ≤ x ∧ x ≤ 1000000) (h2 : -1000000 ≤ a ∧ a ≤ 1000000) (h3 : -1000000 ≤ at_ ∧ at_ ≤ 1000000) (h4 : -1000000 ≤ kerf ∧ kerf ≤ 1000000) :
    Calls Try.prog 56 #[rcV x y a b, .int .i64 at_, .int .i64 kerf] w fun e w' => e = .returned (.tuple #[rcV x y at_ b, rcV (x + (at_ + kerf)) y (a - (at_ + kerf)) b]) ∧ Below w.heap.size w w' := by
  have e1 : IntKind.i64.wrap (at_ + kerf) = at_ + kerf := wrapI (by omega) (by omega)
  have e2 : IntKind.i64.wrap (x + (at_ + kerf)) = x + (at_ + kerf) := wrapI (by omega) (by omega)
  have e3 : IntKind.i64.wrap (a - (at_ + kerf)) = a - (at_ + kerf) := wrapI (by omega) (by omega)
  have fin : ∀ (c0 c1 c2 : List Value), ∃ W, W = ((w.alloc (.cells c0.toArray 89)).alloc (.cells c1.toArray 89)).alloc (.cells c2.toArray 89) ∧ Blk 89 W.drew.drew (w.heap.size + 1) c1 ∧ Blk 89 W.drew.drew (w.heap.size + 1 + 1) c2 ∧ Below w.heap.size w W.drew.drew := by
    intro c0 c1 c2
    refine ⟨_, rfl, ?_, ?_, ?_⟩
    · have := (Blk.new (w.alloc (.cells c0.toArray 89)) 89 c1).alloc (.cells c2.toArray 89)
      exact Blk.drew (Blk.drew (by simpa using this))
    · have := Blk.new ((w.alloc (.cells c0.toArray 89)).alloc (.cells c1.toArray 89)) 89 c2
      exact Blk.drew (Blk.drew (by simpa using this))
    · exact below_drewN ((((Below.refl _ _).alloc (Nat.le_refl _) _).alloc (by simp) _).alloc (by simp; omega) _) 2
  obtain ⟨W, hW, b1, b2, hb⟩ := fin [.int .i64 x, .int .i64 y, .int .i64 a, .int .i64 b] [.int .i64 x, .int .i64 y, .int .i64 at_, .int .i64 b] [.int .i64 (x + (at_ + kerf)), .int .i64 y, .int .i64 (a - (at_ + kerf)), .int .i64 b]
  have HW := Lib.hid hW
  clear hW fin
  unfold rcV
  go_enter Try.func56, Try.ntmps56
  go_wp2
  go_region
  all_goals go_wp2
  all_goals go_region
  go_wp2
  rw [← HW.out]
  obtain ⟨d', hd, hm⟩ := Option.map_eq_some_iff.1 und89
  refine bodyPost_ret (results_cells2 rfl _ _ _ _ _ _ _ _ d' rfl rfl b1 b2 hd ?_ size89 size89) rfl ⟨rfl, hb⟩
  cases d' <;> first | rfl | exact absurd hm (by simp)
set_option maxHeartbeats 1000000 in
set_option maxRecDepth 100000 in
theorem down_any (x y a b at_ kerf : Int) (w : World) (h1 : -1000000 ≤ y ∧ y ≤ 1000000) (h2 : -1000000 ≤ b ∧ b ≤ 1000000) (h3 : -1000000 ≤ at_ ∧ at_ ≤ 1000000) (h4 : -1000000 ≤ kerf ∧ kerf ≤ 1000000) :
    Calls Try.prog 57 #[rcV x y a b, .int .i64 at_, .int .i64 kerf] w fun e w' => e = .returned (.tuple #[rcV x y a at_, rcV x (y + (at_ + kerf)) a (b - (at_ + kerf))]) ∧ Below w.heap.size w w' := by
  have e1 : IntKind.i64.wrap (at_ + kerf) = at_ + kerf := wrapI (by omega) (by omega)
  have e2 : IntKind.i64.wrap (y + (at_ + kerf)) = y + (at_ + kerf) := wrapI (by omega) (by omega)
  have e3 : IntKind.i64.wrap (b - (at_ + kerf)) = b - (at_ + kerf) := wrapI (by omega) (by omega)
  have fin : ∀ (c0 c1 c2 : List Value), ∃ W, W = ((w.alloc (.cells c0.toArray 89)).alloc (.cells c1.toArray 89)).alloc (.cells c2.toArray 89) ∧ Blk 89 W.drew.drew (w.heap.size + 1) c1 ∧ Blk 89 W.drew.drew (w.heap.size + 1 + 1) c2 ∧ Below w.heap.size w W.drew.drew := by
    intro c0 c1 c2
    refine ⟨_, rfl, ?_, ?_, ?_⟩
    · have := (Blk.new (w.alloc (.cells c0.toArray 89)) 89 c1).alloc (.cells c2.toArray 89)
      exact Blk.drew (Blk.drew (by simpa using this))
    · have := Blk.new ((w.alloc (.cells c0.toArray 89)).alloc (.cells c1.toArray 89)) 89 c2
      exact Blk.drew (Blk.drew (by simpa using this))
    · exact below_drewN ((((Below.refl _ _).alloc (Nat.le_refl _) _).alloc (by simp) _).alloc (by simp; omega) _) 2
  obtain ⟨W, hW, b1, b2, hb⟩ := fin [.int .i64 x, .int .i64 y, .int .i64 a, .int .i64 b] [.int .i64 x, .int .i64 y, .int .i64 a, .int .i64 at_] [.int .i64 x, .int .i64 (y + (at_ + kerf)), .int .i64 a, .int .i64 (b - (at_ + kerf))]
  have HW := Lib.hid hW
  clear hW fin
  unfold rcV
  go_enter Try.func57, Try.ntmps57
  go_wp2
  go_region
  all_goals go_wp2
  all_goals go_region
  go_wp2
  rw [← HW.out]
  obtain ⟨d', hd, hm⟩ := Option.map_eq_some_iff.1 und89
  refine bodyPost_ret (results_cells2 rfl _ _ _ _ _ _ _ _ d' rfl rfl b1 b2 hd ?_ size89 size89) rfl ⟨rfl, hb⟩
  cases d' <;> first | rfl | exact absurd hm (by simp)
end Go.Proofs.Ytkfjlgjncaddpaa
