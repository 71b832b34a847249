/- findColumn of a pairing. -/
import Derived.Test.YtncmfjncdhhjoaaWRoom
import Derived.Deep.RegionLaw
namespace Go.Proofs.Ytncmfjncdhhjoaa
open Go.RowKit

theorem sizeB : (Try.prog.info? 4).map (·.size) = some 1 := by kernel_rfl
theorem cntB_le (s : Nat → Bool) : ∀ m, cntB s m ≤ m
  | 0 => Nat.le_refl _
  | m + 1 => by have := cntB_le s m; simp only [cntB]; split <;> omega

set_option maxHeartbeats 2000000 in
set_option maxRecDepth 100000 in
theorem findPairT (L : List (Nat × List Value)) (B pp go gk gs m : Nat) (cap : Value) (kp : Nat → Bool) (may : Nat → Nat → Bool) (Rk : Nat → Prop) (w0 : World) (hm : m ≤ 64)
    (hmay : ∀ W, Below B w0 W → ∀ row k, Rk row → k < m → Calls Try.prog 81 #[.int .i64 ((row : Nat) : Int), .int .i64 ((k : Nat) : Int), cap] W fun e w' => e = .returned (.bool (may row k)) ∧ Below W.heap.size W w')
    (row : Nat) (o : Nat → Int) (s : Nat → Bool) (w : World) (hw : Below B w0 w) (hrk : Rk row) (hdom : ∀ j, j < m → -1 ≤ o j) (hown : ∀ j, j < m → ∀ q : Nat, o j = (q : Int) → Rk q)
    (hP : PaM L B w pp go gk gs (.func (.func 81) #[] #[cap]) m o kp s) :
    Calls Try.prog 61 #[.pointer (some ⟨pp, 0, none⟩), .int .i64 (row : Int)] w fun e w' =>
      ∃ b o' s', e = .returned (.bool b) ∧ Room m may row 0 o kp b o' s' ∧ PaM L B w' pp go gk gs (.func (.func 81) #[] #[cap]) m o' kp s' ∧ Below B w w' := by
  have hfar := hP.far
  have hroom := fun W h1 h2 => makeRoomT L B pp go gk gs m cap kp may Rk w0 hm hmay (m + 1) row o kp W (by have := cntB_le kp m; omega) h1 hrk hdom hown h2
  have p3 : w.cell? ⟨pp, 3, none⟩ = some (.slice (some ⟨gk, 0, none⟩) m m) := hP.box.cell 3
  have p4 : w.cell? ⟨pp, 4, none⟩ = some (.slice (some ⟨gs, 0, none⟩) m m) := hP.box.cell 4
  have hv := (hP.kept.drew).vals0
  have hsn := hP.seen.drew
  have hlen : (flB kp m).length = m * 1 := by rw [flB_len]; omega
  have hfit : 0 + (flB kp m).length ≤ (flB s m).length := by rw [flB_len, flB_len]; omega
  have hone : ∀ v ∈ flB kp m, v.oneCell' = true := by
    intro v hv
    unfold flB at hv
    obtain ⟨k, _, rfl⟩ := List.mem_map.1 hv
    rfl
  have hst : (flB s m).take 0 ++ flB kp m ++ (flB s m).drop (0 + (flB kp m).length) = flB kp m := by
    rw [List.take_zero, List.nil_append, List.drop_eq_nil_of_le (by rw [flB_len, flB_len]; omega), List.append_nil]
  have HP := Lib.hid hP
  have HR := Lib.hid hroom
  have HV := Lib.hid hv
  have HSN := Lib.hid hsn
  have HLEN := Lib.hid hlen
  have HFIT := Lib.hid hfit
  have HONE := Lib.hid hone
  have HST := Lib.hid hst
  have HDR := Lib.hid (show Below B w w.drew from (Below.refl _ _).drew)
  clear hP hroom hv hsn hlen hfit hone hst hmay hdom hown
  go_enter Try.func61, Try.ntmps61
  go_wp2_with (fail)
  go_region_law (refine step_copyN rfl (.tmp 8) (.tmp 12) 89 89 rfl 4 Try.underlying89 1 sizeB gs 0 m m gk 0 m m m (by simp [Act.eval]) (by simp [Act.eval]) _ 4 HSN.out (flB kp m) (Nat.min_self m).symm HLEN.out HV.out HFIT.out HONE.out ?_
                 intro w2 hb2 hg2)
  all_goals
    rw [HST.out] at hb2
    have hP2 : PaM L B w2 pp go gk gs (.func (.func 81) #[] #[cap]) m o kp kp :=
      (HP.out.drew).copied hg2 hb2
    have hl2 : Below B w w2 := (HDR.out).grown hg2 (by have := HP.out.box.lt; simp; omega) (fun k hk => by injection hk with hk; omega)
    have HR2 := Lib.hid (HR.out w2 (hw.trans hl2) hP2)
    clear hP2 hb2 hg2 p3 p4
    go_wp2_with (go_at_call 77; refine (HR2.out).mono ?_; rintro e w3 ⟨b, o', s', rfl, hroom, hP4, hl4⟩)
    have HRM := Lib.hid hroom
    have HP4 := Lib.hid hP4
    clear hroom hP4
    go_ret
    exact ⟨_, _, _, rfl, HRM.out, HP4.out, hl2.trans hl4⟩

set_option maxHeartbeats 2000000 in
set_option maxRecDepth 100000 in
theorem findPairA (L : List (Nat × List Value)) (B pp go gk gs m : Nat) (cap : Value) (kp : Nat → Bool) (may : Nat → Nat → Bool) (Rk : Nat → Prop) (w0 : World) (hm : m ≤ 64)
    (hmay : ∀ W, Below B w0 W → ∀ row k, Rk row → k < m → Calls Try.prog 76 #[.int .i64 ((row : Nat) : Int), .int .i64 ((k : Nat) : Int), cap] W fun e w' => e = .returned (.bool (may row k)) ∧ Below W.heap.size W w')
    (row : Nat) (o : Nat → Int) (s : Nat → Bool) (w : World) (hw : Below B w0 w) (hrk : Rk row) (hdom : ∀ j, j < m → -1 ≤ o j) (hown : ∀ j, j < m → ∀ q : Nat, o j = (q : Int) → Rk q)
    (hP : PaM L B w pp go gk gs (.func (.func 76) #[] #[cap]) m o kp s) :
    Calls Try.prog 61 #[.pointer (some ⟨pp, 0, none⟩), .int .i64 (row : Int)] w fun e w' =>
      ∃ b o' s', e = .returned (.bool b) ∧ Room m may row 0 o kp b o' s' ∧ PaM L B w' pp go gk gs (.func (.func 76) #[] #[cap]) m o' kp s' ∧ Below B w w' := by
  have hfar := hP.far
  have hroom := fun W h1 h2 => makeRoomA L B pp go gk gs m cap kp may Rk w0 hm hmay (m + 1) row o kp W (by have := cntB_le kp m; omega) h1 hrk hdom hown h2
  have p3 : w.cell? ⟨pp, 3, none⟩ = some (.slice (some ⟨gk, 0, none⟩) m m) := hP.box.cell 3
  have p4 : w.cell? ⟨pp, 4, none⟩ = some (.slice (some ⟨gs, 0, none⟩) m m) := hP.box.cell 4
  have hv := (hP.kept.drew).vals0
  have hsn := hP.seen.drew
  have hlen : (flB kp m).length = m * 1 := by rw [flB_len]; omega
  have hfit : 0 + (flB kp m).length ≤ (flB s m).length := by rw [flB_len, flB_len]; omega
  have hone : ∀ v ∈ flB kp m, v.oneCell' = true := by
    intro v hv
    unfold flB at hv
    obtain ⟨k, _, rfl⟩ := List.mem_map.1 hv
    rfl
  have hst : (flB s m).take 0 ++ flB kp m ++ (flB s m).drop (0 + (flB kp m).length) = flB kp m := by
    rw [List.take_zero, List.nil_append, List.drop_eq_nil_of_le (by rw [flB_len, flB_len]; omega), List.append_nil]
  have HP := Lib.hid hP
  have HR := Lib.hid hroom
  have HV := Lib.hid hv
  have HSN := Lib.hid hsn
  have HLEN := Lib.hid hlen
  have HFIT := Lib.hid hfit
  have HONE := Lib.hid hone
  have HST := Lib.hid hst
  have HDR := Lib.hid (show Below B w w.drew from (Below.refl _ _).drew)
  clear hP hroom hv hsn hlen hfit hone hst hmay hdom hown
  go_enter Try.func61, Try.ntmps61
  go_wp2_with (fail)
  go_region_law (refine step_copyN rfl (.tmp 8) (.tmp 12) 89 89 rfl 4 Try.underlying89 1 sizeB gs 0 m m gk 0 m m m (by simp [Act.eval]) (by simp [Act.eval]) _ 4 HSN.out (flB kp m) (Nat.min_self m).symm HLEN.out HV.out HFIT.out HONE.out ?_
                 intro w2 hb2 hg2)
  all_goals
    rw [HST.out] at hb2
    have hP2 : PaM L B w2 pp go gk gs (.func (.func 76) #[] #[cap]) m o kp kp :=
      (HP.out.drew).copied hg2 hb2
    have hl2 : Below B w w2 := (HDR.out).grown hg2 (by have := HP.out.box.lt; simp; omega) (fun k hk => by injection hk with hk; omega)
    have HR2 := Lib.hid (HR.out w2 (hw.trans hl2) hP2)
    clear hP2 hb2 hg2 p3 p4
    go_wp2_with (go_at_call 77; refine (HR2.out).mono ?_; rintro e w3 ⟨b, o', s', rfl, hroom, hP4, hl4⟩)
    have HRM := Lib.hid hroom
    have HP4 := Lib.hid hP4
    clear hroom hP4
    go_ret
    exact ⟨_, _, _, rfl, HRM.out, HP4.out, hl2.trans hl4⟩

end Go.Proofs.Ytncmfjncdhhjoaa
