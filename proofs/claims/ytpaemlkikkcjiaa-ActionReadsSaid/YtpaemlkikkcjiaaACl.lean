/- The kinds of elements; slices.Clone of ties, ints, registers and keys; append to an own row. -/
import Derived.Test.YtpaemlkikkcjiaaAMem
import Derived.Lib.SliceRun
import Derived.Laws.AppendOwn
import Derived.Laws.AppendOwnNone
import Derived.Maps.AppendAt
namespace Go.Proofs.Ytpaemlkikkcjiaa
open Go.RowKit

theorem info_parts {x : Option TypeInfo} {z : Value} {k b : Nat} (h : x.map (fun i => (i.zero, i.size, i.bytes)) = some (some z, k, b)) : ∃ i, x = some i ∧ i.zero = some z ∧ i.size = k ∧ i.bytes = b := by
  obtain ⟨i, h1, h2⟩ := Option.map_eq_some_iff.1 h
  simp only [Prod.mk.injEq] at h2
  exact ⟨i, h1, h2⟩
def zTie : Value := .agg #[.int .i64 0, .int .i64 0, .int .i64 0]
theorem infoTie : (Try.prog.info? 39).map (fun i => (i.zero, i.size, i.bytes)) = some (some zTie, 3, 24) := by kernel_rfl
def zInt : Value := .int .i64 0
theorem infoInt : (Try.prog.info? 3).map (fun i => (i.zero, i.size, i.bytes)) = some (some zInt, 1, 8) := by kernel_rfl
def zReg : Value := .agg #[.int .i64 0, .int .i64 0, .int .i64 0, .bool false]
theorem infoReg : (Try.prog.info? 84).map (fun i => (i.zero, i.size, i.bytes)) = some (some zReg, 4, 32) := by kernel_rfl
def zLev : Value := .agg #[.int .i64 0, .int .i64 0, .bool false, .bool false, .int .i64 0, .bool false, .bool false, .int .i64 0, .bool false, .bool false, .int .i64 0, .bool false, .bool false, .int .i64 0]
theorem infoLev : (Try.prog.info? 112).map (fun i => (i.zero, i.size, i.bytes)) = some (some zLev, 14, 80) := by kernel_rfl
def zEv : Value := .agg #[.int .i64 0, .int .i64 0, .int .i64 0, .int .i64 0]
theorem infoEv : (Try.prog.info? 67).map (fun i => (i.zero, i.size, i.bytes)) = some (some zEv, 4, 32) := by kernel_rfl
def zAct : Value := .agg #[.int .i64 0, .int .i64 0, .int .i64 0, .int .i64 0]
theorem infoAct : (Try.prog.info? 59).map (fun i => (i.zero, i.size, i.bytes)) = some (some zAct, 4, 32) := by kernel_rfl
def zMom : Value := .agg #[.int .i64 0, .int .i64 0, .int .i64 0, .int .i64 0, .int .i64 0, .int .i64 0]
theorem infoMom : (Try.prog.info? 137).map (fun i => (i.zero, i.size, i.bytes)) = some (some zMom, 6, 48) := by kernel_rfl
def zHap : Value := .agg #[.int .i64 0, .int .i64 0, .int .i64 0, .int .i64 0, .int .i64 0, .int .i64 0]
theorem infoHap : (Try.prog.info? 130).map (fun i => (i.zero, i.size, i.bytes)) = some (some zHap, 6, 48) := by kernel_rfl

/-- A row of the call's own with room for cap elements of k cells, whose head are n elements: these cells. -/
def OwnR (B T k : Nat) (w : World) (v : Value) (n : Nat) (vs : List Value) : Prop := ∃ g cap, v = .slice (some ⟨g, 0, none⟩) n cap ∧ B ≤ g ∧ n ≤ cap ∧ cap ≤ maxLen ∧ vs.length = n * k ∧ Hd T w g (cap * k) vs
theorem own_hd {B T k : Nat} {w : World} {v : Value} {n : Nat} {vs : List Value} (h : w.ownsRow B T k v n vs) (hv : v ≠ .slice none 0 0) : OwnR B T k w v n vs := by
  rcases h.2 with ⟨h1, _⟩ | ⟨g, cap, cur, e, h1, h2, h3, h4, h5, h6⟩
  · exact absurd h1 hv
  · refine ⟨g, cap, e, h1, h3, h4, h.1, cur.toList.drop (n * k), ?_, ?_⟩
    · have := h.1; have h7 : n * k ≤ cap * k := Nat.mul_le_mul_right _ h3
      rw [List.length_drop]; simp only [Array.length_toList]; omega
    · rw [← h6]
      unfold Blk
      rw [List.take_append_drop]
      simpa using h2
theorem hd_own {B T k : Nat} {w : World} {v : Value} {n : Nat} {vs : List Value} (h : OwnR B T k w v n vs) : w.ownsRow B T k v n vs := by
  obtain ⟨g, cap, e, h1, h3, h4, h5, rest, h6, h7⟩ := h
  refine ⟨h5, .inr ⟨g, cap, (vs ++ rest).toArray, e, h1, h7, h3, h4, by simp; omega, ?_⟩⟩
  show (vs ++ rest).take (n * k) = vs
  exact List.take_left' h5
theorem OwnR.vals {B T k : Nat} {w : World} {v : Value} {n : Nat} {vs : List Value} (h : OwnR B T k w v n vs) : ∃ g cap, v = .slice (some ⟨g, 0, none⟩) n cap ∧ B ≤ g ∧ g < w.heap.size ∧ n ≤ cap ∧ Vals w (some ⟨g, 0, none⟩) vs := by
  obtain ⟨g, cap, e, h1, h3, _, _, h4⟩ := h
  exact ⟨g, cap, e, h1, h4.lt, h3, h4.vals⟩
theorem OwnR.keep {B T k : Nat} {w w' : World} {v : Value} {n : Nat} {vs : List Value} (h : OwnR B T k w v n vs) (hb : Below w.heap.size w w') : OwnR B T k w' v n vs := by
  obtain ⟨g, cap, e, h1, h3, h4, h5, h6⟩ := h
  exact ⟨g, cap, e, h1, h3, h4, h5, h6.keep hb⟩
theorem OwnR.drewN {B T k : Nat} {w : World} {v : Value} {n : Nat} {vs : List Value} (h : OwnR B T k w v n vs) (m : Nat) : OwnR B T k (w.drewN m) v n vs := by
  obtain ⟨g, cap, e, h1, h3, h4, h5, h6⟩ := h
  exact ⟨g, cap, e, h1, h3, h4, h5, h6.drewN m⟩
theorem own_new (w : World) (T k : Nat) : (w.alloc (.cells #[] T)).ownsRow w.heap.size T k (.slice (some ⟨w.heap.size, 0, none⟩) 0 0) 0 [] :=
  ⟨by simp, .inr ⟨w.heap.size, 0, #[], rfl, Nat.le_refl _, heap_alloc_new _ _, Nat.le_refl _, by unfold maxLen; omega, by simp, by simp⟩⟩
theorem own_nil (w : World) (B T k : Nat) : w.ownsRow B T k (.slice none 0 0) 0 [] := ⟨by simp, .inl ⟨rfl, rfl⟩⟩

theorem cloneT_any (ad : Addr) (m c : Nat) (vs : List Value) (w : World) (hA : Vals w (some ad) vs) (hl : vs.length = m * 3) (h1 : ∀ v ∈ vs, v.oneCell' = true) (hm : m ≤ 1000000) :
    Calls Try.prog 76 #[.slice (some ad) m c] w fun e w' => ∃ v, e = .returned v ∧ OwnR w.heap.size 39 3 w' v m vs ∧ Below w.heap.size w w' := by
  have hA1 : Vals (w.alloc (.cells #[] 39)) (some ad) vs := hA.alloc _
  have ho := own_new w 39 3
  have hbA := below_new w (.cells #[] 39)
  obtain ⟨i0, hi, hz0, hz1, hz2⟩ := info_parts infoTie
  have hnil := Lib.run_eql_slice_nil (P := Try.prog) w 22 39 (some ad) m c 0 0 Try.underlying22
  have HA := Lib.hid hA1
  have HO := Lib.hid ho
  have HL := Lib.hid hl
  have H1 := Lib.hid h1
  clear hA1 ho hA hl h1
  go_enter Try.func76, Try.ntmps76
  go_wp2_with (at_builtin
               refine wpList_append_own _ rfl _ _ 22 rfl w.heap.size 39 i0 zTie 3 24 Try.underlying22 hi hz0 hz1 hz2 rfl (by decide) _ _ _ rfl HO.out ad m _ vs rfl ?c1 (vals_cells HA.out) H1.out ?c4 ?c5 (by simp) ?_)
  case c1 => exact HL.out
  case c4 => unfold maxLen; omega
  case c5 => omega
  intro v' w1 hown hgr hne
  have hb1 := hbA.grown hgr hbA.size (by simp [Value.ownBlock])
  have hres := own_hd hown (by simpa using hne)
  have HR := Lib.hid hres
  go_wp2
  go_ret
  refine ⟨_, rfl, HR.out, hb1⟩

theorem cloneI_any (ad : Addr) (m c : Nat) (vs : List Value) (w : World) (hA : Vals w (some ad) vs) (hl : vs.length = m * 1) (h1 : ∀ v ∈ vs, v.oneCell' = true) (hm : m ≤ 1000000) :
    Calls Try.prog 78 #[.slice (some ad) m c] w fun e w' => ∃ v, e = .returned v ∧ OwnR w.heap.size 3 1 w' v m vs ∧ Below w.heap.size w w' := by
  have hA1 : Vals (w.alloc (.cells #[] 3)) (some ad) vs := hA.alloc _
  have ho := own_new w 3 1
  have hbA := below_new w (.cells #[] 3)
  obtain ⟨i0, hi, hz0, hz1, hz2⟩ := info_parts infoInt
  have hnil := Lib.run_eql_slice_nil (P := Try.prog) w 24 3 (some ad) m c 0 0 Try.underlying24
  have HA := Lib.hid hA1
  have HO := Lib.hid ho
  have HL := Lib.hid hl
  have H1 := Lib.hid h1
  clear hA1 ho hA hl h1
  go_enter Try.func78, Try.ntmps78
  go_wp2_with (at_builtin
               refine wpList_append_own _ rfl _ _ 24 rfl w.heap.size 3 i0 zInt 1 8 Try.underlying24 hi hz0 hz1 hz2 rfl (by decide) _ _ _ rfl HO.out ad m _ vs rfl ?c1 (vals_cells HA.out) H1.out ?c4 ?c5 (by simp) ?_)
  case c1 => exact HL.out
  case c4 => unfold maxLen; omega
  case c5 => omega
  intro v' w1 hown hgr hne
  have hb1 := hbA.grown hgr hbA.size (by simp [Value.ownBlock])
  have hres := own_hd hown (by simpa using hne)
  have HR := Lib.hid hres
  go_wp2
  go_ret
  refine ⟨_, rfl, HR.out, hb1⟩

theorem cloneR_any (ad : Addr) (m c : Nat) (vs : List Value) (w : World) (hA : Vals w (some ad) vs) (hl : vs.length = m * 4) (h1 : ∀ v ∈ vs, v.oneCell' = true) (hm : m ≤ 1000000) :
    Calls Try.prog 67 #[.slice (some ad) m c] w fun e w' => ∃ v, e = .returned v ∧ OwnR w.heap.size 84 4 w' v m vs ∧ Below w.heap.size w w' := by
  have hA1 : Vals (w.alloc (.cells #[] 84)) (some ad) vs := hA.alloc _
  have ho := own_new w 84 4
  have hbA := below_new w (.cells #[] 84)
  obtain ⟨i0, hi, hz0, hz1, hz2⟩ := info_parts infoReg
  have hnil := Lib.run_eql_slice_nil (P := Try.prog) w 40 84 (some ad) m c 0 0 Try.underlying40
  have HA := Lib.hid hA1
  have HO := Lib.hid ho
  have HL := Lib.hid hl
  have H1 := Lib.hid h1
  clear hA1 ho hA hl h1
  go_enter Try.func67, Try.ntmps67
  go_wp2_with (at_builtin
               refine wpList_append_own _ rfl _ _ 40 rfl w.heap.size 84 i0 zReg 4 32 Try.underlying40 hi hz0 hz1 hz2 rfl (by decide) _ _ _ rfl HO.out ad m _ vs rfl ?c1 (vals_cells HA.out) H1.out ?c4 ?c5 (by simp) ?_)
  case c1 => exact HL.out
  case c4 => unfold maxLen; omega
  case c5 => omega
  intro v' w1 hown hgr hne
  have hb1 := hbA.grown hgr hbA.size (by simp [Value.ownBlock])
  have hres := own_hd hown (by simpa using hne)
  have HR := Lib.hid hres
  go_wp2
  go_ret
  refine ⟨_, rfl, HR.out, hb1⟩

theorem cloneL_any (ad : Addr) (m c : Nat) (vs : List Value) (w : World) (hA : Vals w (some ad) vs) (hl : vs.length = m * 14) (h1 : ∀ v ∈ vs, v.oneCell' = true) (hm : m ≤ 1000000) :
    Calls Try.prog 75 #[.slice (some ad) m c] w fun e w' => ∃ v, e = .returned v ∧ OwnR w.heap.size 112 14 w' v m vs ∧ Below w.heap.size w w' := by
  have hA1 : Vals (w.alloc (.cells #[] 112)) (some ad) vs := hA.alloc _
  have ho := own_new w 112 14
  have hbA := below_new w (.cells #[] 112)
  obtain ⟨i0, hi, hz0, hz1, hz2⟩ := info_parts infoLev
  have hnil := Lib.run_eql_slice_nil (P := Try.prog) w 91 112 (some ad) m c 0 0 Try.underlying91
  have HA := Lib.hid hA1
  have HO := Lib.hid ho
  have HL := Lib.hid hl
  have H1 := Lib.hid h1
  clear hA1 ho hA hl h1
  go_enter Try.func75, Try.ntmps75
  go_wp2_with (at_builtin
               refine wpList_append_own _ rfl _ _ 91 rfl w.heap.size 112 i0 zLev 14 80 Try.underlying91 hi hz0 hz1 hz2 rfl (by decide) _ _ _ rfl HO.out ad m _ vs rfl ?c1 (vals_cells HA.out) H1.out ?c4 ?c5 (by simp) ?_)
  case c1 => exact HL.out
  case c4 => unfold maxLen; omega
  case c5 => omega
  intro v' w1 hown hgr hne
  have hb1 := hbA.grown hgr hbA.size (by simp [Value.ownBlock])
  have hres := own_hd hown (by simpa using hne)
  have HR := Lib.hid hres
  go_wp2
  go_ret
  refine ⟨_, rfl, HR.out, hb1⟩
end Go.Proofs.Ytpaemlkikkcjiaa
