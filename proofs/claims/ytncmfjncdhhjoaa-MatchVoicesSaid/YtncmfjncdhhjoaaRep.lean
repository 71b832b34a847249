/- Part of the proof of MatchVoices. -/
import Derived.Test.YtncmfjncdhhjoaaMulU
import Derived.Test.YtncmfjncdhhjoaaMemN
import Derived.Deep.RegionLaw
namespace Go.Proofs.Ytncmfjncdhhjoaa
open Go.RowKit

/-- m copies of some cells, and zeros behind. -/
def repL (cells : List Value) (z : Value) (k m n : Nat) : List Value := (List.replicate m cells).flatten ++ List.replicate ((n - m) * k) z
theorem flat_rep_len (cells : List Value) (m : Nat) : (List.replicate m cells).flatten.length = m * cells.length := by simp
theorem repL_len {cells : List Value} {z : Value} {k m n : Nat} (hk : cells.length = k) (hm : m ≤ n) : (repL cells z k m n).length = n * k := by
  simp only [repL, List.length_append, flat_rep_len, List.length_replicate, hk]
  rw [← Nat.add_mul, Nat.add_sub_cancel' hm]
theorem repL_zero (cells : List Value) (z : Value) (k n : Nat) : repL cells z k 0 n = List.replicate (n * k) z := by simp [repL]
theorem repL_full (cells : List Value) (z : Value) (k n : Nat) : repL cells z k n n = (List.replicate n cells).flatten := by simp [repL]
theorem repL_take {cells : List Value} {z : Value} {k m n j : Nat} (hk : cells.length = k) (hj : j ≤ m) : (repL cells z k m n).take (j * k) = (List.replicate j cells).flatten := by
  unfold repL
  rw [List.take_append_of_le_length (by rw [flat_rep_len, hk]; exact Nat.mul_le_mul_right _ hj)]
  have : List.replicate m cells = List.replicate j cells ++ List.replicate (m - j) cells := by rw [← List.replicate_append_replicate.symm]; congr 1; omega
  rw [this, List.flatten_append, List.take_left' (by rw [flat_rep_len, hk])]
theorem repL_step {cells : List Value} {z : Value} {k m n j : Nat} (hk : cells.length = k) (_hj : m + j ≤ n) :
    (repL cells z k m n).take (m * k) ++ (List.replicate j cells).flatten ++ (repL cells z k m n).drop (m * k + (List.replicate j cells).flatten.length) = repL cells z k (m + j) n := by
  rw [repL_take hk (Nat.le_refl _), flat_rep_len, hk]
  unfold repL
  rw [List.drop_append, List.drop_of_length_le (by rw [flat_rep_len, hk]; omega), flat_rep_len, hk]
  rw [show m * k + j * k - m * k = j * k by omega, List.drop_replicate, ← Nat.sub_mul, show n - m - j = n - (m + j) by omega, ← List.replicate_append_replicate, List.flatten_append]
  simp
def RepPost (T : TypeId) (w : World) (n : Nat) (cells : List Value) (e : Ending) (w' : World) : Prop :=
  ∃ g, e = .returned (.slice (some ⟨g, 0, none⟩) n n) ∧ w.heap.size ≤ g ∧ Blk T w' g (List.replicate n cells).flatten ∧ Below w.heap.size w w'

theorem infoI : (Try.prog.info? 3).map (fun i => (i.zero, i.size, i.bytes)) = some (some (.int .i64 0), 1, 8) := by kernel_rfl
theorem sizeI : (Try.prog.info? 3).map (·.size) = some 1 := by kernel_rfl
set_option maxHeartbeats 2000000 in
set_option maxRecDepth 100000 in
theorem repeatI_any (gx ox cx n : Nat) (x : Int) (w : World) (hx : Ints w (some ⟨gx, ox, none⟩) [x]) (h1 : 1 ≤ n) (hn : n ≤ 1048576) :
    Calls Try.prog 68 #[.slice (some ⟨gx, ox, none⟩) 1 cx, .int .i64 (n : Int)] w (RepPost 3 w n (is [x])) := by
  have hmk := fun w1 => run_make_same (P := Try.prog) 23 3 (.int .i64 0) (.int .i64 0) 1 8 Try.underlying23 infoI rfl (by omega) n (n) (by omega) (by omega) (by omega) w1
  have hml := fun w1 => mul64_one n (by omega) w1
  have hb0 : Blk 3 (w.alloc (.cells (Array.replicate (n) (.int .i64 0)) 3)) w.heap.size (repL (is [x]) (.int .i64 0) 1 0 n) := by
    rw [repL_zero]
    have := Blk.new w 3 (List.replicate (n * 1) (.int .i64 0))
    simpa using this
  have hbA := below_new w (.cells (Array.replicate (n) (.int .i64 0)) 3)
  have hx1 := Vals.alloc hx (.cells (Array.replicate (n) (.int .i64 0)) 3)
  have hst : (repL (is [x]) (.int .i64 0) 1 0 n).take 0 ++ is [x] ++ (repL (is [x]) (.int .i64 0) 1 0 n).drop (0 + (is [x]).length) = repL (is [x]) (.int .i64 0) 1 1 n := by
    have := repL_step (cells := is [x]) (z := .int .i64 0) (k := 1) (m := 0) (j := 1) (n := n) rfl (by omega)
    simpa using this
  have hfit0 : 0 + (is [x]).length ≤ (repL (is [x]) (.int .i64 0) 1 0 n).length := by
    rw [repL_len (k := 1) rfl (Nat.zero_le n)]
    show _ ≤ _
    have : (is [x]).length = 1 := rfl
    omega
  have  HX := Lib.hid hx1
  have HML := Lib.hid hml
  have HST := Lib.hid hst
  clear hml hx hx1 hst
  have d1 : decide ((9223372036854775807 : Int) < (n : Int)) = false := by simp; omega
  have d2 : decide ((n : Int) < 0) = false := by simp
  have cv : IntKind.u64.wrap (n : Int) = (n : Int) := by rw [IntKind.wrap_u64]; omega
  have cv2 : IntKind.i64.wrap (n : Int) = (n : Int) := wrapI (by omega) (by omega)
  go_enter Try.func68, Try.ntmps68
  go_wp2_with (first
    | (go_at_call 80; refine (HML.out _).mono ?_; rintro e w1 ⟨rfl, rfl⟩)
    | (refine wpList_copyN rfl (.tmp 31) (.tmp 32) 23 23 rfl 3 Try.underlying23 1 sizeI w.heap.size 0 n n gx ox 1 cx 1 rfl rfl _ 3 hb0 (is [x]) (Nat.min_eq_left h1).symm rfl HX.out hfit0 (is_one _) ?_
       intro w2 hb2 hg2
       have hbB := hbA.grown hg2 hbA.size (fun k hk => by injection hk with hk; omega)))
  rw [HST.out] at hb2
  clear hmk
  go_loopw [8] (fun t wr => ∃ m : Nat, 1 ≤ m ∧ m ≤ n ∧ t = .int .i64 (m : Int) ∧ Blk 3 wr w.heap.size (repL (is [x]) (.int .i64 0) 1 m n) ∧ Below w.heap.size w wr) (fun t _ => n - (intOf t).toNat)
  case atStart => exact ⟨1, Nat.le_refl _, h1, rfl, hb2, hbB⟩
  case round =>
    clear hb2 hb0 hbA hbB hg2
    obtain ⟨m, hm1, hm, rfl, hb, hbl⟩ := hrel
    by_cases hlt : m < n
    · obtain ⟨j, hj⟩ : ∃ j, j = Nat.min m (n - m) := ⟨_, rfl⟩
      have hj1 : m + j ≤ n := by
        have h2 : j ≤ n - m := by rw [hj]; exact Nat.min_le_right _ _
        omega
      have hj2 : j ≤ m := by rw [hj]; exact Nat.min_le_left _ _
      have hj3 : 1 ≤ j := by rw [hj]; exact Nat.le_min.2 ⟨hm1, Nat.sub_pos_of_lt hlt⟩
      have hs : IntKind.i64.wrap ((m : Int) + (j : Int)) = (m : Int) + (j : Int) := wrapI (by omega) (by omega)
      have hne : ¬ n = m := by omega
      have hv := hb.drew.vals 0 (j * 1)
      rw [List.drop_zero, repL_take (by rfl) hj2] at hv
      have hst := repL_step (cells := is [x]) (z := .int .i64 0) (k := 1) rfl hj1
      have hln : (List.replicate j (is [x])).flatten.length = j * 1 := by rw [flat_rep_len]; rfl
      have hone : ∀ v ∈ (List.replicate j (is [x])).flatten, v.oneCell' = true := by
        intro v hv
        obtain ⟨l, hl, hv⟩ := List.mem_flatten.1 hv
        rw [List.eq_of_mem_replicate hl] at hv
        exact is_one _ v hv
      have hfit : m * 1 + (List.replicate j (is [x])).flatten.length ≤ (repL (is [x]) (.int .i64 0) 1 m n).length := by rw [repL_len (k := 1) rfl hm, hln, ← Nat.add_mul]; exact Nat.mul_le_mul_right _ hj1
      have HJ := Lib.hid hj
      have HV := Lib.hid hv
      have HST := Lib.hid hst
      have HLN := Lib.hid hln
      have HO := Lib.hid hone
      clear hj hv hst hln hone
      go_wp2_with (fail)
      go_region_law (refine step_copyN rfl (.tmp 41) (.tmp 44) 23 23 rfl 3 Try.underlying23 1 sizeI w.heap.size (m * 1) (n - m) (n - m) w.heap.size 0 m n j (by simp [Act.eval, Act.put]) (by simp [Act.eval, Act.put]) _ 3 hb.drew _ HJ.out HLN.out HV.out hfit HO.out ?_
                     intro w2 hb2 hg2)
      rw [HST.out] at hb2
      go_simp
      go_roundw
      case rel => exact ⟨.int .i64 ((m : Int) + (j : Int)), _, _, _, _, _, _, _, _, _, _, _, _, _, ⟨m + j, by omega, hj1, by go_num, hb2, hbl.drew.grown hg2 hbl.size (fun k hk => by injection hk with hk; omega)⟩, rfl⟩
      case measure => simp [intOf]; omega
    · obtain rfl : m = n := by omega
      go_wp2
      go_ret
      rw [repL_full] at hb
      exact ⟨_, rfl, Nat.le_refl _, hb, hbl⟩
end Go.Proofs.Ytncmfjncdhhjoaa
