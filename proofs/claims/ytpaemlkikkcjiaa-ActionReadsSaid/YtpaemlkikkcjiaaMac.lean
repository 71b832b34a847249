/- The machine: what it is, and how it lies in memory. -/
import Derived.Test.YtpaemlkikkcjiaaChg
namespace Go.Proofs.Ytpaemlkikkcjiaa
open Go.RowKit

structure Jk where
  ab : Bool
  so : Bool
  si : Int
/-- What turns: ticks, heights and targets of keys, jacks, which registers are on. -/
structure Ms where
  tk : Int
  ht : Nat → Int
  tg : Nat → Int
  jk : Nat → Nat → Jk
  on : Nat → Bool
/-- What a machine is made of: keys, registers, speed, heights. -/
structure Mk where
  K : Nat
  N : Nat
  sp : Int
  pl : Nat → Int
  re : Nat → Int
  da : Nat → Int
def jkC (j : Jk) : List Value := [.bool j.ab, .bool j.so, .int .i64 j.si]
def levC (S : Ms) (k : Nat) : List Value := [.int .i64 (S.ht k), .int .i64 (S.tg k)] ++ jkC (S.jk k 0) ++ jkC (S.jk k 1) ++ jkC (S.jk k 2) ++ jkC (S.jk k 3)
def regC (m : Mk) (S : Ms) (r : Nat) : List Value := [.int .i64 (m.pl r), .int .i64 (m.re r), .int .i64 (m.da r), .bool (S.on r)]
def levL (K : Nat) (S : Ms) : List Value := (List.range K).flatMap (levC S)
def regL (m : Mk) (S : Ms) : List Value := (List.range m.N).flatMap (regC m S)
theorem levC_len (S : Ms) (k : Nat) : (levC S k).length = 14 := rfl
theorem regC_len (m : Mk) (S : Ms) (r : Nat) : (regC m S r).length = 4 := rfl
theorem levL_len (K : Nat) (S : Ms) : (levL K S).length = K * 14 := by unfold levL; rw [flat_len (levC_len S)]; simp
theorem regL_len (m : Mk) (S : Ms) : (regL m S).length = m.N * 4 := by unfold regL; rw [flat_len (regC_len m S)]; simp
theorem range_at {n i : Nat} (h : i < n) : (List.range n)[i]? = some i := by simp [h]
theorem levL_at {K : Nat} {S : Ms} {k j : Nat} (h : k < K) (hj : j < 14) : (levL K S)[k * 14 + j]? = (levC S k)[j]? := flat_at (levC_len S) (range_at h) hj
theorem regL_at {m : Mk} {S : Ms} {r j : Nat} (h : r < m.N) (hj : j < 4) : (regL m S)[r * 4 + j]? = (regC m S r)[j]? := flat_at (regC_len m S) (range_at h) hj
theorem flat_set {n c : Nat} (hc : 0 < c) {f f' : Nat → List Value} (hf : ∀ x, (f x).length = c) (hf' : ∀ x, (f' x).length = c) {k j : Nat} {v : Value} (hk : k < n) (hj : j < c) (he : f' k = (f k).set j v) (ho : ∀ x, x ≠ k → f' x = f x) :
    ((List.range n).flatMap f).set (k * c + j) v = (List.range n).flatMap f' := by
  apply List.ext_getElem?
  intro i
  have hl : ((List.range n).flatMap f).length = n * c := by rw [flat_len hf]; simp
  have hl' : ((List.range n).flatMap f').length = n * c := by rw [flat_len hf']; simp
  rcases Nat.lt_or_ge i (n * c) with hi | hi
  · have hd : i / c < n := Nat.div_lt_of_lt_mul (by rw [Nat.mul_comm]; exact hi)
    have hm : i % c < c := Nat.mod_lt _ hc
    have e : i / c * c + i % c = i := by rw [Nat.mul_comm]; exact Nat.div_add_mod i c
    have h1 := flat_at hf (range_at hd) hm
    have h2 := flat_at hf' (range_at hd) hm
    rw [e] at h1 h2
    rw [List.getElem?_set, h1, h2]
    by_cases hik : i / c = k
    · rw [hik, he, List.getElem?_set]
      by_cases hjj : j = i % c
      · rw [if_pos (by rw [← e, hik, hjj]), if_pos hjj]
        have : k * c + j < n * c := by rw [hjj, ← hik, e]; exact hi
        rw [if_pos (by rw [hl]; exact this), if_pos (by rw [hf]; exact hj)]
      · have : ¬ (k * c + j = i) := by intro h; rw [← e, hik] at h; omega
        rw [if_neg this, if_neg hjj]
    · have : ¬ (k * c + j = i) := by
        intro h
        apply hik
        rw [← h, Nat.add_comm, Nat.add_mul_div_right _ _ hc, Nat.div_eq_of_lt hj]; omega
      rw [if_neg this, ho _ hik]
  · rw [List.getElem?_eq_none (by rw [List.length_set, hl]; exact hi), List.getElem?_eq_none (by rw [hl']; exact hi)]

def setJ (S : Ms) (k r : Nat) (j : Jk) : Ms := { S with jk := fun a b => if a = k ∧ b = r then j else S.jk a b }
def setHt (S : Ms) (k : Nat) (x : Int) : Ms := { S with ht := fun a => if a = k then x else S.ht a }
def setTg (S : Ms) (k : Nat) (x : Int) : Ms := { S with tg := fun a => if a = k then x else S.tg a }
def setOn (S : Ms) (r : Nat) (b : Bool) : Ms := { S with on := fun a => if a = r then b else S.on a }
theorem setJ_at (S : Ms) (k r : Nat) (j : Jk) : (setJ S k r j).jk k r = j := by simp [setJ]
theorem levL_ht {K k : Nat} (S : Ms) (x : Int) (hk : k < K) : (levL K S).set (k * 14) (.int .i64 x) = levL K (setHt S k x) := by
  refine flat_set (j := 0) (by omega) (levC_len S) (levC_len _) hk (by omega) ?_ fun a ha => ?_
  · simp [levC, setHt]
  · simp [levC, setHt, ha]
theorem levL_tg {K k : Nat} (S : Ms) (x : Int) (hk : k < K) : (levL K S).set (k * 14 + 1) (.int .i64 x) = levL K (setTg S k x) := by
  refine flat_set (j := 1) (by omega) (levC_len S) (levC_len _) hk (by omega) ?_ fun a ha => ?_
  · simp [levC, setTg]
  · simp [levC, setTg, ha]
theorem four {r : Nat} (h : r < 4) : r = 0 ∨ r = 1 ∨ r = 2 ∨ r = 3 := by omega
theorem levL_ab {K k r : Nat} (S : Ms) (b : Bool) (hk : k < K) (hr : r < 4) : (levL K S).set (k * 14 + (2 + r * 3)) (.bool b) = levL K (setJ S k r { S.jk k r with ab := b }) := by
  refine flat_set (j := 2 + r * 3) (by omega) (levC_len S) (levC_len _) hk (by omega) ?_ fun a ha => ?_
  · rcases four hr with rfl | rfl | rfl | rfl <;> simp [levC, setJ, jkC]
  · simp [levC, setJ, ha]
theorem levL_so {K k r : Nat} (S : Ms) (b : Bool) (hk : k < K) (hr : r < 4) : (levL K S).set (k * 14 + (3 + r * 3)) (.bool b) = levL K (setJ S k r { S.jk k r with so := b }) := by
  refine flat_set (j := 3 + r * 3) (by omega) (levC_len S) (levC_len _) hk (by omega) ?_ fun a ha => ?_
  · rcases four hr with rfl | rfl | rfl | rfl <;> simp [levC, setJ, jkC]
  · simp [levC, setJ, ha]
theorem levL_si {K k r : Nat} (S : Ms) (x : Int) (hk : k < K) (hr : r < 4) : (levL K S).set (k * 14 + (4 + r * 3)) (.int .i64 x) = levL K (setJ S k r { S.jk k r with si := x }) := by
  refine flat_set (j := 4 + r * 3) (by omega) (levC_len S) (levC_len _) hk (by omega) ?_ fun a ha => ?_
  · rcases four hr with rfl | rfl | rfl | rfl <;> simp [levC, setJ, jkC]
  · simp [levC, setJ, ha]
theorem regL_on {m : Mk} {r : Nat} (S : Ms) (b : Bool) (hr : r < m.N) : (regL m S).set (r * 4 + 3) (.bool b) = regL m (setOn S r b) := by
  refine flat_set (j := 3) (by omega) (regC_len m S) (regC_len m _) hr (by omega) ?_ fun a ha => ?_
  · simp [regC, setOn]
  · simp [regC, setOn, ha]

/-- The machine at block p: its keys in block gl, its registers in block gr. -/
structure MacM (w : World) (p gl cl gr cr : Nat) (m : Mk) (S : Ms) : Prop where
  box : Blk 93 w p [.int .i64 S.tk, .int .i64 m.sp, .slice (some ⟨gl, 0, none⟩) m.K cl, .slice (some ⟨gr, 0, none⟩) m.N cr]
  lev : Hd 112 w gl (cl * 14) (levL m.K S)
  reg : Hd 84 w gr (cr * 4) (regL m S)
  ne : p ≠ gl ∧ p ≠ gr ∧ gl ≠ gr
namespace MacM
variable {w w' : World} {p gl cl gr cr : Nat} {m : Mk} {S : Ms}
theorem lt (h : MacM w p gl cl gr cr m S) : p < w.heap.size ∧ gl < w.heap.size ∧ gr < w.heap.size := ⟨h.box.lt, h.lev.lt, h.reg.lt⟩
theorem cap (h : MacM w p gl cl gr cr m S) : m.K ≤ cl ∧ m.N ≤ cr := by
  have h1 := h.lev.cap_le; have h2 := h.reg.cap_le
  rw [levL_len] at h1; rw [regL_len] at h2
  omega
theorem chg {L : List Nat} (h : MacM w p gl cl gr cr m S) (c : Chg L w w') (hL : p ∉ L ∧ gl ∉ L ∧ gr ∉ L) : MacM w' p gl cl gr cr m S := ⟨c.blk h.box hL.1, c.hd h.lev hL.2.1, c.hd h.reg hL.2.2, h.ne⟩
theorem keep (h : MacM w p gl cl gr cr m S) (hb : Below w.heap.size w w') : MacM w' p gl cl gr cr m S := ⟨h.box.keep hb, h.lev.keep hb, h.reg.keep hb, h.ne⟩
theorem drewN (h : MacM w p gl cl gr cr m S) (n : Nat) : MacM (w.drewN n) p gl cl gr cr m S := ⟨h.box, h.lev.drewN n, h.reg.drewN n, h.ne⟩
theorem drew (h : MacM w p gl cl gr cr m S) : MacM w.drew p gl cl gr cr m S := ⟨h.box, h.lev.drew, h.reg.drew, h.ne⟩
theorem far (h : MacM w p gl cl gr cr m S) {g i : Nat} (hg : g ≠ p ∧ g ≠ gl ∧ g ≠ gr) (v : Value) : MacM (w.setCell ⟨g, i, none⟩ v) p gl cl gr cr m S :=
  ⟨h.box.setOther (a := ⟨g, i, none⟩) (Ne.symm hg.1) v, h.lev.setOther (a := ⟨g, i, none⟩) (Ne.symm hg.2.1) v, h.reg.setOther (a := ⟨g, i, none⟩) (Ne.symm hg.2.2) v, h.ne⟩
theorem b0 (h : MacM w p gl cl gr cr m S) : w.cell? ⟨p, 0, none⟩ = some (.int .i64 S.tk) := h.box.cell 0
theorem b1 (h : MacM w p gl cl gr cr m S) : w.cell? ⟨p, 1, none⟩ = some (.int .i64 m.sp) := h.box.cell 1
theorem b2 (h : MacM w p gl cl gr cr m S) : w.cell? ⟨p, 2, none⟩ = some (.slice (some ⟨gl, 0, none⟩) m.K cl) := h.box.cell 2
theorem b3 (h : MacM w p gl cl gr cr m S) : w.cell? ⟨p, 3, none⟩ = some (.slice (some ⟨gr, 0, none⟩) m.N cr) := h.box.cell 3
theorem fp (h : MacM w p gl cl gr cr m S) (i : Nat) : w.frozen? ⟨p, i, none⟩ = false := h.box.frozen i
theorem fl' (h : MacM w p gl cl gr cr m S) (i : Nat) : w.frozen? ⟨gl, i, none⟩ = false := h.lev.frozen i
theorem fr (h : MacM w p gl cl gr cr m S) (i : Nat) : w.frozen? ⟨gr, i, none⟩ = false := h.reg.frozen i
theorem ht (h : MacM w p gl cl gr cr m S) {k : Nat} (hk : k < m.K) : w.cell? ⟨gl, k * 14, none⟩ = some (.int .i64 (S.ht k)) := h.lev.cell (by have := levL_at (S := S) hk (j := 0) (by omega); simpa [levC] using this)
theorem tg (h : MacM w p gl cl gr cr m S) {k : Nat} (hk : k < m.K) : w.cell? ⟨gl, k * 14 + 1, none⟩ = some (.int .i64 (S.tg k)) := h.lev.cell (by have := levL_at (S := S) hk (j := 1) (by omega); simpa [levC] using this)
theorem ab (h : MacM w p gl cl gr cr m S) {k r : Nat} (hk : k < m.K) (hr : r < 4) : w.cell? ⟨gl, k * 14 + (2 + r * 3), none⟩ = some (.bool (S.jk k r).ab) := h.lev.cell (by
  rw [levL_at hk (by omega)]; rcases four hr with rfl | rfl | rfl | rfl <;> rfl)
theorem so (h : MacM w p gl cl gr cr m S) {k r : Nat} (hk : k < m.K) (hr : r < 4) : w.cell? ⟨gl, k * 14 + (3 + r * 3), none⟩ = some (.bool (S.jk k r).so) := h.lev.cell (by
  rw [levL_at hk (by omega)]; rcases four hr with rfl | rfl | rfl | rfl <;> rfl)
theorem si (h : MacM w p gl cl gr cr m S) {k r : Nat} (hk : k < m.K) (hr : r < 4) : w.cell? ⟨gl, k * 14 + (4 + r * 3), none⟩ = some (.int .i64 (S.jk k r).si) := h.lev.cell (by
  rw [levL_at hk (by omega)]; rcases four hr with rfl | rfl | rfl | rfl <;> rfl)
theorem pl (h : MacM w p gl cl gr cr m S) {r : Nat} (hr : r < m.N) : w.cell? ⟨gr, r * 4, none⟩ = some (.int .i64 (m.pl r)) := h.reg.cell (by have := regL_at (m := m) (S := S) hr (j := 0) (by omega); simpa [regC] using this)
theorem re (h : MacM w p gl cl gr cr m S) {r : Nat} (hr : r < m.N) : w.cell? ⟨gr, r * 4 + 1, none⟩ = some (.int .i64 (m.re r)) := h.reg.cell (by have := regL_at (m := m) (S := S) hr (j := 1) (by omega); simpa [regC] using this)
theorem da (h : MacM w p gl cl gr cr m S) {r : Nat} (hr : r < m.N) : w.cell? ⟨gr, r * 4 + 2, none⟩ = some (.int .i64 (m.da r)) := h.reg.cell (by have := regL_at (m := m) (S := S) hr (j := 2) (by omega); simpa [regC] using this)
theorem on (h : MacM w p gl cl gr cr m S) {r : Nat} (hr : r < m.N) : w.cell? ⟨gr, r * 4 + 3, none⟩ = some (.bool (S.on r)) := h.reg.cell (by have := regL_at (m := m) (S := S) hr (j := 3) (by omega); simpa [regC] using this)
theorem setTk (h : MacM w p gl cl gr cr m S) (x : Int) : MacM (w.setCell ⟨p, 0, none⟩ (.int .i64 x)) p gl cl gr cr m { S with tk := x } :=
  ⟨by have := h.box.set 0 (.int .i64 x); simpa using this, h.lev.setOther (a := ⟨p, 0, none⟩) (Ne.symm h.ne.1) _, h.reg.setOther (a := ⟨p, 0, none⟩) (Ne.symm h.ne.2.1) _, h.ne⟩
theorem set_lev (h : MacM w p gl cl gr cr m S) {i : Nat} {v : Value} {S' : Ms} (hi : i < m.K * 14) (e : (levL m.K S).set i v = levL m.K S') (h1 : S'.tk = S.tk) (h2 : S'.on = S.on) : MacM (w.setCell ⟨gl, i, none⟩ v) p gl cl gr cr m S' := by
  refine ⟨?_, ?_, ?_, h.ne⟩
  · rw [h1]; exact h.box.setOther (a := ⟨gl, i, none⟩) h.ne.1 v
  · have := h.lev.set (i := i) (by rw [levL_len]; exact hi) v
    rwa [e] at this
  · have e2 : regL m S' = regL m S := by unfold regL regC; rw [h2]
    rw [e2]
    exact h.reg.setOther (a := ⟨gl, i, none⟩) (Ne.symm h.ne.2.2) v
theorem setH (h : MacM w p gl cl gr cr m S) {k : Nat} (hk : k < m.K) (x : Int) : MacM (w.setCell ⟨gl, k * 14, none⟩ (.int .i64 x)) p gl cl gr cr m (setHt S k x) := h.set_lev (by omega) (levL_ht S x hk) rfl rfl
theorem setT (h : MacM w p gl cl gr cr m S) {k : Nat} (hk : k < m.K) (x : Int) : MacM (w.setCell ⟨gl, k * 14 + 1, none⟩ (.int .i64 x)) p gl cl gr cr m (setTg S k x) := h.set_lev (by omega) (levL_tg S x hk) rfl rfl
theorem setAb (h : MacM w p gl cl gr cr m S) {k r : Nat} (hk : k < m.K) (hr : r < 4) (b : Bool) : MacM (w.setCell ⟨gl, k * 14 + (2 + r * 3), none⟩ (.bool b)) p gl cl gr cr m (setJ S k r { S.jk k r with ab := b }) := h.set_lev (by omega) (levL_ab S b hk hr) rfl rfl
theorem setSo (h : MacM w p gl cl gr cr m S) {k r : Nat} (hk : k < m.K) (hr : r < 4) (b : Bool) : MacM (w.setCell ⟨gl, k * 14 + (3 + r * 3), none⟩ (.bool b)) p gl cl gr cr m (setJ S k r { S.jk k r with so := b }) := h.set_lev (by omega) (levL_so S b hk hr) rfl rfl
theorem setSi (h : MacM w p gl cl gr cr m S) {k r : Nat} (hk : k < m.K) (hr : r < 4) (x : Int) : MacM (w.setCell ⟨gl, k * 14 + (4 + r * 3), none⟩ (.int .i64 x)) p gl cl gr cr m (setJ S k r { S.jk k r with si := x }) := h.set_lev (by omega) (levL_si S x hk hr) rfl rfl
theorem setOnM (h : MacM w p gl cl gr cr m S) {r : Nat} (hr : r < m.N) (b : Bool) : MacM (w.setCell ⟨gr, r * 4 + 3, none⟩ (.bool b)) p gl cl gr cr m (setOn S r b) := by
  refine ⟨h.box.setOther (a := ⟨gr, r * 4 + 3, none⟩) h.ne.2.1 _, h.lev.setOther (a := ⟨gr, r * 4 + 3, none⟩) h.ne.2.2 _, ?_, h.ne⟩
  have := h.reg.set (i := r * 4 + 3) (by rw [regL_len]; omega) (.bool b)
  rwa [regL_on S b hr] at this
end MacM
theorem setJ_setJ (S : Ms) (k r : Nat) (a b : Jk) : setJ (setJ S k r a) k r b = setJ S k r b := by
  unfold setJ
  congr 1
  funext x y
  by_cases h : x = k ∧ y = r <;> simp [h]
end Go.Proofs.Ytpaemlkikkcjiaa
