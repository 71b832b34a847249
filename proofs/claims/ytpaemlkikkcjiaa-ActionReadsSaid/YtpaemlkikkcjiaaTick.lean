/- Plain: one tick of a machine. -/
import Derived.Test.YtpaemlkikkcjiaaWPass
namespace Go.Proofs.Ytpaemlkikkcjiaa

/-- Where a key goes in a tick. -/
def goTo (sp frm tg : Int) : Int := frm + max (-sp) (min sp (tg - frm))
def regsF (m : Mk) (k : Nat) (frm to : Int) : Nat → Ms × List Mo → Ms × List Mo
  | 0, s => s
  | r + 1, s =>
    if (regsF m k frm to r s).1.on r = true then
      (setJ (regsF m k frm to r s).1 k r (passJ (regsF m k frm to r s).1.tk frm to (m.pl r) (m.re r) (m.da r) ((regsF m k frm to r s).1.jk k r)),
       (regsF m k frm to r s).2 ++ passN (regsF m k frm to r s).1.tk k r frm to (m.pl r) (m.re r) (m.da r) ((regsF m k frm to r s).1.jk k r))
    else regsF m k frm to r s
def keyF (m : Mk) (k : Nat) (s : Ms × List Mo) : Ms × List Mo :=
  regsF m k (s.1.ht k) (goTo m.sp (s.1.ht k) (s.1.tg k)) m.N (setHt s.1 k (goTo m.sp (s.1.ht k) (s.1.tg k)), s.2)
def keysF (m : Mk) : Nat → Ms × List Mo → Ms × List Mo
  | 0, s => s
  | k + 1, s => keyF m k (keysF m k s)
/-- A tick, its moments as they are noted. -/
def tickF (m : Mk) (S : Ms) : Ms × List Mo := keysF m m.K ({ S with tk := S.tk + 1 }, [])

/-- A machine as New makes it. -/
structure OkMk (m : Mk) : Prop where
  k1 : 1 ≤ m.K
  k2 : m.K ≤ 64
  n1 : 1 ≤ m.N
  n2 : m.N ≤ 4
  s1 : 1 ≤ m.sp
  s2 : m.sp ≤ 1000
  reg : ∀ r, r < m.N → 0 ≤ m.da r ∧ m.da r ≤ m.re r ∧ m.re r < m.pl r ∧ m.pl r ≤ 1000
/-- Heights and targets are in their range. -/
structure OkMs (m : Mk) (S : Ms) : Prop where
  ht : ∀ k, k < m.K → 0 ≤ S.ht k ∧ S.ht k ≤ 1000
  tg : ∀ k, k < m.K → 0 ≤ S.tg k ∧ S.tg k ≤ 1000
theorem goTo_in {sp a t : Int} (h1 : 1 ≤ sp) (ha : 0 ≤ a ∧ a ≤ 1000) (ht : 0 ≤ t ∧ t ≤ 1000) : 0 ≤ goTo sp a t ∧ goTo sp a t ≤ 1000 := by unfold goTo; omega
theorem regs_st (m : Mk) (k : Nat) (frm to : Int) (s : Ms × List Mo) (r : Nat) : (regsF m k frm to r s).1.ht = s.1.ht ∧ (regsF m k frm to r s).1.tg = s.1.tg ∧ (regsF m k frm to r s).1.tk = s.1.tk ∧ (regsF m k frm to r s).1.on = s.1.on := by
  induction r with
  | zero => exact ⟨rfl, rfl, rfl, rfl⟩
  | succ r ih =>
    simp only [regsF]
    split
    · exact ih
    · exact ih
theorem regs_len (m : Mk) (k : Nat) (frm to : Int) (s : Ms × List Mo) (r : Nat) : (regsF m k frm to r s).2.length ≤ s.2.length + 3 * r := by
  induction r with
  | zero => simp [regsF]
  | succ r ih =>
    simp only [regsF]
    split
    · have := n_len (regsF m k frm to r s).1.tk k r frm to (m.pl r) (m.re r) (m.da r) ((regsF m k frm to r s).1.jk k r)
      simp only [List.length_append]; omega
    · omega
theorem keys_st (m : Mk) (s : Ms × List Mo) (k : Nat) : (keysF m k s).1.tg = s.1.tg ∧ (keysF m k s).1.tk = s.1.tk ∧ (keysF m k s).1.on = s.1.on := by
  induction k with
  | zero => exact ⟨rfl, rfl, rfl⟩
  | succ k ih =>
    simp only [keysF, keyF]
    have h := regs_st m k ((keysF m k s).1.ht k) (goTo m.sp ((keysF m k s).1.ht k) ((keysF m k s).1.tg k)) (setHt (keysF m k s).1 k (goTo m.sp ((keysF m k s).1.ht k) ((keysF m k s).1.tg k)), (keysF m k s).2) m.N
    exact ⟨h.2.1.trans ih.1, h.2.2.1.trans ih.2.1, h.2.2.2.trans ih.2.2⟩
theorem keys_len {m : Mk} (hm : OkMk m) (s : Ms × List Mo) (k : Nat) : (keysF m k s).2.length ≤ s.2.length + 12 * k := by
  induction k with
  | zero => simp [keysF]
  | succ k ih =>
    simp only [keysF, keyF]
    have h := regs_len m k ((keysF m k s).1.ht k) (goTo m.sp ((keysF m k s).1.ht k) ((keysF m k s).1.tg k)) (setHt (keysF m k s).1 k (goTo m.sp ((keysF m k s).1.ht k) ((keysF m k s).1.tg k)), (keysF m k s).2) m.N
    have := hm.n2
    simp only at h
    omega
theorem setHt_ok {m : Mk} {S : Ms} (h : OkMs m S) {k : Nat} {x : Int} (hx : 0 ≤ x ∧ x ≤ 1000) : OkMs m (setHt S k x) := by
  refine ⟨fun a ha => ?_, h.tg⟩
  simp only [setHt]
  split
  · exact hx
  · exact h.ht a ha
theorem keys_ok {m : Mk} (hm : OkMk m) {s : Ms × List Mo} (h : OkMs m s.1) (k : Nat) (hk : k ≤ m.K) : OkMs m (keysF m k s).1 := by
  induction k with
  | zero => exact h
  | succ k ih =>
    have h1 := ih (by omega)
    simp only [keysF, keyF]
    have h2 := regs_st m k ((keysF m k s).1.ht k) (goTo m.sp ((keysF m k s).1.ht k) ((keysF m k s).1.tg k)) (setHt (keysF m k s).1 k (goTo m.sp ((keysF m k s).1.ht k) ((keysF m k s).1.tg k)), (keysF m k s).2) m.N
    have h3 := setHt_ok (k := k) h1 (goTo_in hm.s1 (h1.ht k (by omega)) (h1.tg k (by omega)))
    exact ⟨by rw [h2.1]; exact h3.ht, by rw [h2.2.1]; exact h3.tg⟩
theorem tick_ok {m : Mk} (hm : OkMk m) {S : Ms} (h : OkMs m S) : OkMs m (tickF m S).1 := keys_ok hm (s := ({ S with tk := S.tk + 1 }, [])) ⟨h.ht, h.tg⟩ _ (Nat.le_refl _)
theorem tick_tk (m : Mk) (S : Ms) : (tickF m S).1.tk = S.tk + 1 := (keys_st m ({ S with tk := S.tk + 1 }, []) m.K).2.1
theorem tick_on (m : Mk) (S : Ms) : (tickF m S).1.on = S.on := (keys_st m ({ S with tk := S.tk + 1 }, []) m.K).2.2
theorem tick_tg (m : Mk) (S : Ms) : (tickF m S).1.tg = S.tg := (keys_st m ({ S with tk := S.tk + 1 }, []) m.K).1
theorem tick_len {m : Mk} (hm : OkMk m) (S : Ms) : (tickF m S).2.length ≤ 768 := by
  have := keys_len hm ({ S with tk := S.tk + 1 }, []) m.K
  have h2 := hm.k2
  simp only [List.length_nil] at this
  unfold tickF; omega
end Go.Proofs.Ytpaemlkikkcjiaa
