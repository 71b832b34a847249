import Derived.Test.YtaegkhdkhgemmaaChkA
namespace Go.Proofs.Ytaegkhdkhgemmaa
open Go.RowKit Num

/-- Any limbs at all, as an argument. -/
def Limbs (w : World) (v : Value) (xs : List Nat) : Prop := ∃ A c, v = .slice A xs.length c ∧ xs.length ≤ c ∧ xs.length ≤ 1000000000000 ∧ Nums .u32 w A xs
theorem Limbs.keep {w w' : World} {v : Value} {xs : List Nat} (h : Limbs w v xs) (hb : Below w.heap.size w w') : Limbs w' v xs := by
  obtain ⟨A, c, e, hc, hl, hn⟩ := h
  exact ⟨A, c, e, hc, hl, hn.keep hb⟩
theorem Limbs.num {w : World} {v : Value} {n : Nat} (h : N32 w v n) (hl : (dig B32 n).length ≤ 1000000000000) : Limbs w v (dig B32 n) := by
  obtain ⟨A, c, e, hc, hn⟩ := h
  exact ⟨A, c, e, hc, hl, hn⟩
theorem Limbs.is {w : World} {v : Value} {n : Nat} (h : Limbs w v (dig B32 n)) : N32 w v n := by
  obtain ⟨A, c, e, hc, _, hn⟩ := h
  exact ⟨A, c, e, hc, hn⟩

theorem nats1 {w : World} {v : Value} {xs : List Nat} (h : Limbs w v xs) : NatsAt (w.alloc (.cells #[v] 23)) w.heap.size [(v, xs)] := by
  refine ⟨by simp, fun i p hp => ?_⟩
  obtain ⟨A, c, e, hc, hl, hn⟩ := h.keep (below_new w (.cells #[v] 23))
  have hi := (List.getElem?_eq_some_iff.1 hp).1
  obtain rfl : i = 0 := by simpa using hi
  injection hp with hp
  subst hp
  exact ⟨by simp, A, c, e, hl, hn⟩
theorem nats2 {w : World} {v v' : Value} {xs xs' : List Nat} (h : Limbs w v xs) (h' : Limbs w v' xs') : NatsAt (w.alloc (.cells #[v, v'] 23)) w.heap.size [(v, xs), (v', xs')] := by
  refine ⟨by simp, fun i p hp => ?_⟩
  obtain ⟨A, c, e, hc, hl, hn⟩ := h.keep (below_new w (.cells #[v, v'] 23))
  obtain ⟨A', c', e', hc', hl', hn'⟩ := h'.keep (below_new w (.cells #[v, v'] 23))
  have hi := (List.getElem?_eq_some_iff.1 hp).1
  have : i = 0 ∨ i = 1 := by simp at hi; omega
  rcases this with rfl | rfl
  · injection hp with hp
    subst hp
    exact ⟨by simp, A, c, e, hl, hn⟩
  · injection hp with hp
    subst hp
    exact ⟨by simp, A', c', e', hl', hn'⟩

/-- The first fault of two. -/
def chk2 (xs ys : List Nat) : Int := if chk xs = 0 then chk ys else chk xs
theorem chkAll2 (v v' : Value) (xs ys : List Nat) : chkAll [(v, xs), (v', ys)] = chk2 xs ys := by
  simp only [chkAll, chk2]
  split
  · split
    · rename_i h; exact h.symm
    · rfl
  · rfl
theorem chkAll1 (v : Value) (xs : List Nat) : chkAll [(v, xs)] = chk xs := by
  simp only [chkAll]
  split
  · rename_i h; exact h.symm
  · rfl

set_option maxHeartbeats 1000000 in
set_option maxRecDepth 100000 in
theorem mul_bad (a b : Value) (xs ys : List Nat) (w : World) (ha : Limbs w a xs) (hb : Limbs w b ys) (h0 : chk2 xs ys ≠ 0) : Calls Try.prog 45 #[a, b] w (NatErr w (chk2 xs ys)) := by
  have hc := checkAll_any w.heap.size 2 2 _ _ (nats2 ha hb) rfl (by omega)
  rw [chkAll2] at hc
  generalize chk2 xs ys = r at *
  have hbA := below_new w (.cells #[a, b] 23)
  have hq : (r != 0) = true := by simp [h0]
  have HC := Lib.hid hc
  have H0 := Lib.hid h0
  obtain ⟨A, c, rfl, _⟩ := ha
  obtain ⟨A', c', rfl, _⟩ := hb
  clear hc h0
  generalize xs.length = L at *
  generalize ys.length = L' at *
  go_enter Try.func45, Try.ntmps45
  go_wp2_with (go_at_call 75; refine HC.out.mono ?_; rintro e w1 ⟨rfl, rfl⟩)
  go_ret2
  exact ⟨rfl, hbA⟩

theorem words_le {n K : Nat} (h : (dig B32 n).length ≤ 2 * K) : (dig B64 n).length ≤ K := by
  have := words_of_limbs n
  unfold B64 B32 at *
  omega

set_option maxHeartbeats 1000000 in
set_option maxRecDepth 100000 in
theorem mul_at {N : Nat} (a b : Value) (m n : Nat) (w : World) (HM : MulAt m n) (hN : N ≤ 1000000000) (ha : N32 w a m) (hb : N32 w b n) (hm : (dig B32 m).length ≤ 262144) (hn : (dig B32 n).length ≤ 262144)
    (hmN : (dig B32 m).length ≤ 2 * N) (hnN : (dig B32 n).length ≤ 2 * N) (hp : nbits (m * n) ≤ 8388608) : Calls Try.prog 45 #[a, b] w (NatOk w (m * n)) := by
  have hc := checkAll_any w.heap.size 2 2 _ _ (nats2 (Limbs.num ha (by omega)) (Limbs.num hb (by omega))) rfl (by omega)
  rw [chkAll2, chk2, if_pos (chk_dig hm), chk_dig hn] at hc
  have hbA := below_new w (.cells #[a, b] 23)
  have ha1 := ha.keep hbA
  have hb1 := hb.keep hbA
  have hf1 := fun w' (h : N32 w' a m) => fromNat_any a m w' h (by omega)
  have hf2 := fun w' (h : N32 w' b n) => fromNat_any b n w' h (by omega)
  have hpr := fun v u w' (h : W64 w' v m) (k : W64 w' u n) => product_at v u m n w' HM hN h k (words_le hmN) (words_le hnN) hp
  have HC := Lib.hid hc
  have HA := Lib.hid ha1
  have HB := Lib.hid hb1
  have HF1 := Lib.hid hf1
  have HF2 := Lib.hid hf2
  have HP := Lib.hid hpr
  obtain ⟨A, c, rfl, _⟩ := ha
  obtain ⟨A', c', rfl, _⟩ := hb
  clear hc ha1 hb1 hf1 hf2 hpr HM hp
  generalize (dig B32 m).length = L at *
  generalize (dig B32 n).length = L' at *
  go_enter Try.func45, Try.ntmps45
  go_wp2_with (go_at_call 75; refine HC.out.mono ?_; rintro e w1 ⟨rfl, rfl⟩)
  go_wp2_with (fail)
  refine (HF1.out _ HA.out).mono ?_
  rintro e w1 ⟨v1, rfl, hv1, hb1⟩
  go_wp2_with (fail)
  refine (HF2.out _ (HB.out.keep hb1)).mono ?_
  rintro e w2 ⟨v2, rfl, hv2, hb2⟩
  go_wp2_with (fail)
  refine (HP.out _ _ _ (hv1.is.keep hb2) hv2.is).mono ?_
  rintro e w3 ⟨v3, rfl, hv3, hb3⟩
  go_wp2
  go_ret2
  have b1 := below_at hbA (Nat.le_refl _) hb1
  have b2 := below_at b1 (Nat.le_refl _) hb2
  exact ⟨_, rfl, hv3.mono b2.size, below_at b2 (Nat.le_refl _) hb3⟩

theorem mul_ok {N : Nat} (HM : MulSpec N) (hN : N ≤ 1000000000) (a b : Value) (m n : Nat) (w : World) (ha : N32 w a m) (hb : N32 w b n) (hm : (dig B32 m).length ≤ 262144) (hn : (dig B32 n).length ≤ 262144)
    (hmN : (dig B32 m).length ≤ 2 * N) (hnN : (dig B32 n).length ≤ 2 * N) (hp : nbits (m * n) ≤ 8388608) : Calls Try.prog 45 #[a, b] w (NatOk w (m * n)) :=
  mul_at a b m n w (fun a b w ha hb => HM a b m n w ha hb (words_le hmN) (words_le hnN)) hN ha hb hm hn hmN hnN hp
end Go.Proofs.Ytaegkhdkhgemmaa
