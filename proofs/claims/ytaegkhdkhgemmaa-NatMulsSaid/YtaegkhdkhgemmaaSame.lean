import Derived.Test.YtaegkhdkhgemmaaMul
namespace Go.Proofs.Ytaegkhdkhgemmaa
open Go.RowKit Num

def Agree (xs ys : List Nat) (k : Nat) : Prop := ∀ i, i < k → xs[i]? = ys[i]?

set_option maxHeartbeats 1000000 in
theorem same_any (A A' : Option Addr) (c c' L L' : Nat) (xs ys : List Nat) (w : World) (hA : Nums .u32 w A xs) (hA' : Nums .u32 w A' ys) (hL : L = xs.length) (hL' : L' = ys.length) (hl : L ≤ 1000000000000) (hl' : L' ≤ 1000000000000) :
    Calls Try.prog 32 #[.slice A L c, .slice A' L' c'] w fun e w' => e = .returned (.bool (decide (xs = ys))) ∧ Below w.heap.size w w' := by
  obtain ⟨r, hr⟩ : ∃ r, decide (xs = ys) = r := ⟨_, rfl⟩
  rw [hr]
  by_cases hne : L = L'
  · subst hne
    have HL := Lib.hid hL
    have HL' := Lib.hid hL'
    have HR := Lib.hid hr
    clear hL hL' hr
    go_enter Try.func32, Try.ntmps32
    go_wp2
    go_loopw [5] (fun t wr => ∃ k : Nat, k ≤ L ∧ t = .int .i64 (k : Int) ∧ Agree xs ys k ∧ Below w.heap.size w wr) (fun t _ => L - (intOf t).toNat)
    case atStart => exact ⟨0, Nat.zero_le _, rfl, fun i h => absurd h (by omega), Below.refl _ _⟩
    case round =>
      obtain ⟨k, hk, rfl, hag, hb⟩ := hrel
      by_cases hlt : k < L
      · obtain ⟨g, off, x, rfl, hg, hx, hcx⟩ := (hA.keep hb).at_ (i := k) (by have := HL.out; omega)
        obtain ⟨g', off', y, rfl, hg', hy, hcy⟩ := (hA'.keep hb).at_ (i := k) (by have := HL'.out; omega)
        clear hA hA'
        by_cases hxy : x = y
        · have hq : ((x : Int) != (y : Int)) = false := by simp [hxy]
          have hag' : Agree xs ys (k + 1) := fun i hi => by
            by_cases e : i = k
            · rw [e, hx, hy, hxy]
            · exact hag i (by omega)
          clear hxy hx hy hag
          go_wp2
          go_quiet (fail)
          go_wp2
          go_roundw
          case rel => exact ⟨k + 1, by omega, by go_num, hag', below_drewN hb _⟩
          case measure => simp [intOf]; omega
        · have hq : ((x : Int) != (y : Int)) = true := by simp; omega
          have hrf : r = false := by
            rw [← HR.out]
            refine decide_eq_false fun e => ?_
            rw [e] at hx
            rw [hx] at hy
            injection hy with hy
            exact hxy hy
          have HRF := Lib.hid hrf
          clear hxy hx hy hag hrf
          go_wp2
          go_quiet (fail)
          go_wp2
          go_ret
          exact ⟨ret_b HRF.out.symm, below_drewN hb _⟩
      · have hkL : k = L := by omega
        have hrt : r = true := by
          rw [← HR.out]
          refine decide_eq_true (List.ext_getElem? fun i => ?_)
          by_cases hi : i < k
          · exact hag i hi
          · rw [List.getElem?_eq_none (by have := HL.out; omega), List.getElem?_eq_none (by have := HL'.out; omega)]
        have HRT := Lib.hid hrt
        subst hkL
        clear hlt hA hA' hrt hag
        go_wp2
        go_ret
        exact ⟨ret_b HRT.out.symm, hb⟩
  · have hn : ((L : Int) != (L' : Int)) = true := by simp; omega
    have hrf : r = false := by
      rw [← hr]
      refine decide_eq_false fun e => ?_
      rw [e] at hL
      exact hne (hL.trans hL'.symm)
    have HRF := Lib.hid hrf
    clear hrf hr hL hL' hA hA'
    go_enter Try.func32, Try.ntmps32
    go_wp2
    go_ret
    exact ⟨ret_b HRF.out.symm, Below.refl _ _⟩

/-- Two numbers. -/
theorem same_nums (a b : Value) (xs ys : List Nat) (w : World) (ha : Limbs w a xs) (hb : Limbs w b ys) :
    Calls Try.prog 32 #[a, b] w fun e w' => e = .returned (.bool (decide (xs = ys))) ∧ Below w.heap.size w w' := by
  obtain ⟨A, c, rfl, _, hl, hA⟩ := ha
  obtain ⟨A', c', rfl, _, hl', hA'⟩ := hb
  exact same_any A A' c c' _ _ xs ys w hA hA' rfl rfl hl hl'
end Go.Proofs.Ytaegkhdkhgemmaa
