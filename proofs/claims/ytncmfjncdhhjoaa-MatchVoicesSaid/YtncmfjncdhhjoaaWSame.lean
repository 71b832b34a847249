/- same; empty; cut and table of the laws. -/
import Derived.Test.YtncmfjncdhhjoaaTabM
namespace Go.Proofs.Ytncmfjncdhhjoaa
open Go.RowKit

set_option maxHeartbeats 1000000 in
set_option maxRecDepth 100000 in
theorem same_any (A A' : Option Addr) (c c' L L' : Nat) (l l' : List Int) (w : World) (hA : Ints w A l) (hA' : Ints w A' l') (hL : L = l.length) (hL' : L' = l'.length) (hl : L ≤ 1000000) (hl' : L' ≤ 1000000) :
    Calls Try.prog 31 #[.slice A L c, .slice A' L' c'] w fun e w' => e = .returned (.bool (decide (l = l'))) ∧ Below w.heap.size w w' := by
  by_cases hne : L = L'
  · subst hne
    have HA := Lib.hid hA
    have HA' := Lib.hid hA'
    have HL := Lib.hid hL
    have HL' := Lib.hid hL'
    clear hA hA' hL hL'
    have hd : ((L : Int) != (L : Int)) = false := by simp
    go_enter Try.func31, Try.ntmps31
    go_wp2_with (fail)
    go_loopw [5] (fun t wr => ∃ i z : Nat, i ≤ L ∧ t = .int .i64 (i : Int) ∧ Hid (∀ j, j < i → l[j]? = l'[j]?) ∧ wr = w.drewN z) (fun t _ => L - (intOf t).toNat)
    case atStart => exact ⟨0, 0, Nat.zero_le _, rfl, Lib.hid (fun j hj => by omega), rfl⟩
    case round =>
      obtain ⟨i, z, hi, rfl, HE, rfl⟩ := hrel
      by_cases hlt : i < L
      · obtain ⟨g, off, x, rfl, hg, hx, hcx⟩ := Ints.at_ HA.out (i := i) (by have := HL.out; omega)
        obtain ⟨g2, off2, y, rfl, hg2, hy, hcy⟩ := Ints.at_ HA'.out (i := i) (by have := HL'.out; omega)
        have HX := Lib.hid hx
        have HY := Lib.hid hy
        clear hx hy
        by_cases hxy : x = y
        · have HN : Hid (∀ j, j < i + 1 → l[j]? = l'[j]?) := Lib.hid (fun j hj => by
            by_cases e : j = i
            · subst e; rw [HX.out, HY.out, hxy]
            · exact HE.out j (by omega))
          have hb : (x != y) = false := by simpa using hxy
          clear hxy
          go_wp2_with (fail)
          go_quiet (fail)
          go_wp2_with (fail)
          go_roundw
          case rel => exact ⟨i + 1, _, by omega, by go_num, HN, rfl⟩
          case measure => simp [intOf]; omega
        · have hb : (x != y) = true := by simpa using hxy
          have he : decide (l = l') = false := by
            simp only [decide_eq_false_iff_not]
            rintro rfl
            have h1 := HX.out
            rw [HY.out] at h1
            injection h1 with h1
            exact hxy h1.symm
          have HE2 := Lib.hid he
          clear hxy he
          go_wp2_with (fail)
          go_quiet (fail)
          go_wp2
          go_ret
          exact ⟨by rw [HE2.out]; rfl, by first | exact below_drewN (Below.refl _ _) _ | exact below_drewN (below_drewN (Below.refl _ _) _) _⟩
      · obtain rfl : i = L := by omega
        have he : decide (l = l') = true := by
          simp only [decide_eq_true_eq]
          apply List.ext_getElem?
          intro j
          by_cases hj : j < i
          · exact HE.out j hj
          · rw [List.getElem?_eq_none (by have := HL.out; omega), List.getElem?_eq_none (by have := HL'.out; omega)]
        have HE2 := Lib.hid he
        clear he
        go_wp2
        go_ret
        exact ⟨by rw [HE2.out]; rfl, below_drewN (Below.refl _ _) _⟩
  · have hd : ((L : Int) != (L' : Int)) = true := by simp; omega
    have he : decide (l = l') = false := by
      simp only [decide_eq_false_iff_not]
      rintro rfl
      omega
    rw [he]
    clear hA hA' hL hL' he
    go_enter Try.func31, Try.ntmps31
    go_wp2
    go_ret
    exact ⟨rfl, Below.refl _ _⟩

end Go.Proofs.Ytncmfjncdhhjoaa
