/- tables: two tables that read the same are the same. -/
import Derived.Test.YtncmfjncdhhjoaaWSame
import Derived.Deep.RegionHeld3
namespace Go.Proofs.Ytncmfjncdhhjoaa
open Go.RowKit

set_option maxHeartbeats 4000000 in
set_option maxRecDepth 100000 in
theorem tables_same (A A' : Option Addr) (c c' n : Nat) (ls : List (List Int)) (w : World) (T : Tab w.heap.size w A ls) (T' : Tab w.heap.size w A' ls) (hn : n = ls.length) (hn64 : n ≤ 1000) (hm : ∀ l ∈ ls, l.length ≤ 1000000) :
    Calls Try.prog 45 #[.slice A n c, .slice A' n c'] w fun e w' => e = .returned (.bool true) ∧ Below w.heap.size w w' := by
  have hne : ((n : Int) != (n : Int)) = false := by simp
  have hkp := fun W (h : Below w.heap.size w W) => (⟨(T.keep h).mono h.size, (T'.keep h).mono h.size⟩ : Tab W.heap.size W A ls ∧ Tab W.heap.size W A' ls)
  have HKP := Lib.hid hkp
  have HN := Lib.hid hn
  have HM := Lib.hid hm
  clear hkp T T' hn hm
  go_enter Try.func45, Try.ntmps45
  go_wp2_with (fail)
  go_loopw [5] (fun t wr => ∃ i : Nat, i ≤ n ∧ t = .int .i64 (i : Int) ∧ Below w.heap.size w wr) (fun t _ => n - (intOf t).toNat)
  case atStart => exact ⟨0, Nat.zero_le _, rfl, Below.refl _ _⟩
  case round =>
    obtain ⟨i, hi, rfl, hl⟩ := hrel
    by_cases hlt : i < n
    · have hiI : (i : Int) < (n : Int) := by omega
      obtain ⟨l, hl'⟩ : ∃ l, ls[i]? = some l := ⟨ls[i]'(by have := HN.out; omega), List.getElem?_eq_getElem _⟩
      obtain ⟨g, off, Ai, ci, rfl, hg, hc, hv⟩ := (HKP.out wr hl).1.row hl'
      obtain ⟨g2, off2, Ai2, ci2, rfl, hg2, hc2, hv2⟩ := (HKP.out wr hl).2.row hl'
      have hlm := HM.out l (List.mem_of_getElem? hl')
      have hsm := same_any Ai Ai2 ci ci2 l.length l.length l l wr.drew (hv.vals (Nat.le_refl _)).drew (hv2.vals (Nat.le_refl _)).drew rfl rfl hlm hlm
      rw [decide_eq_true rfl] at hsm
      have HSM := Lib.hid hsm
      obtain ⟨K, hK⟩ : ∃ K, K = l.length := ⟨_, rfl⟩
      rw [← hK] at hc hc2 HSM
      have hwd : Below wr.heap.size wr wr.drew := (Below.refl _ _).drew
      have hk1 : ∀ W, Below wr.heap.size wr W → W.cell? ⟨g, off + i, none⟩ = some (.slice Ai K ci) ∧ W.cell? ⟨g2, off2 + i, none⟩ = some (.slice Ai2 K ci2) := fun W h => ⟨(h.cell (p := ⟨g, off + i, none⟩) hg).trans hc, (h.cell (p := ⟨g2, off2 + i, none⟩) hg2).trans hc2⟩
      have HK1 := Lib.hid hk1
      clear hv hv2 hlm hsm hK hl' hk1
      go_wp2_with (fail)
      go_region_held3 (fun w' => w'.cell? ⟨g, off + i, none⟩ = some (.slice Ai K ci) ∧ w'.cell? ⟨g2, off2 + i, none⟩ = some (.slice Ai2 K ci2))
        (first | exact ⟨hc, hc2⟩ | exact ⟨j0, j1⟩ | go_keep)
        ((go_at_call 31; (with_reducible refine (HSM.out).mono ?_); rintro e w7 ⟨rfl, hl7⟩
          have hl7' := hwd.trans hl7
          obtain ⟨j0, j1⟩ := HK1.out w7 hl7'))
      go_wp2_with (fail)
      have hl8 := hl.trans (hl7'.mono hl.size)
      go_roundw
      case rel => exact ⟨i + 1, by omega, by go_num, hl8⟩
      case measure => simp [intOf]; omega
    · obtain rfl : i = n := by omega
      go_wp2
      go_ret
      exact ⟨rfl, hl⟩
end Go.Proofs.Ytncmfjncdhhjoaa
