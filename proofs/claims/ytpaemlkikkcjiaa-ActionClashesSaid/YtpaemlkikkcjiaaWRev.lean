/- slices.Reverse of ints: an own row of ints is read backwards. -/
import Derived.Test.YtpaemlkikkcjiaaWHig
namespace Go.Proofs.Ytpaemlkikkcjiaa
open Go.RowKit

/-- The first i and the last i exchanged. -/
def revF (f : Nat → Int) (m i : Nat) : Nat → Int := fun j => if j < i ∨ m ≤ j + i then f (m - 1 - j) else f j
theorem revF_step (f : Nat → Int) {m i : Nat} (h : i + i + 1 < m) : fl (upd (upd (revF f m i) i (f (m - 1 - i))) (m - 1 - i) (f i)) m = fl (revF f m (i + 1)) m := fl_congr fun j hj => by
  by_cases h1 : j = m - 1 - i
  · rw [h1, upd_at]
    unfold revF
    rw [if_pos (by omega)]
    congr 1; omega
  · rw [upd_ne h1]
    by_cases h2 : j = i
    · rw [h2, upd_at]
      unfold revF
      rw [if_pos (by omega)]
    · rw [upd_ne h2]
      unfold revF
      by_cases h3 : j < i ∨ m ≤ j + i
      · rw [if_pos h3, if_pos (by omega)]
      · rw [if_neg h3, if_neg (by omega)]
set_option maxHeartbeats 4000000 in
set_option maxRecDepth 100000 in
theorem reverse_any (g c m : Nat) (f : Nat → Int) (B : Nat) (w : World) (h : Hd 3 w g c (fl f m)) (hB : B ≤ g) (hm : m ≤ 1000) :
    Calls Try.prog 79 #[.slice (some ⟨g, 0, none⟩) m c] w fun e w' => (∃ v, e = .returned v) ∧ Hd 3 w' g c (fl (fun j => f (m - 1 - j)) m) ∧ Below B w w' := by
  have hw : IntKind.i64.wrap ((m : Int) - 1) = (m : Int) - 1 := wrapI (by omega) (by omega)
  have HH := Lib.hid h
  clear h
  go_enter Try.func79, Try.ntmps79
  go_wp2_with (fail)
  go_loopw [2, 3] (fun s t wr => ∃ i : Nat, i + i ≤ m + 1 ∧ s = .int .i64 (i : Int) ∧ t = .int .i64 ((m : Int) - 1 - (i : Int)) ∧ Hd 3 wr g c (fl (revF f m i) m) ∧ Below B w wr) (fun s _ _ => m + 1 - (intOf s).toNat)
  case atStart => exact ⟨0, by omega, rfl, by simp, by
    have : fl (revF f m 0) m = fl f m := fl_congr fun j hj => by unfold revF; rw [if_neg (by omega)]
    rw [this]; exact HH.out, Below.refl _ _⟩
  case round =>
    obtain ⟨i, hi, rfl, rfl, hh, hb⟩ := hrel
    clear HH
    by_cases hlt : i + i + 1 < m
    · have hlt2 : (i : Int) < (m : Int) - 1 - (i : Int) := by omega
      obtain ⟨k, hk⟩ : ∃ k : Nat, (m : Int) - 1 - (i : Int) = (k : Int) := ⟨m - 1 - i, by omega⟩
      have hkm : k = m - 1 - i := by omega
      rw [hk] at hlt2 ⊢
      have hkl : k < m := by omega
      have hkl2 : (k : Int) < (m : Int) := by omega
      have hil : i < m := by omega
      have hil2 : (i : Int) < (m : Int) := by omega
      have hat : ∀ j, j < m → wr.cell? ⟨g, j, none⟩ = some (.int .i64 (revF f m i j)) := fun j hj => by
        obtain ⟨g', off, v, e, _, hv, hc⟩ := (hh.vals).at_ (i := j) (by rw [fl_len]; exact hj)
        injection e with e
        injection e with e1 e2
        subst e1 e2
        rw [fl_at hj] at hv
        rw [Nat.zero_add] at hc
        rw [hc, ← hv]
      have ca := hat i hil
      have cb := hat k hkl
      have ei : revF f m i i = f i := by unfold revF; rw [if_neg (by omega)]
      have ek : revF f m i k = f k := by unfold revF; rw [if_neg (by omega)]
      rw [ei] at ca
      rw [ek] at cb
      have fz := hh.frozen
      have hn := hd_setI (hd_setI hh hil (f k)) hkl (f i)
      rw [hkm, revF_step f hlt, ← hkm] at hn
      have HN := Lib.hid hn
      have HB := Lib.hid hb
      have w1 : IntKind.i64.wrap ((k : Int) - 1) = (k : Int) - 1 := wrapI (by omega) (by omega)
      have HK := Lib.hid hk
      clear hh hb hat ei ek hn hk hkm
      go_wp2_with (fail)
      go_region
      have hn3 := HN.out.drew
      have hb3 := (below_set (below_set HB.out hB (i := i) (.int .i64 (f k))) hB (i := k) (.int .i64 (f i))).drew
      clear HN HB ca cb fz
      generalize ((wr.setCell ⟨g, i, none⟩ (.int .i64 (f k))).setCell ⟨g, k, none⟩ (.int .i64 (f i))).drew = V at *
      have HN := Lib.hid hn3
      have HB := Lib.hid hb3
      clear hn3 hb3
      go_wp2_with (fail)
      go_roundw
      case rel => exact ⟨i + 1, by omega, by go_num, by have := HK.out; congr 1; omega, HN.out, HB.out⟩
      case measure => simp [intOf]; omega
    · have hlt2 : ¬ (i : Int) < (m : Int) - 1 - (i : Int) := by omega
      have he : fl (revF f m i) m = fl (fun j => f (m - 1 - j)) m := fl_congr fun j hj => by
        unfold revF
        by_cases h : j < i ∨ m ≤ j + i
        · rw [if_pos h]
        · rw [if_neg h]; congr 1; omega
      rw [he] at hh
      have HH := Lib.hid hh
      clear he hh
      go_wp2
      go_end0
      exact ⟨⟨_, rfl⟩, HH.out, hb⟩
end Go.Proofs.Ytpaemlkikkcjiaa
