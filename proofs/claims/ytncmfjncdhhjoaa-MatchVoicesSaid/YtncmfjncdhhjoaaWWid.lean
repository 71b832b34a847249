/- widen: a row brings the columns nearer that it may have. -/
import Derived.Test.YtncmfjncdhhjoaaTabM
import Derived.BigRegion
namespace Go.Proofs.Ytncmfjncdhhjoaa
open Go.RowKit

/-- The distances behind the first K columns. -/
def parI (K : Nat) (x y : Nat → Int) (k : Nat) : Int := if k < K then x k else y k
theorem parI_zero (x y : Nat → Int) : parI 0 x y = y := by funext k; simp [parI]
theorem parI_at (x y : Nat → Int) (K : Nat) : parI K x y K = y K := by simp [parI]
theorem parI_full {x y : Nat → Int} {m : Nat} : fl (parI m x y) m = fl x m := fl_congr fun k hk => by simp [parI, hk]
theorem parI_upd {x y : Nat → Int} {K : Nat} {v : Int} (h : x K = v) : upd (parI K x y) K v = parI (K + 1) x y := by
  funext k
  unfold upd parI
  by_cases e : k = K
  · subst e; rw [if_pos rfl, if_pos (by omega), h]
  · rw [if_neg e]
    by_cases h1 : k < K
    · rw [if_pos h1, if_pos (by omega)]
    · rw [if_neg h1, if_neg (by omega)]
theorem parI_same {x y : Nat → Int} {K : Nat} (h : x K = y K) : parI (K + 1) x y = parI K x y := by
  funext k
  unfold parI
  by_cases e : k = K
  · subst e; rw [if_pos (by omega), if_neg (by omega), h]
  · by_cases h1 : k < K
    · rw [if_pos h1, if_pos (by omega)]
    · rw [if_neg h1, if_neg (by omega)]

set_option maxHeartbeats 2000000 in
set_option maxRecDepth 100000 in
theorem widen_any (B B1 p gu gv go q ga gf gd n m i cT : Nat) (A : Option Addr) (ls : List (List Int)) (u v o d f : Nat → Int) (dn : Nat → Bool) (a fr : Int) (w : World)
    (hP : PrM B w p gu gv go (.slice A n cT) n m u v o) (hp : p < B1 ∧ gu < B1 ∧ gv < B1 ∧ go < B1) (hB : B ≤ B1) (R : ReM B1 w q ga gf gd m d f dn) (G : Good n m ls) (T : Tab B w A ls)
    (hi : i < n) (hm : m ≤ 64) (_hn : n ≤ 64) (hu : -1000000000000000 ≤ u i ∧ u i ≤ 1000000000000000) (hv : ∀ k, k < m → -1000000000000000 ≤ v k ∧ v k ≤ 1000000000000000) (ha : 0 ≤ a ∧ a ≤ 1000000000000000) :
    Calls Try.prog 70 #[.pointer (some ⟨p, 0, none⟩), .pointer (some ⟨q, 0, none⟩), .int .i64 (i : Int), .int .i64 a, .int .i64 fr] w fun e w' => (∃ x, e = .returned x) ∧
      ReM B1 w' q ga gf gd m (widD (cst ls) u v dn i a d) (widF (cst ls) u v dn i a fr d f) dn ∧ Below B1 w w' := by
  have hS : ∀ wr, Below B1 w wr → PrM B wr p gu gv go (.slice A n cT) n m u v o ∧ Tab B wr A ls := fun wr h => ⟨hP.keep h hp, T.keep (h.mono hB)⟩
  have hrg : ∀ k, k < m → -1 ≤ cst ls i k ∧ cst ls i k ≤ 1000000000 := fun k hk => G.rng i k hi hk
  obtain ⟨g, off, Ai, ci, rfl, hg, hrow, hcell⟩ := G.at_ T hi
  have p0 : w.cell? ⟨p, 0, none⟩ = some (.slice (some ⟨g, off, none⟩) n cT) := hP.box.cell 0
  obtain ⟨hq1, hq2, hq3, hq4, e1, e2, e3, e4, e5, e6⟩ := R.far
  have HS := Lib.hid hS
  have HR := Lib.hid R
  have HC := Lib.hid hcell
  have HRG := Lib.hid hrg
  have HV := Lib.hid hv
  clear hS R hcell hrg hP T hv
  go_enter Try.func70, Try.ntmps70
  go_wp2_with (fail)
  go_loopw [10, 11, 12, 21] (fun _ _ _ t wr => ∃ k : Nat, k ≤ m ∧ t = .int .i64 (k : Int) ∧ ReM B1 wr q ga gf gd m (parI k (widD (cst ls) u v dn i a d) d) (parI k (widF (cst ls) u v dn i a fr d f) f) dn ∧ Below B1 w wr) (fun _ _ _ t _ => m - (intOf t).toNat)
  case atStart => exact ⟨0, Nat.zero_le _, rfl, by rw [parI_zero, parI_zero]; exact HR.out, Below.refl _ _⟩
  case round =>
    obtain ⟨k, hk, rfl, hR, hb⟩ := hrel
    by_cases hlt : k < m
    · obtain ⟨P, _⟩ := HS.out wr hb
      obtain ⟨g2, off2, rfl, hg2, hcl⟩ := HC.out (by omega)
      have hcc := (hb.cell (p := ⟨g2, off2 + k, none⟩) (by show g2 < B1; omega)).trans (hcl k hlt)
      have hc1 := HRG.out k hlt
      have hv1 := HV.out k hlt
      have p1 : wr.cell? ⟨p, 1, none⟩ = some (.slice (some ⟨gu, 0, none⟩) n n) := P.box.cell 1
      have p2 : wr.cell? ⟨p, 2, none⟩ = some (.slice (some ⟨gv, 0, none⟩) m m) := P.box.cell 2
      have q0 : wr.cell? ⟨q, 0, none⟩ = some (.slice (some ⟨ga, 0, none⟩) m m) := hR.box.cell 0
      have q1 : wr.cell? ⟨q, 1, none⟩ = some (.slice (some ⟨gf, 0, none⟩) m m) := hR.box.cell 1
      have q2 : wr.cell? ⟨q, 2, none⟩ = some (.slice (some ⟨gd, 0, none⟩) m m) := hR.box.cell 2
      have cu := P.rows.int hi
      have cv := P.cols.int hlt
      have ca := hR.away.int hlt
      rw [parI_at] at ca
      have cd := hR.done.bool hlt
      have fa := hR.away.frozen k
      have ff := hR.from_.frozen k
      have hsk : (¬ nearer (cst ls) u v dn i a d k = true) → ReM B1 wr q ga gf gd m (parI (k + 1) (widD (cst ls) u v dn i a d) d) (parI (k + 1) (widF (cst ls) u v dn i a fr d f) f) dn := by
        intro h
        rw [parI_same (show widD (cst ls) u v dn i a d k = d k from if_neg h), parI_same (show widF (cst ls) u v dn i a fr d f k = f k from if_neg h)]
        exact hR
      have htk : (nearer (cst ls) u v dn i a d k = true) → ReM B1 ((wr.setCell ⟨ga, k, none⟩ (.int .i64 (a + cst ls i k - u i - v k))).setCell ⟨gf, k, none⟩ (.int .i64 fr)) q ga gf gd m (parI (k + 1) (widD (cst ls) u v dn i a d) d) (parI (k + 1) (widF (cst ls) u v dn i a fr d f) f) dn := by
        intro h
        rw [← parI_upd (show widD (cst ls) u v dn i a d k = a + cst ls i k - u i - v k from if_pos h), ← parI_upd (show widF (cst ls) u v dn i a fr d f k = fr from if_pos h)]
        exact ⟨(hR.box.setOther (a := ⟨ga, k, none⟩) e1 _).setOther (a := ⟨gf, k, none⟩) e2 _, (hR.away.setI k _).setOther (a := ⟨gf, k, none⟩) e4 _,
          (hR.from_.setOther (a := ⟨ga, k, none⟩) (Ne.symm e4) _).setI k _, (hR.done.setOther (a := ⟨ga, k, none⟩) (Ne.symm e5) _).setOther (a := ⟨gf, k, none⟩) (Ne.symm e6) _, hR.far⟩
      have hb2 : Below B1 w ((wr.setCell ⟨ga, k, none⟩ (.int .i64 (a + cst ls i k - u i - v k))).setCell ⟨gf, k, none⟩ (.int .i64 fr)) := below_set (below_set hb hq2 _) hq3 _
      have hne : nearer (cst ls) u v dn i a d k = (cst ls i k != -1 && (!dn k && decide (a + cst ls i k - u i - v k < d k))) := rfl
      rw [hne] at hsk htk
      have HSK := Lib.hid hsk
      have HTK := Lib.hid htk
      clear hsk htk hne HR HC HV HRG P
      generalize cst ls i k = x at *
      generalize v k = vk at *
      generalize u i = ui at *
      generalize d k = dk at *
      by_cases hx : x = -1
      · subst hx
        have HN := Lib.hid (HSK.out (by simp))
        clear hc1
        go_wp2
        go_roundw
        case rel => exact ⟨k + 1, by omega, by go_num, HN.out, hb⟩
        case measure => simp [intOf]; omega
      · have hxb : (x == -1) = false := by simpa using hx
        cases hd : dn k with
        | true =>
          rw [hd] at cd
          have HN := Lib.hid (HSK.out (by simp [hd]))
          clear hx hd
          go_wp2
          go_roundw
          case rel => exact ⟨k + 1, by omega, by go_num, HN.out, hb⟩
          case measure => simp [intOf]; omega
        | false =>
          rw [hd] at cd
          have w1 : IntKind.i64.wrap (a + x) = a + x := wrapI (by omega) (by omega)
          have w2 : IntKind.i64.wrap (a + x - ui) = a + x - ui := wrapI (by omega) (by omega)
          have w3 : IntKind.i64.wrap (a + x - ui - vk) = a + x - ui - vk := wrapI (by omega) (by omega)
          by_cases hl : a + x - ui - vk < dk
          · have HN := Lib.hid (HTK.out (by simp [hd, hx, hl]))
            have hlb : decide (a + x - ui - vk < dk) = true := by simpa using hl
            clear hx hd hl
            go_wp2_with (fail)
            go_quiet (fail)
            go_wp2_with (fail)
            clear w1 w2 w3 hlb
            have f2 := hR.away.frozen
            have cf := hR.from_.int hlt
            have f3 := hR.from_.frozen
            go_region
            · go_wp2
              go_roundw
              case rel =>
                refine ⟨k + 1, by omega, by go_num, ?_, ?_⟩
                · have h := HN.out.drewN (nq + 1)
                  exact h
                · exact below_set (below_set (below_drewN hb _) hq2 _) hq3 _
              case measure => simp [intOf]; omega
          · have HN := Lib.hid (HSK.out (by simp [hd, hl]))
            have hlb : decide (a + x - ui - vk < dk) = false := by simpa using hl
            clear hx hd hl
            go_wp2_with (fail)
            go_quiet (fail)
            go_wp2_with (fail)
            go_roundw
            case rel => exact ⟨k + 1, by omega, by go_num, HN.out.drewN _, below_drewN hb _⟩
            case measure => simp [intOf]; omega
    · obtain rfl : k = m := by omega
      go_wp2
      refine bodyPost_end (results_none rfl _ _ _) rfl ?_
      have h1 := hR.away
      have h2 := hR.from_
      rw [parI_full] at h1 h2
      exact ⟨⟨_, rfl⟩, ⟨hR.box, h1, h2, hR.done, hR.far⟩, hb⟩

end Go.Proofs.Ytncmfjncdhhjoaa
