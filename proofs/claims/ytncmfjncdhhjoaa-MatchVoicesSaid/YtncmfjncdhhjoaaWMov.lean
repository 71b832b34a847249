/- moveOn: each owner on the way moves to the next column. -/
import Derived.Test.YtncmfjncdhhjoaaWRai
namespace Go.Proofs.Ytncmfjncdhhjoaa
open Go.RowKit

theorem rank_lt {D : List Nat} {k0 k j : Nat} (hk0 : k0 ∉ D) (hk : k ∈ D ∨ k = k0) (hj : j ∈ D) (h : k ∈ D → D.idxOf j < D.idxOf k) : rankD D j < rankD D k := by
  unfold rankD
  rw [if_pos hj]
  rcases hk with hk | rfl
  · rw [if_pos hk]; exact h hk
  · rw [if_neg hk0]; exact List.idxOf_lt_length_of_mem hj

set_option maxHeartbeats 2000000 in
set_option maxRecDepth 100000 in
theorem moveOn_any (B B1 p gu gv go q ga gf gd n m r k0 : Nat) (C : Value) (u v o d f : Nat → Int) (dn : Nat → Bool) (D : List Nat) (w : World)
    (hP : PrM B w p gu gv go C n m u v o) (hp : p < B1 ∧ gu < B1 ∧ gv < B1 ∧ go < B1) (R : ReM B1 w q ga gf gd m d f dn) (_hm : m ≤ 64)
    (hk0 : k0 ∉ D) (hst : ∀ k, (k ∈ D ∨ k = k0) → k < m ∧ (f k = -1 ∨ ∃ j : Nat, f k = (j : Int) ∧ j ∈ D ∧ (k ∈ D → D.idxOf j < D.idxOf k))) :
    Calls Try.prog 73 #[.pointer (some ⟨p, 0, none⟩), .pointer (some ⟨q, 0, none⟩), .int .i64 (r : Int), .int .i64 (k0 : Int)] w fun e w' => (∃ x, e = .returned x) ∧
      ∃ o', Moves f r o k0 o' ∧ PrM B w' p gu gv go C n m u v o' ∧ ReM B1 w' q ga gf gd m d f dn ∧ Below B w w' := by
  obtain ⟨hp1, hp2, hp3, hp4⟩ := hp
  have hB4 := hP.far.2.2.2.1
  have HST := Lib.hid hst
  have HK0 := Lib.hid hk0
  have HP0 := Lib.hid hP
  have HR0 := Lib.hid R
  clear hst hk0 hP R
  go_enter Try.func73, Try.ntmps73
  go_wp2_with (fail)
  go_loopw [3] (fun t wr => ∃ (k : Nat) (o1 : Nat → Int), t = .int .i64 (k : Int) ∧ Hid (k ∈ D ∨ k = k0) ∧ (∀ o', Moves f r o1 k o' → Moves f r o k0 o') ∧ PrM B wr p gu gv go C n m u v o1 ∧ ReM B1 wr q ga gf gd m d f dn ∧ Below B w wr) (fun t _ => rankD D (intOf t).toNat)
  case atStart => exact ⟨k0, o, rfl, Lib.hid (.inr rfl), fun _ h => h, HP0.out, HR0.out, Below.refl _ _⟩
  case round =>
    clear HP0 HR0
    obtain ⟨k, o1, rfl, HK, hM, hP, hR, hb⟩ := hrel
    obtain ⟨hkm, hcase⟩ := HST.out k HK.out
    have HM := Lib.hid hM
    have p3 : wr.cell? ⟨p, 3, none⟩ = some (.slice (some ⟨go, 0, none⟩) m m) := hP.box.cell 3
    have q1 : wr.cell? ⟨q, 1, none⟩ = some (.slice (some ⟨gf, 0, none⟩) m m) := hR.box.cell 1
    have cf := hR.from_.int hkm
    have co := hP.own.int hkm
    have fo := hP.own.frozen
    rcases hcase with hf | ⟨j, hf, hj, hrk⟩
    · rw [hf] at cf
      have hend := HM.out _ (Moves.base hf)
      have hPN := hP.setO k (r : Int)
      have hRN := hR.other hp4 k (.int .i64 (r : Int))
      have HE := Lib.hid hend
      have HPN := Lib.hid hPN
      have HRN := Lib.hid hRN
      clear hend hPN hRN hM hP hR hf
      go_wp2
      refine bodyPost_end (results_none rfl _ _ _) rfl ?_
      exact ⟨⟨_, rfl⟩, _, HE.out, HPN.out, HRN.out, below_set hb hB4 _⟩
    · have hjm := (HST.out j (.inl hj)).1
      have cj := hP.own.int hjm
      have hne : ¬ (j : Int) = -1 := by omega
      have hneb : ((j : Int) != -1) = true := by simp
      have hstep := fun o' h => HM.out o' (Moves.step hf h)
      have hlt := rank_lt HK0.out HK.out hj hrk
      have HS := Lib.hid hstep
      have HLT := Lib.hid hlt
      have HF := Lib.hid hf
      have HP := Lib.hid hP
      have HR := Lib.hid hR
      rw [hf] at cf
      clear hstep hlt hM hf hP hR hrk
      generalize hx : o1 j = x at *
      have HX := Lib.hid hx
      clear hx
      go_wp2_with (fail)
      go_region
      have hPN := (HP.out.setO k x).drew
      have hRN := (HR.out.other hp4 k (.int .i64 x)).drew
      have hbN : Below B w (wr.setCell ⟨go, k, none⟩ (.int .i64 x)).drew := (below_set hb hB4 _).drew
      clear p3 q1 cf co fo cj hb
      generalize (wr.setCell ⟨go, k, none⟩ (.int .i64 x)).drew = W at *
      have q1 : W.cell? ⟨q, 1, none⟩ = some (.slice (some ⟨gf, 0, none⟩) m m) := hRN.box.cell 1
      have cf := hRN.from_.int hkm
      rw [HF.out] at cf
      have HPN := Lib.hid hPN
      have HRN := Lib.hid hRN
      clear hPN hRN HP HR
      go_wp2
      go_roundw
      case rel => exact ⟨j, _, rfl, Lib.hid (.inl hj), fun o' h => HS.out o' h, HPN.out, HRN.out, hbN⟩
      case measure =>
        have := HLT.out
        simp only [intOf, Int.toNat_natCast]
        exact this

end Go.Proofs.Ytncmfjncdhhjoaa
