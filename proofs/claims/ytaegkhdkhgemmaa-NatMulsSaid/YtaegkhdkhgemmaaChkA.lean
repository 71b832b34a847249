import Derived.Test.YtaegkhdkhgemmaaApj
namespace Go.Proofs.Ytaegkhdkhgemmaa
open Go.RowKit Num

/-- A list of Nats in memory, as checkAll takes it. -/
def NatsAt (w : World) (g : Nat) (vs : List (Value × List Nat)) : Prop :=
  g < w.heap.size ∧ ∀ i p, vs[i]? = some p → w.cell? ⟨g, i, none⟩ = some p.1 ∧ ∃ A c, p.1 = .slice A p.2.length c ∧ p.2.length ≤ 1000000000000 ∧ Nums .u32 w A p.2
/-- The first fault. -/
def chkAll : List (Value × List Nat) → Int
  | [] => 0
  | p :: ps => if chk p.2 = 0 then chkAll ps else chk p.2

theorem chkAll_skip {vs : List (Value × List Nat)} {k : Nat} (h : ∀ i p, i < k → vs[i]? = some p → chk p.2 = 0) : chkAll vs = chkAll (vs.drop k) := by
  induction k generalizing vs with
  | zero => rfl
  | succ k ih =>
    cases vs with
    | nil => rfl
    | cons p ps =>
      have h0 := h 0 p (by omega) rfl
      rw [List.drop_succ_cons, chkAll, if_pos h0]
      exact ih fun i q hi hq => h (i + 1) q (by omega) (by simpa using hq)

def Fine (vs : List (Value × List Nat)) (k : Nat) : Prop := ∀ i p, i < k → vs[i]? = some p → chk p.2 = 0

set_option maxHeartbeats 1000000 in
theorem checkAll_any (g n c : Nat) (vs : List (Value × List Nat)) (w : World) (h : NatsAt w g vs) (hn : vs.length = n) (hb : n ≤ 1000) :
    Calls Try.prog 75 #[.slice (some ⟨g, 0, none⟩) n c] w fun e w' => e = .returned (.int .i64 (chkAll vs)) ∧ w = w' := by
  obtain ⟨r, hr⟩ : ∃ r, chkAll vs = r := ⟨_, rfl⟩
  rw [hr]
  have HR := Lib.hid hr
  have HN := Lib.hid hn
  have HH := Lib.hid h
  clear hr hn h
  go_enter Try.func75, Try.ntmps75
  go_wp2
  go_loop [8] (fun t => ∃ k : Nat, k ≤ n ∧ t = .int .i64 (k : Int) ∧ Fine vs k) (fun t => n - (intOf t).toNat)
  case atStart => exact ⟨0, Nat.zero_le _, rfl, fun i p h => absurd h (by omega)⟩
  case round =>
    obtain ⟨k, hk, rfl, hf⟩ := hrel
    by_cases hlt : k < n
    · obtain ⟨⟨v, xs⟩, hp⟩ : ∃ p, vs[k]? = some p := ⟨vs[k]'(by have := HN.out; omega), List.getElem?_eq_getElem _⟩
      obtain ⟨hcell, A, cc, hv, hlen, hnum⟩ := HH.out.2 k _ hp
      simp only at hv hcell hlen hnum
      subst hv
      have hchk := check_any A cc _ xs w hnum rfl hlen
      have HP := Lib.hid hp
      by_cases h0 : chk xs = 0
      · rw [h0] at hchk
        have HC := Lib.hid hchk
        have H0 := Lib.hid h0
        generalize xs.length = L at *
        clear hchk h0 hp hnum hlen
        go_wp2_with (go_at_call 31; refine HC.out.mono ?_; rintro e w1 ⟨rfl, rfl⟩)
        go_round
        case rel =>
          refine ⟨k + 1, by omega, by go_num, fun i p hi hp => ?_⟩
          by_cases e : i = k
          · rw [e, HP.out] at hp
            injection hp with hp
            rw [← hp]; exact H0.out
          · exact hf i p (by omega) hp
        case measure => simp [intOf]; omega
      · have hres : chk xs = r := by
          rw [← HR.out, chkAll_skip hf]
          have hd : vs.drop k = (Value.slice A xs.length cc, xs) :: vs.drop (k + 1) := by
            rw [List.drop_eq_getElem_cons (by have := HN.out; omega), (List.getElem?_eq_some_iff.1 HP.out).2]
          rw [hd, chkAll, if_neg h0]
        rw [hres] at hchk h0
        have hq : (r != 0) = true := by simp [h0]
        have HC := Lib.hid hchk
        have H0 := Lib.hid h0
        have HS := Lib.hid hres
        generalize xs.length = L at *
        clear hchk h0 hp hnum hlen hres
        go_wp2_with (go_at_call 31; refine HC.out.mono ?_; rintro e w1 ⟨rfl, rfl⟩)
        go_ret
        exact ⟨rfl, rfl⟩
    · have hkn : k = n := by omega
      subst hkn
      have hres : r = 0 := by
        rw [← HR.out, chkAll_skip hf, List.drop_of_length_le (by rw [HN.out]; exact Nat.le_refl _)]; rfl
      have HS := Lib.hid hres
      clear hres
      go_wp2
      go_ret
      exact ⟨ret_i HS.out.symm, rfl⟩
end Go.Proofs.Ytaegkhdkhgemmaa
