/- Without: the least cost of the other rows. -/
import Derived.Test.YtncmfjncdhhjoaaWDel
import Derived.Test.YtncmfjncdhhjoaaMWo
import Derived.Test.YtncmfjncdhhjoaaWBest
namespace Go.Proofs.Ytncmfjncdhhjoaa
open Go.RowKit

/-- What Without returns. -/
def WoPost (w : World) (ls : List (List Int)) (row : Int) (e : Ending) (w' : World) : Prop :=
  Below w.heap.size w w' ∧ (((chkT ls = false ∨ row < 0 ∨ (ls.length : Int) ≤ row) ∧ e = .returned (.tuple #[.int .i64 0, .int .i64 1])) ∨
    (∃ n m r : Nat, chkT ls = true ∧ ls.length = n + 1 ∧ row = (r : Int) ∧ r ≤ n ∧ Good (n + 1) m ls ∧ (n + 1 ≤ m ∧ m ≤ 64) ∧
      ((∃ s, WoOk n m (cst ls) r s ∧ e = .returned (.tuple #[.int .i64 s, .int .i64 0])) ∨ ((∀ τ, ¬ Asg n m (fun i k => cst ls (sk r i) k) τ) ∧ e = .returned (.tuple #[.int .i64 0, .int .i64 6])))))
theorem asg_cst {n m r : Nat} {ls : List (List Int)} {τ : Nat → Nat} (G : Good (n + 1) m ls) (hr : r ≤ n) : Asg n m (cst (ls.eraseIdx r)) τ ↔ Asg n m (fun i k => cst ls (sk r i) k) τ :=
  ⟨fun h => asg_same h fun i k hi _ => ((G.erase hr).2 i k hi).symm, fun h => asg_same h fun i k hi _ => (G.erase hr).2 i k hi⟩
theorem cost_cst {n m r : Nat} {ls : List (List Int)} {τ : Nat → Nat} (G : Good (n + 1) m ls) (hr : r ≤ n) : costN (fun i k => cst ls (sk r i) k) τ n = costN (cst (ls.eraseIdx r)) τ n :=
  sumN_congr fun i hi => ((G.erase hr).2 i _ hi).symm

set_option maxHeartbeats 8000000 in
set_option maxRecDepth 100000 in
theorem without_any (A : Option Addr) (c L : Nat) (ls : List (List Int)) (row : Int) (w : World) (T : Tab w.heap.size w A ls) (hL : L = ls.length) :
    Calls Try.prog 40 #[.slice A L c, .int .i64 row] w (WoPost w ls row) := by
  have hck := check_any w.heap.size A c L ls w T hL
  cases hchk : chkT ls with
  | false =>
    have hce : ckE ls = 1 := by unfold ckE; rw [hchk]; rfl
    rw [hce] at hck
    have HCK := Lib.hid hck
    have hf : WoPost w ls row (.returned (.tuple #[.int .i64 0, .int .i64 1])) w := ⟨Below.refl _ _, .inl ⟨.inl hchk, rfl⟩⟩
    have HF := Lib.hid hf
    clear hck hL T hce hf hchk
    go_enter Try.func40, Try.ntmps40
    go_wp2_with (go_at_call 25; refine (HCK.out).mono ?_; rintro e w1 ⟨rfl, rfl⟩)
    go_ret2
    exact HF.out
  | true =>
    have hce : ckE ls = 0 := by unfold ckE; rw [hchk]; rfl
    rw [hce] at hck
    obtain ⟨N, m, hn, hm, h1, h2, h3, G⟩ := chkT_good hchk
    obtain ⟨n, rfl⟩ : ∃ n, N = n + 1 := ⟨N - 1, by omega⟩
    have hLn : L = n + 1 := by omega
    have hwr : IntKind.i64.wrap ((L : Int) - 1) = (L : Int) - 1 := wrapI (by omega) (by omega)
    have hwi := fun W => within_any row 0 ((L : Int) - 1) W
    cases hin : inB row 0 ((L : Int) - 1) with
    | false =>
      rw [hin] at hwi
      have hno := inB_f hin
      have HCK := Lib.hid hck
      have HWI := Lib.hid hwi
      have hf : WoPost w ls row (.returned (.tuple #[.int .i64 0, .int .i64 1])) w := ⟨Below.refl _ _, .inl ⟨.inr (by omega), rfl⟩⟩
      have HF := Lib.hid hf
      have HLN := Lib.hid hLn
      clear hck hL T hce hf hchk hwi hin hno hLn hn hm G
      go_enter Try.func40, Try.ntmps40
      go_wp2_with (first
        | (go_at_call 25; refine (HCK.out).mono ?_; rintro e w1 ⟨rfl, rfl⟩)
        | (go_at_call 50; refine (HWI.out _).mono ?_; rintro e w1 ⟨rfl, rfl⟩))
      go_ret2
      exact HF.out
    | true =>
      rw [hin] at hwi
      have hyes := inB_t hin
      obtain ⟨r, rfl⟩ : ∃ r : Nat, row = (r : Int) := ⟨row.toNat, by omega⟩
      have hr : r ≤ n := by omega
      have hwr1 : IntKind.i64.wrap ((r : Int) + 1) = ((r + 1 : Nat) : Int) := by rw [wrapI (by omega) (by omega)]; omega
      obtain ⟨rows, hrl, hVB, hrow⟩ := id T
      obtain ⟨g0, off0, eA, hg0, hcells⟩ := hVB (by omega)
      obtain ⟨g', off', A0, c0, eA', -, hc0, -⟩ := G.at_ T (i := 0) (by omega)
      subst eA
      injection eA' with eA'
      injection eA' with e1 e2
      subst e1 e2
      have hc0' : w.cell? ⟨g0, off0, none⟩ = some (.slice A0 m c0) := hc0
      have hone : ∀ v ∈ rows, v.oneCell' = true := fun v hv => by
        obtain ⟨i, hi⟩ := List.getElem?_of_mem hv
        have hil := (List.getElem?_eq_some_iff.1 hi).1
        obtain ⟨Ai, ci, e, _⟩ := hrow i (ls[i]'(by omega)) (List.getElem?_eq_getElem _)
        rw [hi] at e
        injection e with e
        subst e; rfl
      have hclo := cloneR_any ⟨g0, off0, none⟩ c L rows w (hVB.vals (Nat.le_refl _)) (by omega) hone (by omega)
      have htab : ∀ (W : World) (g cap : Nat), Below w.heap.size w W → Hd 23 W g cap (rows.eraseIdx r) → Tab W.heap.size W (some ⟨g, 0, none⟩) (ls.eraseIdx r) := fun W g cap hW hH => by
        refine ⟨rows.eraseIdx r, by rw [List.length_eraseIdx, List.length_eraseIdx, hrl], VB.of_vals hH.vals, fun i l hi => ?_⟩
        rw [List.getElem?_eraseIdx] at hi ⊢
        by_cases hir : i < r
        · rw [if_pos hir] at hi ⊢
          obtain ⟨Ai, ci, e, hv⟩ := hrow _ l hi
          exact ⟨Ai, ci, e, (hv.keep hW).mono hW.size⟩
        · rw [if_neg hir] at hi ⊢
          obtain ⟨Ai, ci, e, hv⟩ := hrow _ l hi
          exact ⟨Ai, ci, e, (hv.keep hW).mono hW.size⟩
      have hrl1 : rows.length = n + 1 := by omega
      have G2 := (G.erase hr).1
      have HCLO := Lib.hid hclo
      have HTAB := Lib.hid htab
      have HONE := Lib.hid hone
      have HRL := Lib.hid hrl1
      have HG := Lib.hid G
      have HG2 := Lib.hid G2
      have HCK := Lib.hid hck
      have HWI := Lib.hid hwi
      have HCH := Lib.hid hchk
      have HLS := Lib.hid hn
      have HLN := Lib.hid hLn
      have hm64 : m ≤ 64 := h3
      have hn64 : n ≤ 64 := by omega
      have hm1 : 1 ≤ m := by omega
      have hdim : Hid (n + 1 ≤ m ∧ m ≤ 64) := Lib.hid ⟨h2, h3⟩
      have HC0 := Lib.hid hc0'
      have hL0 : 0 < L := by omega
      have hL0I : (0 : Int) < (L : Int) := by omega
      obtain ⟨r1, hr1⟩ : ∃ r1, r1 = r + 1 := ⟨_, rfl⟩
      rw [← hr1] at hwr1
      have HR1 := Lib.hid hr1
      clear hclo htab hone hrl hrl1 hrow hcells hVB G G2 hck hwi hchk hn hm T hL hin hyes hce hLn h1 h2 h3 hc0 hr1
      go_enter Try.func40, Try.ntmps40
      go_wp2_with (first
        | (go_at_call 25; refine (HCK.out).mono ?_; rintro e w1 ⟨rfl, rfl⟩)
        | (go_at_call 50; refine (HWI.out _).mono ?_; rintro e w1 ⟨rfl, rfl⟩))
      refine (HCLO.out).mono ?_
      rintro e w1 ⟨g, cap, rfl, hg, hcm, hH, hl1⟩
      have hdel := delete_any g cap n r L r1 rows w1 HLN.out HR1.out hH HRL.out hr HONE.out hn64 hcm
      have HDEL := Lib.hid hdel
      clear hdel hH HCLO
      go_wp2_with (fail)
      refine (HDEL.out).mono ?_
      rintro e w2 ⟨rfl, hH2, hl2⟩
      have hl12 : Below w.heap.size w w2 := hl1.trans (hl2.mono hg)
      have hT2 := HTAB.out w2 g cap hl12 hH2
      have hc2 : w2.cell? ⟨g0, off0, none⟩ = some (.slice A0 m c0) := (hl12.cell (p := ⟨g0, off0, none⟩) hg0).trans HC0.out
      have hnp := newPricing_any (some ⟨g, 0, none⟩) cap n m hm1 hm64 hn64 w2
      have HNP := Lib.hid hnp
      have HT2 := Lib.hid hT2
      clear hnp hT2 hH2 HDEL hl2 hl1
      go_wp2_with (fail)
      refine (HNP.out).mono ?_
      rintro e w3 ⟨p, gu, gv, go, rfl, hP, hl3⟩
      have hl13 := hl12.trans (hl3.mono hl12.size)
      have hfs := firstStuck_any w2.heap.size p gu gv go n m cap (some ⟨g, 0, none⟩) (ls.eraseIdx r) w3 hP HG2.out (HT2.out.keep hl3) hl3.size hm1 hm64 hn64
      have HFS := Lib.hid hfs
      clear hfs hP HNP
      go_wp2_with (fail)
      refine (HFS.out).mono ?_
      rintro e w4 ⟨hl4, ⟨rfl, u, v, o, Bd, hP4, hF4, hbd1, hbd2, hH4⟩ | ⟨i, hi, rfl, hno⟩⟩
      · have hl14 := hl13.trans (hl4.mono (Nat.le_trans hl12.size (Nat.le_refl _)))
        have hbu : ∀ i, i < n → -10000000000000 ≤ u i ∧ u i ≤ 10000000000000 := fun i hi => by have := hF4.pos i hi; omega
        have hbv : ∀ k, k < m → -10000000000000 ≤ v k ∧ v k ≤ 10000000000000 := fun k hk => by have := hF4.neg k hk; omega
        have hsu := sum_any w2.heap.size p gu gv go n m (.slice (some ⟨g, 0, none⟩) n cap) u v o w4 hP4 hm64 hn64 hbu hbv
        obtain ⟨τ, t1, t2, t3⟩ := fair_cost hF4 fun q hq => (hH4 q).2 hq
        have hres : WoPost w ls (r : Int) (.returned (.tuple #[.int .i64 (sumN u n + sumN v m), .int .i64 0])) w4 := by
          refine ⟨hl14, .inr ⟨n, m, r, HCH.out, HLS.out, rfl, hr, HG.out, hdim.out, .inl ⟨_, ⟨τ, (asg_cst HG.out hr).1 t1, by rw [cost_cst HG.out hr]; exact t2, fun σ hσ => ?_⟩, rfl⟩⟩⟩
          rw [cost_cst HG.out hr, ← t2]
          exact t3 σ ((asg_cst HG.out hr).2 hσ)
        have HRES := Lib.hid hres
        have HSU := Lib.hid hsu
        have hd : decide ((n : Int) < (n : Int)) = false := by simp
        clear hbu hbv hsu t1 t2 t3 hres hF4 hH4 hP4 HFS
        go_wp2_with (fail)
        refine (HSU.out).mono ?_
        rintro e w5 ⟨rfl, rfl⟩
        go_wp2_with (fail)
        go_ret2
        exact HRES.out
      · have hl14 := hl13.trans (hl4.mono (Nat.le_trans hl12.size (Nat.le_refl _)))
        have hd : decide ((i : Int) < (n : Int)) = true := by simp; omega
        have hres : WoPost w ls (r : Int) (.returned (.tuple #[.int .i64 0, .int .i64 6])) w4 :=
          ⟨hl14, .inr ⟨n, m, r, HCH.out, HLS.out, rfl, hr, HG.out, hdim.out, .inr ⟨fun τ hτ => hno τ ((asg_cst HG.out hr).2 hτ), rfl⟩⟩⟩
        have HRES := Lib.hid hres
        clear hres hno HFS
        go_wp2_with (fail)
        go_ret2
        exact HRES.out
end Go.Proofs.Ytncmfjncdhhjoaa
