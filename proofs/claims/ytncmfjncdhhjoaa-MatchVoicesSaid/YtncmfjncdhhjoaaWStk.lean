/- firstStuck over the prices; the sum of all prices. -/
import Derived.Test.YtncmfjncdhhjoaaWFind
namespace Go.Proofs.Ytncmfjncdhhjoaa
open Go.RowKit

theorem fair_start {n m : Nat} {ls : List (List Int)} (G : Good n m ls) : Fair n m (cst ls) (fun _ => 0) (fun _ => 0) (fun _ => -1) 0 where
  cost := G.rng
  low := by intro i k hi hk hc; have := G.rng i k hi hk; (try dsimp only); omega
  neg := by intro k _; (try dsimp only); omega
  pos := by intro i _; (try dsimp only); omega
  dom := by intro k _; (try dsimp only); omega
  own := by intro k _ q hq; (try dsimp only at hq); omega
  free := by intro k _ _; rfl
  inj := by intro i j _ _ _ h; (try dsimp only at h); omega

def StuckPost (B : Nat) (w : World) (p gu gv go : Nat) (C : Value) (n m : Nat) (c : Nat → Nat → Int) (e : Ending) (w' : World) : Prop :=
  Below B w w' ∧ ((e = .returned (.int .i64 (n : Int)) ∧ ∃ u v o Bd, PrM B w' p gu gv go C n m u v o ∧ Fair n m c u v o Bd ∧ 0 ≤ Bd ∧ Bd ≤ 4096000000000 ∧ ∀ q : Nat, Has m o q ↔ q < n) ∨
    (∃ i : Nat, i < n ∧ e = .returned (.int .i64 (i : Int)) ∧ ∀ τ, ¬ Asg n m c τ))

set_option maxHeartbeats 2000000 in
set_option maxRecDepth 100000 in
theorem firstStuck_any (B p gu gv go n m cT : Nat) (A : Option Addr) (ls : List (List Int)) (w : World)
    (hP : PrM B w p gu gv go (.slice A n cT) n m (fun _ => 0) (fun _ => 0) (fun _ => -1)) (G : Good n m ls) (T : Tab B w A ls) (hBw : B ≤ w.heap.size)
    (h1 : 1 ≤ m) (hm : m ≤ 64) (hn : n ≤ 64) :
    Calls Try.prog 52 #[.int .i64 (n : Int), .func (.func 53) #[.pointer (some ⟨p, 0, none⟩)] #[]] w (StuckPost B w p gu gv go (.slice A n cT) n m (cst ls)) := by
  have hcall := fun (W : World) (i : Nat) (u v o : Nat → Int) (Bd : Int) (hl : Below B w W) (hW : B ≤ W.heap.size) (hP : PrM B W p gu gv go (.slice A n cT) n m u v o) (F : Fair n m (cst ls) u v o Bd) (hi : i < n) (hro : ¬ Has m o i) (hBd : 0 ≤ Bd ∧ Bd ≤ 4096000000000) =>
    findCol_any B p gu gv go n m i cT A ls u v o Bd W hP F G (T.keep hl) hW hi hro h1 hm hn hBd
  have HCALL := Lib.hid hcall
  have hF0 := Lib.hid (fair_start G)
  have HP := Lib.hid hP
  clear hcall hP G T
  go_enter Try.func52, Try.ntmps52
  go_wp2_with (fail)
  go_loopw [5, 7] (fun _ t wr => ∃ (i : Nat) (u v o : Nat → Int), i ≤ n ∧ t = .int .i64 (i : Int) ∧ PrM B wr p gu gv go (.slice A n cT) n m u v o ∧ Hid (Fair n m (cst ls) u v o ((i : Int) * 64000000000)) ∧ Hid (∀ q : Nat, Has m o q ↔ q < i) ∧ Below B w wr) (fun _ t _ => n - (intOf t).toNat)
  case atStart =>
    refine ⟨0, _, _, _, Nat.zero_le _, rfl, HP.out, Lib.hid ?_, Lib.hid ?_, Below.refl _ _⟩
    · have := hF0.out; simpa using this
    · intro q
      constructor
      · rintro ⟨j, _, e⟩; dsimp only at e; omega
      · intro h; omega
  case round =>
    clear HP hF0
    obtain ⟨i, u, v, o, hi, rfl, hP, HF, HH, hl⟩ := hrel
    by_cases hlt : i < n
    · have hro : ¬ Has m o i := fun h => by have := (HH.out i).1 h; omega
      have HCL := Lib.hid (HCALL.out wr i u v o _ hl (by have := hl.size; omega) hP HF.out hlt hro (by omega))
      clear hP hro
      go_wp2_with (fail)
      refine (HCL.out).mono ?_
      rintro e w1 ⟨hl1, ⟨rfl, u', v', o', hP', hF', hH'⟩ | ⟨rfl, hno⟩⟩
      · have HF2 : Hid (Fair n m (cst ls) u' v' o' (((i + 1 : Nat) : Int) * 64000000000)) := Lib.hid (by
          have e : (((i + 1 : Nat) : Int) * 64000000000) = (i : Int) * 64000000000 + 64000000000 := by omega
          rw [e]; exact hF')
        have HH2 : Hid (∀ q : Nat, Has m o' q ↔ q < i + 1) := Lib.hid (fun q => by rw [hH', HH.out]; omega)
        clear hF' hH'
        go_wp2
        go_roundw
        case rel => exact ⟨i + 1, u', v', o', by omega, by go_num, hP', HF2, HH2, hl.trans hl1⟩
        case measure => simp [intOf]; omega
      · have HNO := Lib.hid hno
        clear hno
        go_wp2
        go_ret
        exact ⟨hl.trans hl1, .inr ⟨i, hlt, rfl, HNO.out⟩⟩
    · obtain rfl : i = n := by omega
      go_wp2
      go_ret
      exact ⟨hl, .inl ⟨rfl, u, v, o, _, hP, HF.out, by omega, by omega, HH.out⟩⟩

theorem sumN_bound {f : Nat → Int} {K : Int} {n : Nat} (h : ∀ i, i < n → -K ≤ f i ∧ f i ≤ K) : -((n : Int) * K) ≤ sumN f n ∧ sumN f n ≤ (n : Int) * K := by
  induction n with
  | zero => simp [sumN]
  | succ n ih =>
    have h1 := ih fun i hi => h i (by omega)
    have h2 := h n (by omega)
    have e : ((n + 1 : Nat) : Int) * K = (n : Int) * K + K := by rw [show ((n + 1 : Nat) : Int) = (n : Int) + 1 by omega, Int.add_mul, Int.one_mul]
    simp only [sumN]
    rw [e]
    omega

set_option maxHeartbeats 2000000 in
set_option maxRecDepth 100000 in
theorem sum_any (B p gu gv go n m : Nat) (C : Value) (u v o : Nat → Int) (w : World) (hP : PrM B w p gu gv go C n m u v o) (hm : m ≤ 64) (hn : n ≤ 64)
    (hu : ∀ i, i < n → -10000000000000 ≤ u i ∧ u i ≤ 10000000000000) (hv : ∀ k, k < m → -10000000000000 ≤ v k ∧ v k ≤ 10000000000000) :
    Calls Try.prog 55 #[.pointer (some ⟨p, 0, none⟩)] w fun e w' => e = .returned (.int .i64 (sumN u n + sumN v m)) ∧ w = w' := by
  have p1 : w.cell? ⟨p, 1, none⟩ = some (.slice (some ⟨gu, 0, none⟩) n n) := hP.box.cell 1
  have p2 : w.cell? ⟨p, 2, none⟩ = some (.slice (some ⟨gv, 0, none⟩) m m) := hP.box.cell 2
  have HU := Lib.hid hP.rows
  have HV := Lib.hid hP.cols
  have hbu : ∀ i, i ≤ n → -1000000000000000 ≤ sumN u i ∧ sumN u i ≤ 1000000000000000 := fun i hi => by
    have := sumN_bound (f := u) (n := i) fun j hj => hu j (by omega)
    omega
  have hbv : ∀ i, i ≤ m → -1000000000000000 ≤ sumN v i ∧ sumN v i ≤ 1000000000000000 := fun i hi => by
    have := sumN_bound (f := v) (n := i) fun j hj => hv j (by omega)
    omega
  have HBU := Lib.hid hbu
  have HBV := Lib.hid hbv
  have HUU := Lib.hid hu
  have HVV := Lib.hid hv
  clear hP hbu hbv hu hv
  go_enter Try.func55, Try.ntmps55
  go_wp2_with (fail)
  go_loop [3, 5, 13] (fun s _ t => ∃ i : Nat, i ≤ n ∧ t = .int .i64 (i : Int) ∧ s = .int .i64 (sumN u i)) (fun _ _ t => n - (intOf t).toNat)
  case atStart => exact ⟨0, Nat.zero_le _, rfl, rfl⟩
  case round =>
    obtain ⟨i, hi, rfl, rfl⟩ := hrel
    by_cases hlt : i < n
    · have cu := HU.out.int hlt
      have b1 := HBU.out i hi
      have b2 := HUU.out i hlt
      have hnext : sumN u (i + 1) = sumN u i + u i := rfl
      have HN := Lib.hid hnext
      clear hnext
      generalize sumN u i = s at *
      generalize u i = x at *
      have w1 : IntKind.i64.wrap (s + x) = s + x := wrapI (by omega) (by omega)
      go_wp2
      go_round
      case rel => exact ⟨i + 1, by omega, by go_num, by rw [HN.out]⟩
      case measure => simp [intOf]; omega
    · obtain rfl : i = n := by omega
      have b3 := HBU.out i hi
      clear HU HBU HUU p1
      generalize hs : sumN u i = s at *
      have HS := Lib.hid hs
      clear hs
      go_wp2_with (fail)
      go_loop [3, 7, 26] (fun r _ t => ∃ k : Nat, k ≤ m ∧ t = .int .i64 (k : Int) ∧ r = .int .i64 (s + sumN v k)) (fun _ _ t => m - (intOf t).toNat)
      case atStart => exact ⟨0, Nat.zero_le _, rfl, by simp [sumN]⟩
      case round =>
        obtain ⟨k, hk, rfl, rfl⟩ := hrel
        by_cases hlt : k < m
        · have cv := HV.out.int hlt
          have b1 := HBV.out k hk
          have b2 := HVV.out k hlt
          have hnext : s + sumN v (k + 1) = s + sumN v k + v k := by simp only [sumN]; omega
          have HN := Lib.hid hnext
          clear hnext
          generalize sumN v k = y at *
          generalize v k = x at *
          have w1 : IntKind.i64.wrap (s + y + x) = s + y + x := wrapI (by omega) (by omega)
          go_wp2
          go_round
          case rel => exact ⟨k + 1, by omega, by go_num, by rw [HN.out]⟩
          case measure => simp [intOf]; omega
        · obtain rfl : k = m := by omega
          go_wp2
          go_ret
          exact ⟨by rw [HS.out]; rfl, rfl⟩

end Go.Proofs.Ytncmfjncdhhjoaa
