/- The graph of a table; firstStuck over a pairing. -/
import Derived.Test.YtncmfjncdhhjoaaWTig
namespace Go.Proofs.Ytncmfjncdhhjoaa
open Go.RowKit

set_option maxHeartbeats 2000000 in
set_option maxRecDepth 100000 in
theorem allowedC_any (B b n m cT i k : Nat) (A : Option Addr) (ls : List (List Int)) (w : World) (hc : w.cell? ⟨b, 0, none⟩ = some (.slice A n cT)) (G : Good n m ls) (T : Tab B w A ls) (hi : i < n) (hk : k < m) :
    Calls Try.prog 76 #[.int .i64 (i : Int), .int .i64 (k : Int), .pointer (some ⟨b, 0, none⟩)] w fun e w' => e = .returned (.bool (mayC (cst ls) i k)) ∧ Below w.heap.size w w' := by
  obtain ⟨g, off, Ai, ci, rfl, hg, hrow, hcell⟩ := G.at_ T hi
  obtain ⟨g2, off2, rfl, hg2, hcl⟩ := hcell (by omega)
  have hcc := hcl k hk
  have he : mayC (cst ls) i k = (cst ls i k != -1) := rfl
  rw [he]
  clear he G T hcl hcell
  generalize cst ls i k = x at *
  go_enter Try.func76, Try.ntmps76
  go_wp2
  go_ret
  exact ⟨rfl, Below.refl _ _⟩

set_option maxRecDepth 100000 in
theorem allowed_any (B n m cT : Nat) (A : Option Addr) (ls : List (List Int)) (w : World) (G : Good n m ls) (T : Tab B w A ls) (hB : B ≤ w.heap.size) (hn : 1 ≤ n) :
    Calls Try.prog 60 #[.slice A n cT] w fun e w' => ∃ b, e = .returned (.agg #[.int .i64 (m : Int), .func (.func 76) #[] #[.pointer (some ⟨b, 0, none⟩)]]) ∧
      w.heap.size ≤ b ∧ b < w'.heap.size ∧ w'.cell? ⟨b, 0, none⟩ = some (.slice A n cT) ∧ Below w.heap.size w w' := by
  obtain ⟨g, off, Ai, ci, rfl, hg, hrow, _⟩ := G.at_ T (i := 0) (by omega)
  have hrow' : w.cell? ⟨g, off, none⟩ = some (.slice Ai m ci) := hrow
  have hgw : g < w.heap.size := by omega
  have hb1 : Blk 87 ((w.alloc (.cells #[.slice (some ⟨g, off, none⟩) n cT] 22)).alloc (.cells #[.int .i64 (m : Int), .nilFunc] 87)) (w.heap.size + 1) [.int .i64 (m : Int), .nilFunc] := by
    have := Blk.new (w.alloc (.cells #[.slice (some ⟨g, off, none⟩) n cT] 22)) 87 [.int .i64 (m : Int), .nilFunc]
    simpa using this
  have z1 : ((w.alloc (.cells #[.slice (some ⟨g, off, none⟩) n cT] 22)).alloc (.cells #[.int .i64 (m : Int), .nilFunc] 87)).cell? ⟨w.heap.size + 1, 1, none⟩ = some .nilFunc := hb1.cell 1
  have z2 : ((w.alloc (.cells #[.slice (some ⟨g, off, none⟩) n cT] 22)).alloc (.cells #[.int .i64 (m : Int), .nilFunc] 87)).frozen? ⟨w.heap.size + 1, 1, none⟩ = false := hb1.frozen 1
  have k1 : ((w.alloc (.cells #[.slice (some ⟨g, off, none⟩) n cT] 22)).alloc (.cells #[.int .i64 0, .nilFunc] 87)).cell? ⟨g, off, none⟩ = some (.slice Ai m ci) := by
    have hl : Below w.heap.size w ((w.alloc (.cells #[.slice (some ⟨g, off, none⟩) n cT] 22)).alloc (.cells #[.int .i64 0, .nilFunc] 87)) := ((Below.refl _ _).alloc (Nat.le_refl _) _).alloc (by simp) _
    exact (hl.cell (p := ⟨g, off, none⟩) hgw).trans hrow'
  clear hb1 T G hrow
  go_enter Try.func60, Try.ntmps60
  go_wp2
  have hbF : Blk 87 ((w.alloc (.cells #[.slice (some ⟨g, off, none⟩) n cT] 22)).alloc (.cells #[.int .i64 (m : Int), .func (.func 76) #[] #[.pointer (some ⟨w.heap.size, 0, none⟩)]] 87)) (w.heap.size + 1) [.int .i64 (m : Int), .func (.func 76) #[] #[.pointer (some ⟨w.heap.size, 0, none⟩)]] := by
    have := Blk.new (w.alloc (.cells #[.slice (some ⟨g, off, none⟩) n cT] 22)) 87 [.int .i64 (m : Int), .func (.func 76) #[] #[.pointer (some ⟨w.heap.size, 0, none⟩)]]
    simpa using this
  have hb0 : Blk 22 ((w.alloc (.cells #[.slice (some ⟨g, off, none⟩) n cT] 22)).alloc (.cells #[.int .i64 (m : Int), .func (.func 76) #[] #[.pointer (some ⟨w.heap.size, 0, none⟩)]] 87)) w.heap.size [.slice (some ⟨g, off, none⟩) n cT] := (Blk.new w 22 [_]).alloc _
  exact bodyPost_ret (graph_results hbF rfl _ rfl) rfl ⟨w.heap.size, rfl, Nat.le_refl _, hb0.lt, hb0.cell 0, ((Below.refl _ _).alloc (Nat.le_refl _) _).alloc (by simp) _⟩

/-- A pairing of the first i rows. -/
structure PairSt (m : Nat) (may : Nat → Nat → Bool) (o : Nat → Int) (i : Nat) : Prop where
  inj : Inj m o
  rows : ∀ q : Nat, Has m o q ↔ q < i
  edge : ∀ j, j < m → ∀ q : Nat, o j = (q : Int) → may q j = true
  dom : ∀ j, j < m → -1 ≤ o j
theorem pair_start (m : Nat) (may : Nat → Nat → Bool) : PairSt m may (fun _ => -1) 0 :=
  ⟨fun i j _ _ _ h => by (try dsimp only at h); omega, fun q => ⟨fun ⟨j, _, e⟩ => by (try dsimp only at e); omega, fun h => by omega⟩, fun j _ q e => by (try dsimp only at e); omega, fun j _ => by (try dsimp only); omega⟩
theorem PairSt.add {m : Nat} {may : Nat → Nat → Bool} {o : Nat → Int} {i : Nat} (h : PairSt m may o i) {o' : Nat → Int} {s s' : Nat → Bool} (R : Room m may i 0 o s true o' s') : PairSt m may o' (i + 1) := by
  have hr : ¬ Has m o i := fun hh => by have := (h.rows i).1 hh; omega
  have A := R.found h.inj hr
  refine ⟨A.inj, fun q => ?_, fun j hj q e => ?_, R.dom h.dom⟩
  · rw [A.rows, h.rows]; omega
  · rcases A.edge j hj q e with h1 | h1
    · exact h.edge j hj q h1
    · exact h1

def StuckP (L : List (Nat × List Value)) (B : Nat) (w : World) (pp go gk gs n m : Nat) (fn : Value) (may : Nat → Nat → Bool) (e : Ending) (w' : World) : Prop :=
  Below B w w' ∧ ∃ (i : Nat) (o : Nat → Int) (s : Nat → Bool), e = .returned (.int .i64 (i : Int)) ∧ PaM L B w' pp go gk gs fn m o (fun _ => false) s ∧ PairSt m may o i ∧
    (i = n ∨ (i < n ∧ Room m may i 0 o (fun _ => false) false o s))

set_option maxHeartbeats 2000000 in
set_option maxRecDepth 100000 in
theorem firstStuckP_any (L : List (Nat × List Value)) (B pp go gk gs n m : Nat) (cap : Value) (may : Nat → Nat → Bool) (w0 : World) (hm : m ≤ 64) (hn : n ≤ 64)
    (hmay : ∀ W, Below B w0 W → ∀ row k, row < n → k < m → Calls Try.prog 76 #[.int .i64 ((row : Nat) : Int), .int .i64 ((k : Nat) : Int), cap] W fun e w' => e = .returned (.bool (may row k)) ∧ Below W.heap.size W w')
    (w : World) (hw : Below B w0 w) (hP : PaM L B w pp go gk gs (.func (.func 76) #[] #[cap]) m (fun _ => -1) (fun _ => false) (fun _ => false)) :
    Calls Try.prog 52 #[.int .i64 (n : Int), .func (.func 61) #[.pointer (some ⟨pp, 0, none⟩)] #[]] w (StuckP L B w pp go gk gs n m (.func (.func 76) #[] #[cap]) may) := by
  have hcall := fun (W : World) (i : Nat) (o : Nat → Int) (s : Nat → Bool) (hl : Below B w0 W) (hP : PaM L B W pp go gk gs (.func (.func 76) #[] #[cap]) m o (fun _ => false) s) (S : PairSt m may o i) (hi : i < n) =>
    findPairA L B pp go gk gs m cap (fun _ => false) may (fun q => q < n) w0 hm hmay i o s W hl hi S.dom (fun j hj q e => by
      have := (S.rows q).1 ⟨j, hj, e⟩; omega) hP
  have HC := Lib.hid hcall
  have HP := Lib.hid hP
  clear hcall hP hmay
  go_enter Try.func52, Try.ntmps52
  go_wp2_with (fail)
  go_loopw [5, 7] (fun _ t wr => ∃ (i : Nat) (o : Nat → Int) (s : Nat → Bool), i ≤ n ∧ t = .int .i64 (i : Int) ∧ PaM L B wr pp go gk gs (.func (.func 76) #[] #[cap]) m o (fun _ => false) s ∧ Hid (PairSt m may o i) ∧ Below B w wr) (fun _ t _ => n - (intOf t).toNat)
  case atStart => exact ⟨0, _, _, Nat.zero_le _, rfl, HP.out, Lib.hid (pair_start m may), Below.refl _ _⟩
  case round =>
    clear HP
    obtain ⟨i, o, s, hi, rfl, hP, HS, hl⟩ := hrel
    by_cases hlt : i < n
    · have HCL := Lib.hid (HC.out wr i o s (hw.trans hl) hP HS.out hlt)
      clear hP
      go_wp2_with (fail)
      refine (HCL.out).mono ?_
      rintro e w1 ⟨b, o', s', rfl, hroom, hP1, hl1⟩
      cases b with
      | true =>
        have HS2 := Lib.hid (HS.out.add hroom)
        clear hroom
        go_wp2
        go_roundw
        case rel => exact ⟨i + 1, o', s', by omega, by go_num, hP1, HS2, hl.trans hl1⟩
        case measure => simp [intOf]; omega
      | false =>
        have hoo := hroom.frame.2 rfl
        subst hoo
        have HRM := Lib.hid hroom
        clear hroom
        go_wp2
        go_ret
        exact ⟨hl.trans hl1, i, o', s', rfl, hP1, HS.out, .inr ⟨hlt, HRM.out⟩⟩
    · obtain rfl : i = n := by omega
      go_wp2
      go_ret
      exact ⟨hl, i, o, s, rfl, hP, HS.out, .inl rfl⟩

end Go.Proofs.Ytncmfjncdhhjoaa
