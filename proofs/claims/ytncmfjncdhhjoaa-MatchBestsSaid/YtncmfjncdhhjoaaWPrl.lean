/- The law's proves and empty. -/
import Derived.Test.YtncmfjncdhhjoaaWPrf
namespace Go.Proofs.Ytncmfjncdhhjoaa
open Go.RowKit

set_option maxHeartbeats 2000000 in
set_option maxRecDepth 100000 in
theorem empty_ok (w : World) : Calls Try.prog 29 #[.agg #[.slice none 0 0, .slice none 0 0, .slice none 0 0, .int .i64 0]] w fun e w' => Below w.heap.size w w' ∧ e = .returned (.bool true) := by
  have hl0 := below_new w (.cells #[.slice none 0 0, .slice none 0 0, .slice none 0 0, .int .i64 0] 35)
  go_enter Try.func29, Try.ntmps29
  go_wp2_with (fail)
  go_ret
  exact ⟨hl0, rfl⟩

set_option maxHeartbeats 8000000 in
set_option maxRecDepth 100000 in
theorem lproves_ok (B cA c0 c1 c2 n m : Nat) (A A0 A1 A2 : Option Addr) (ls : List (List Int)) (l us vs : List Int) (w : World) (T : Tab B w A ls) (hB : B ≤ w.heap.size) (h0 : Ints w A0 l) (h1 : Ints w A1 us) (h2 : Ints w A2 vs)
    (G : Good n m ls) (d1 : 1 ≤ n) (d2 : n ≤ m) (d3 : m ≤ 64) (hL1 : n = us.length) (hL2 : m = vs.length) (hI : IsAsg n m (cst ls) l) (hC : ColsP m l vs) (hR : RowsP n m (cst ls) l us vs) :
    Calls Try.prog 32 #[.slice A n cA, .agg #[.slice A0 n c0, .slice A1 n c1, .slice A2 m c2, .int .i64 (costN (cst ls) (colOf l) n)]] w fun e w' => Below w.heap.size w w' ∧ e = .returned (.bool true) := by
  obtain ⟨O, hO⟩ : ∃ O, O = Obj.cells #[.slice A0 n c0, .slice A1 n c1, .slice A2 m c2, .int .i64 (costN (cst ls) (colOf l) n)] 35 := ⟨_, rfl⟩
  have hbx : Blk 35 (w.alloc O) w.heap.size [.slice A0 n c0, .slice A1 n c1, .slice A2 m c2, .int .i64 (costN (cst ls) (colOf l) n)] := by rw [hO]; exact Blk.new w 35 _
  have hlW := below_new w O
  have T' := T.keep (hlW.mono hB)
  have hl0 : n = l.length := hI.len.symm
  have h0' := Vals.keep h0 hlW
  have h1' := Vals.keep h1 hlW
  have h2' := Vals.keep h2 hlW
  have hto := (refTotal_any B n m cA c0 n A A0 ls l (w.alloc O) T' G h0' hl0 d1 d2 d3 (by omega)).mono (fun e w' h => (⟨h.1, by
    rcases h.2 with ⟨_, h⟩ | ⟨h, _⟩
    · exact h
    · exact absurd hI h⟩ : Below (w.alloc O).heap.size (w.alloc O) w' ∧ e = .returned (.tuple #[.int .i64 (costN (cst ls) (colOf l) n), .bool true])))
  have hrp : ∀ W, Below (w.alloc O).heap.size (w.alloc O) W → Calls Try.prog 34 #[.slice A n cA, .agg #[.slice A0 n c0, .slice A1 n c1, .slice A2 m c2, .int .i64 (costN (cst ls) (colOf l) n)]] W fun e w' => Below W.heap.size W w' ∧ e = .returned (.bool true) := fun W hW =>
    rproves_ok B cA c0 c1 c2 n m A A0 A1 A2 ls l us vs W (T'.keep (hW.mono (Nat.le_trans hB hlW.size))) (Nat.le_trans hB (Nat.le_trans hlW.size hW.size)) (Vals.keep h0' hW) (Vals.keep h1' hW) (Vals.keep h2' hW) G d1 d2 d3 hL1 hL2 hI hC hR
  obtain ⟨g, off, Ai, ci, rfl, hg, hr0, _⟩ := G.at_ T' (i := 0) (by omega)
  have hr0' : (w.alloc O).cell? ⟨g, off, none⟩ = some (.slice Ai m ci) := hr0
  generalize costN (cst ls) (colOf l) n = cost at *
  have hKP : ∀ W, Below (w.alloc O).heap.size (w.alloc O) W → W.cell? ⟨w.heap.size, 0, none⟩ = some (.slice A0 n c0) ∧ W.cell? ⟨w.heap.size, 1, none⟩ = some (.slice A1 n c1) ∧ W.cell? ⟨w.heap.size, 2, none⟩ = some (.slice A2 m c2) ∧ W.cell? ⟨w.heap.size, 3, none⟩ = some (.int .i64 cost) ∧ W.cell? ⟨g, off, none⟩ = some (.slice Ai m ci) := fun W h =>
    ⟨(hbx.keep h).cell 0, (hbx.keep h).cell 1, (hbx.keep h).cell 2, (hbx.keep h).cell 3, (h.cell (p := ⟨g, off, none⟩) (Nat.lt_of_lt_of_le hg (Nat.le_trans hB hlW.size))).trans hr0'⟩
  have x0 : (w.alloc O).cell? ⟨w.heap.size, 0, none⟩ = some (.slice A0 n c0) := (hKP _ (Below.refl _ _)).1
  have HTO := Lib.hid hto
  have HRP := Lib.hid hrp
  have HKP := Lib.hid hKP
  have hnI : (0 : Int) < (n : Int) := by omega
  have hnN : 0 < n := by omega
  clear hbx h0 h1 h2 T T' hL1 hL2 hr0 hr0' hto hrp G hKP h0' h1' h2' hl0 hI hC hR
  subst hO
  go_enter Try.func32, Try.ntmps32
  go_wp2_with (go_at_call 27; refine (HTO.out).mono ?_; rintro e w5 ⟨hl5, rfl⟩
               have hl5' := hl5.drew
               obtain ⟨k0, k1, k2, k3, k4⟩ := HKP.out w5 hl5)
  generalize w.alloc (Obj.cells #[.slice A0 n c0, .slice A1 n c1, .slice A2 m c2, .int .i64 cost] 35) = W at *
  go_region_held3 (fun w' => w'.cell? ⟨w.heap.size, 0, none⟩ = some (.slice A0 n c0) ∧ w'.cell? ⟨w.heap.size, 1, none⟩ = some (.slice A1 n c1) ∧ w'.cell? ⟨w.heap.size, 2, none⟩ = some (.slice A2 m c2) ∧ w'.cell? ⟨w.heap.size, 3, none⟩ = some (.int .i64 cost) ∧ w'.cell? ⟨g, off, none⟩ = some (.slice Ai m ci))
    (first | exact ⟨k0, k1, k2, k3, k4⟩ | exact ⟨j0, j1, j2, j3, j4⟩ | go_keep)
    ((go_at_call 34; (with_reducible refine (HRP.out _ hl5').mono ?_); rintro e w7 ⟨hl7, rfl⟩
      have hW7 := hl5'.trans (hl7.mono hl5'.size)
      obtain ⟨j0, j1, j2, j3, j4⟩ := HKP.out w7 hW7))
  go_wp2_with (fail)
  go_ret
  exact ⟨hlW.trans (hW7.mono hlW.size), rfl⟩

end Go.Proofs.Ytncmfjncdhhjoaa
