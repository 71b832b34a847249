/- The program's Proves, of a matching that is proved. -/
import Derived.Test.YtncmfjncdhhjoaaWPrr
import Derived.Deep.RegionHeld3
namespace Go.Proofs.Ytncmfjncdhhjoaa
open Go.RowKit

set_option maxHeartbeats 8000000 in
set_option maxRecDepth 100000 in
theorem mproves_ok (cA c0 c1 c2 n m : Nat) (A A0 A1 A2 : Option Addr) (ls : List (List Int)) (l us vs : List Int) (w : World) (T : Tab w.heap.size w A ls) (h0 : Ints w A0 l) (h1 : Ints w A1 us) (h2 : Ints w A2 vs)
    (G : Good n m ls) (d1 : 1 ≤ n) (d2 : n ≤ m) (d3 : m ≤ 64) (hchk : chkT ls = true) (hL1 : n = us.length) (hL2 : m = vs.length) (hI : IsAsg n m (cst ls) l) (hC : ColsP m l vs) (hR : RowsP n m (cst ls) l us vs) :
    Calls Try.prog 33 #[.slice A n cA, .agg #[.slice A0 n c0, .slice A1 n c1, .slice A2 m c2, .int .i64 (costN (cst ls) (colOf l) n)]] w fun e w' => Below w.heap.size w w' ∧ e = .returned (.tuple #[.bool true, .int .i64 0]) := by
  obtain ⟨O, hO⟩ : ∃ O, O = Obj.cells #[.slice A0 n c0, .slice A1 n c1, .slice A2 m c2, .int .i64 (costN (cst ls) (colOf l) n)] 35 := ⟨_, rfl⟩
  have hbx : Blk 35 (w.alloc O) w.heap.size [.slice A0 n c0, .slice A1 n c1, .slice A2 m c2, .int .i64 (costN (cst ls) (colOf l) n)] := by rw [hO]; exact Blk.new w 35 _
  have hlW := below_new w O
  have T' := T.keep hlW
  have hck := check_any w.heap.size A cA n ls (w.alloc O) T' G.rows.symm
  have hce : ckE ls = 0 := by unfold ckE; rw [hchk]; rfl
  rw [hce] at hck
  have hl0 : n = l.length := hI.len.symm
  have h0' := Vals.keep h0 hlW
  have h1' := Vals.keep h1 hlW
  have h2' := Vals.keep h2 hlW
  have hin : ∀ a, a < n → 0 ≤ l.getD a 0 ∧ l.getD a 0 < (m : Int) := fun a ha => by
    have p1 := hI.pos a ha
    have p2 := (hI.asg.ok a ha).1
    unfold colOf at p2
    exact ⟨p1, by omega⟩
  have hv : ∀ k, k < m → -2000000000000000000 ≤ vs.getD k 0 ∧ vs.getD k 0 ≤ 0 := fun k hk => inB_t (hC k hk).1
  have hia : ∀ W, Below (w.alloc O).heap.size (w.alloc O) W → Calls Try.prog 48 #[.slice A n cA, .slice A0 n c0] W fun e w' => Below W.heap.size W w' ∧ e = .returned (.bool true) := fun W hW =>
    (isAsg_any w.heap.size n m cA c0 n A A0 ls l W (T'.keep (hW.mono hlW.size)) (Nat.le_trans hlW.size hW.size) G (Vals.keep h0' hW) hl0 d1 d2 d3).mono fun e w' h => ⟨h.1, by
      rcases h.2 with ⟨_, h⟩ | ⟨h, _⟩
      · exact h
      · exact absurd hI h⟩
  have hto : ∀ W, Below (w.alloc O).heap.size (w.alloc O) W → Calls Try.prog 49 #[.slice A n cA, .slice A0 n c0] W fun e w' => e = .returned (.int .i64 (costN (cst ls) (colOf l) n)) ∧ W = w' := fun W hW =>
    total_any w.heap.size n m cA c0 n A A0 ls l W (T'.keep (hW.mono hlW.size)) G (Vals.keep h0' hW) hl0 d1 d2 d3 hI
  have hco : ∀ W, Below (w.alloc O).heap.size (w.alloc O) W → Calls Try.prog 57 #[.agg #[.slice A0 n c0, .slice A1 n c1, .slice A2 m c2, .int .i64 (costN (cst ls) (colOf l) n)]] W fun e w' => Below W.heap.size W w' ∧ e = .returned (.bool true) := fun W hW =>
    (cols_any m c0 c1 c2 n n A0 A1 A2 l vs _ W (Vals.keep h0' hW) (Vals.keep h2' hW) hl0 hL2 d3 (by omega) hin).mono fun e w' h => ⟨h.1, by
      rcases h.2 with ⟨_, h⟩ | ⟨h, _⟩
      · exact h
      · exact absurd hC h⟩
  have hro : ∀ W, Below (w.alloc O).heap.size (w.alloc O) W → Calls Try.prog 58 #[.slice A n cA, .agg #[.slice A0 n c0, .slice A1 n c1, .slice A2 m c2, .int .i64 (costN (cst ls) (colOf l) n)]] W fun e w' => Below W.heap.size W w' ∧ e = .returned (.bool true) := fun W hW =>
    (rows_any w.heap.size n m cA c0 c1 c2 A A0 A1 A2 ls l us vs _ W (T'.keep (hW.mono hlW.size)) (Nat.le_trans hlW.size hW.size) G (Vals.keep h0' hW) (Vals.keep h1' hW) (Vals.keep h2' hW) hL1 hL2 hl0 d1 d2 d3 hin hv).mono fun e w' h => ⟨h.1, by
      rcases h.2 with ⟨_, h⟩ | ⟨h, _⟩
      · exact h
      · exact absurd hR h⟩
  obtain ⟨g, off, Ai, ci, rfl, hg, hr0, _⟩ := G.at_ T' (i := 0) (by omega)
  have hr0' : (w.alloc O).cell? ⟨g, off, none⟩ = some (.slice Ai m ci) := hr0
  generalize costN (cst ls) (colOf l) n = cost at *
  have hKP : ∀ W, Below (w.alloc O).heap.size (w.alloc O) W → W.cell? ⟨w.heap.size, 0, none⟩ = some (.slice A0 n c0) ∧ W.cell? ⟨w.heap.size, 1, none⟩ = some (.slice A1 n c1) ∧ W.cell? ⟨w.heap.size, 2, none⟩ = some (.slice A2 m c2) ∧ W.cell? ⟨w.heap.size, 3, none⟩ = some (.int .i64 cost) ∧ W.cell? ⟨g, off, none⟩ = some (.slice Ai m ci) := fun W h =>
    ⟨(hbx.keep h).cell 0, (hbx.keep h).cell 1, (hbx.keep h).cell 2, (hbx.keep h).cell 3, (h.cell (p := ⟨g, off, none⟩) (Nat.lt_of_lt_of_le hg hlW.size)).trans hr0'⟩
  obtain ⟨x0, x1, x2, x3, _⟩ := hKP _ (Below.refl _ _)
  have HIA := Lib.hid hia
  have HTO := Lib.hid hto
  have HCO := Lib.hid hco
  have HRO := Lib.hid hro
  have HCK := Lib.hid hck
  have HKP := Lib.hid hKP
  have hnI : (0 : Int) < (n : Int) := by omega
  have hnN : 0 < n := by omega
  clear hbx h0 h1 h2 T T' hck hce hL1 hL2 hr0 hia hto hco hro G hKP hchk h0' h1' h2' hin hv hl0 hI hC hR
  subst hO
  go_enter Try.func33, Try.ntmps33
  go_wp2_with (go_at_call 25; refine (HCK.out).mono ?_; rintro e w1 ⟨rfl, rfl⟩)
  generalize w.alloc (Obj.cells #[.slice A0 n c0, .slice A1 n c1, .slice A2 m c2, .int .i64 cost] 35) = W at *
  have hWd : Below W.heap.size W W.drew := (Below.refl W.heap.size W).drew
  go_region_held3 (fun w' => w'.cell? ⟨w.heap.size, 0, none⟩ = some (.slice A0 n c0) ∧ w'.cell? ⟨w.heap.size, 1, none⟩ = some (.slice A1 n c1) ∧ w'.cell? ⟨w.heap.size, 2, none⟩ = some (.slice A2 m c2) ∧ w'.cell? ⟨g, off, none⟩ = some (.slice Ai m ci))
    (first | exact ⟨x0, x1, x2, hr0'⟩ | exact ⟨k0, k1, k2, k4⟩ | go_keep)
    ((go_at_call 48; (with_reducible refine (HIA.out _ hWd).mono ?_); rintro e w5 ⟨hl5, rfl⟩; have hl5' := hWd.trans hl5; obtain ⟨k0, k1, k2, k3, k4⟩ := HKP.out w5 hl5'))
  clear x0 x1 x2 x3 hr0'
  have hW5 : Below W.heap.size W w5.drew := hl5'.drew
  go_wp2_with (fail)
  go_region_held3 (fun w' => w'.cell? ⟨w.heap.size, 0, none⟩ = some (.slice A0 n c0) ∧ w'.cell? ⟨w.heap.size, 1, none⟩ = some (.slice A1 n c1) ∧ w'.cell? ⟨w.heap.size, 2, none⟩ = some (.slice A2 m c2) ∧ w'.cell? ⟨w.heap.size, 3, none⟩ = some (.int .i64 cost))
    (first | exact ⟨k0, k1, k2, k3⟩ | exact ⟨j0, j1, j2, j3⟩ | exact ⟨i0, i1, i2, i3⟩ | go_keep)
    ((first
      | (go_at_call 49; (with_reducible refine (HTO.out _ hW5).mono ?_); rintro e w6 ⟨rfl, rfl⟩)
      | (go_at_call 57; (with_reducible refine (HCO.out _ hW5).mono ?_); rintro e w7 ⟨hl7, rfl⟩
         have hW7 := hW5.trans (hl7.mono hW5.size)
         obtain ⟨j0, j1, j2, j3, j4⟩ := HKP.out w7 hW7)
      | (go_at_call 58; (with_reducible refine (HRO.out _ hW7).mono ?_); rintro e w8 ⟨hl8, rfl⟩
         have hW8 := hW7.trans (hl8.mono hW7.size)
         obtain ⟨i0, i1, i2, i3, i4⟩ := HKP.out w8 hW8)))
  go_wp2_with (fail)
  go_ret2
  exact ⟨hlW.trans (hW8.mono hlW.size), rfl⟩

end Go.Proofs.Ytncmfjncdhhjoaa
